import Derived.Test.YtondkinefmjpjaaGreatI37
import Derived.Test.YtondkinefmjpjaaGreatI39
import Derived.Test.YtondkinefmjpjaaGreatI54
import Derived.Test.YtondkinefmjpjaaGreatI56
namespace Go.Proofs.YtondkinefmjpjaaGreat
open Go.RowKit Go.WideMaps Go.WideElems Go.Maps Go.Shelf
def RelFull (P:PlanD):Prop:=∀ r,r < P.rels.length -> ∃ i,i < P.ms.length /\ P.relOf i = r
end Go.Proofs.YtondkinefmjpjaaGreat
namespace Go.Proofs.YtondkinefmjpjaaGreat.K
open Go.RowKit Go.WideMaps Go.WideElems Go.Maps Go.Shelf
theorem orN_bit (l:List Nat) (j:Nat):(orN l).testBit j = true ↔ j ∈ l:=by
 unfold orN
 suffices hh:∀ (l:List Nat) (a:Nat),(l.foldl (fun a n => a ||| 2 ^ n) a).testBit j = true ↔ a.testBit j = true ∨ j ∈ l by
  rw [hh l 0];simp
 intro l
 induction l with
 | nil => intro a;simp
 | cons n l ih =>
  intro a
  rw [List.foldl_cons,ih,Nat.testBit_or,Nat.testBit_two_pow,List.mem_cons]
  by_cases e:n = j
  ·subst e;simp
  ·have e':¬ j = n:=fun h => e h.symm
   simp [e,e']
theorem plan_head (c:CS):HdOk (planOf c):=fun j _ => orN_bit (hdN c) j
theorem plan_full {s:ByteArray} (h:pG s = true):RelFull (planOf (rq s (c0 s)).2):=by
 have hR:=relsK_in (rq s (c0 s)).2.ats (rq s (c0 s)).2.ats.length
 have hQ:=(plan_ok h).2
 intro r hr
 obtain ⟨i,h1,h2,_⟩:=hR.hd r hr
 obtain ⟨r',h3,h4⟩:=hR.all i h1
 have h5:=(hR.mem r' h3 i h4).2
 have e:=hR.nam r r' hr h3 (h2.symm.trans h5)
 subst e
 have hm:i < (planOf (rq s (c0 s)).2).ms.length:=by
  show i < ((rq s (c0 s)).2.ats.map msk).length
  rw [List.length_map];exact h1
 exact ⟨i,hm,((hQ.iff r hr i hm).1 h4).symm⟩
end Go.Proofs.YtondkinefmjpjaaGreat.K
namespace Go.Proofs.YtondkinefmjpjaaGreat
open Go.RowKit Go.WideMaps Go.WideElems Go.Maps Go.Shelf
theorem rix_name {P:PlanD} {t:ByteArray} {r:Nat} (h:rixOf P.rels t = (r:Int)):r < P.rels.length /\ (P.rel r).1.toList = t.toList:=by
 have:=rix_yes (rels:=P.rels) (rel:=t) (by omega)
 rw [h,Int.toNat_natCast] at this
 exact this
theorem nam_zero {P:PlanD} (hF:RelFull P) (h1:1 <= P.ms.length) (R:Nat -> List Int -> Int) {names:List ByteArray} (hall:∀ j,j < names.length -> ∃ r:Nat,rixOf P.rels (names.getD j ByteArray.empty) = (r:Int)) (a:List Int):P.wor (cont P (clrR (namS P names) R)) a = 0:=by
 cases names with
 | nil => exact clr_wor (i:=0) (by omega) (by simp [namS]) a
 | cons n names =>
  obtain ⟨r,hr⟩:=hall 0 (by simp)
  obtain ⟨h2,h3⟩:=rix_name hr
  obtain ⟨i,hi,e⟩:=hF r h2
  refine clr_wor hi ?_ a
  rw [e]
  unfold namS
  rw [List.any_cons,h3]
  simp
theorem least {p:Nat -> Prop} (n:Nat):p n -> ∃ m,m <= n /\ p m /\ ∀ j,j < m -> ¬ p j:=by
 induction n using Nat.strongRecOn with
 | ind n ih =>
  intro h
  by_cases hx:∃ j,j < n /\ p j
  ·obtain ⟨j,hj,hp⟩:=hx
   obtain ⟨m,h1,h2,h3⟩:=ih j hj hp
   exact ⟨m,by omega,h2,h3⟩
  ·exact ⟨n,Nat.le_refl _,h,fun j hj hp => hx ⟨j,hj,hp⟩⟩
def ClC (w:World) (vb:Nat) (P:PlanD) (rb ib:List Nat) (wb:Nat) (R:Nat -> List Int -> Int) (own:Nat -> Option (Nat × List Int)) (names:List ByteArray) (vv:Value) (c:Int) (w1:World):Prop :=
 (c = 5 /\ vv = .slice none 0 0 /\ Below w.heap.size w w1 /\ ∃ j,j < names.length /\ rixOf P.rels (names.getD j ByteArray.empty) = -1) ∨ (c = 0 /\ (∀ j,j < names.length -> ∃ r:Nat,rixOf P.rels (names.getD j ByteArray.empty) = (r:Int)) /\ ∃ us l g',RNew 55 w.heap.size w1 vv us (l.map negR) /\ l.Perm (rowsL (hvals P.head) (P.wor (cont P R)) (live 6 (P.wor (cont P R)))) /\ RiseL l /\ VSt w1 vb P rb ib wb (clrR (namS P names) R) g' own /\ VUp w w1 own own)
theorem clear_c {w:World} {vb:Nat} {P:PlanD} {rb ib:List Nat} {wb:Nat} {R:Nat -> List Int -> Int} {g:Nat -> List Int -> Option Nat} {own:Nat -> Option (Nat × List Int)} (h:VSt w vb P rb ib wb R g own) (hF:RelFull P) (names:List ByteArray) {v:Value} (hv:SReads w v names) (hl:names.length <= 1000) :
  Calls Tryz.prog 18 #[.pointer (some ⟨vb,0,none⟩),v] w fun e w' => ∃ v,e = .returned v /\ ∃ vv c,v = .tuple #[vv,.int .i64 c] /\ ClC w vb P rb ib wb R own names vv c w':=by
 by_cases hall:∀ j,j < names.length -> ∃ r:Nat,rixOf P.rels (names.getD j ByteArray.empty) = (r:Int)
 ·refine (Clear_ok h names hv hl hall (nam_zero hF h.ok.n1 R hall)).mono ?_
  rintro e w' ⟨vv,us,l,g',rfl,q1,q2,q3,q4,q5⟩
  exact ⟨_,rfl,vv,0,rfl,Or.inr ⟨rfl,hall,us,l,g',q1,q2,q3,q4,q5⟩⟩
 ·obtain ⟨j,hj⟩:=Classical.not_forall.1 hall
  obtain ⟨hj1,hj2⟩:=Classical.not_imp.1 hj
  obtain ⟨m,h1,⟨h2,h3⟩,h4⟩:=least (p:=fun j => j < names.length /\ rixOf P.rels (names.getD j ByteArray.empty) = -1) j ⟨hj1,by
   rcases rix_cases P.rels (names.getD j ByteArray.empty) with e | ⟨r,_,e⟩
   ·exact e
   ·exact absurd ⟨r,e⟩ hj2⟩
  refine (Clear_no h names hv hl h2 h3 (fun k hk => ?_)).mono ?_
  ·rcases rix_cases P.rels (names.getD k ByteArray.empty) with e | ⟨r,_,e⟩
   ·exact absurd ⟨by omega,e⟩ (h4 k hk)
   ·exact ⟨r,e⟩
  ·rintro e w' ⟨rfl,hb⟩
   exact ⟨_,rfl,_,5,rfl,Or.inl ⟨rfl,rfl,hb,m,h2,h3⟩⟩
def nmOf (A:Int) (S T:ByteArray):List ByteArray:=if A = 0 then [] else if A = 1 then [S] else [S,T]
theorem nmOf_len (A:Int) (S T:ByteArray):(nmOf A S T).length <= 1000:=by
 unfold nmOf;split
 ·simp
 ·split <;> simp
end Go.Proofs.YtondkinefmjpjaaGreat
