import Derived.Maps.RangeWalk
import Derived.Deep.DeepCutAuto
import Derived.Deep.CutBlock
import Derived.Test.YtondkinefmjpjaaGreatI22
import Derived.Test.YtondkinefmjpjaaGreatI25
set_option maxHeartbeats 4000000
set_option maxRecDepth 100000
namespace Go.Proofs.YtondkinefmjpjaaGreat
open Go.RowKit Go.WideMaps Go.WideElems Go.Maps
structure HEnv (w:World) (ob wb vb OB VB HB VB2 H:Nat):Prop where
 h:w.cell? ⟨HB,0,none⟩ = some (.func (.func 49) #[] #[.pointer (some ⟨OB,0,none⟩),.pointer (some ⟨VB2,0,none⟩)])
 v:w.cell? ⟨VB,0,none⟩ = some (.pointer (some ⟨vb,0,none⟩))
 o:w.cell? ⟨OB,0,none⟩ = some (.map (some ob))
 v2:w.cell? ⟨VB2,0,none⟩ = some (.pointer (some ⟨vb,0,none⟩))
 hd:w.cell? ⟨vb,3,none⟩ = some (.int .u8 H)
 wo:w.cell? ⟨vb,10,none⟩ = some (.map (some wb))
theorem HEnv.fr {M:Nat -> Prop} {w w':World} {ob wb vb OB VB HB VB2 H:Nat} (h:HEnv w ob wb vb OB VB HB VB2 H) (hf:Fr M w w') (hm:Mps w M):HEnv w' ob wb vb OB VB HB VB2 H :=
 ⟨hf.cell hm h.h,hf.cell hm h.v,hf.cell hm h.o,hf.cell hm h.v2,hf.cell hm h.hd,hf.cell hm h.wo⟩
theorem mps_none (w:World):Mps w (fun _ => False):=fun _ _ h => h.elim
theorem mps_two {w:World} {ob wb:Nat} {O W:List Int -> Int} (hO:CF 93 6 w ob O) (hW:CF 93 6 w wb W):Mps w (fun i => i = ob ∨ i = wb):=by
 rintro i _ (rfl | rfl)
 ·exact hO.isMap
 ·exact hW.isMap
theorem hand_any (ob wb vb OB VB HB VB2 H:Nat) (O W:List Int -> Int) (a:List Int) (c:Int) (w:World) (E:HEnv w ob wb vb OB VB HB VB2 H) (hH:H < 256) (hO:CF 93 6 w ob O) (hW:CF 93 6 w wb W) (hne:ob ≠ wb) (ha:a ∈ box) :
  Calls Tryz.prog 77 #[.agg (i64s a).toArray,.int .i64 (wr c),.pointer (some ⟨HB,0,none⟩),.pointer (some ⟨VB,0,none⟩)] w fun e w' => e = .returned (.tuple #[]) /\ CF 93 6 w' ob (bump O (rst H a) c) /\ CF 93 6 w' wb (bump W (rst H a) c) /\ Fr (fun i => i = ob ∨ i = wb) w w':=by
 have ONLY:=fun (u:World) => only_any H a u hH (box_length ha)
 have hk:=rst_mem ha H
 rw [onlyL_rst] at ONLY
 have UPD:=fun (u:World) (E:HEnv u ob wb vb OB VB HB VB2 H) (hO:CF 93 6 u ob O) (hW:CF 93 6 u wb W) => upd1_any ob wb vb OB VB2 O W (rst H a) c u E.o E.v2 E.wo hO hW hne hk
 obtain ⟨a0,a1,a2,a3,a4,a5,hae⟩:=six a (box_length ha)
 have hA:(i64s a).toArray = #[.int .i64 a0,.int .i64 a1,.int .i64 a2,.int .i64 a3,.int .i64 a4,.int .i64 a5]:=by rw [hae];rfl
 obtain ⟨C,hC⟩:∃ C,wr c = C:=⟨_,rfl⟩
 obtain ⟨K,hK⟩:∃ K,(i64s (rst H a)).toArray = K:=⟨_,rfl⟩
 rw [hA] at ONLY ⊢
 rw [hC] at UPD ⊢
 rw [hK] at ONLY UPD
 have F0:Fr (fun _ => False) w (w.alloc (.cells #[.int .i64 a0,.int .i64 a1,.int .i64 a2,.int .i64 a3,.int .i64 a4,.int .i64 a5] 93)).drew:=(Fr.alloc _ _).trans (Fr.drew _) (fun _ _ h => h)
 have NEXT:∀ w1,Below (w.alloc (.cells #[.int .i64 a0,.int .i64 a1,.int .i64 a2,.int .i64 a3,.int .i64 a4,.int .i64 a5] 93)).drew.heap.size (w.alloc (.cells #[.int .i64 a0,.int .i64 a1,.int .i64 a2,.int .i64 a3,.int .i64 a4,.int .i64 a5] 93)).drew w1 -> Fr (fun _ => False) w w1:=fun w1 hb => F0.trans (Fr.of_below hb) (fun _ _ h => h)
 have HN:Hid _:=NEXT
 have e1:=E.h
 have e2:=E.v
 have e3:=E.hd
 have l1:=World.block_lt_of_cell? _ _ e1
 have l2:=World.block_lt_of_cell? _ _ e2
 have l3:=World.block_lt_of_cell? _ _ e3
 have HE:Hid (HEnv w ob wb vb OB VB HB VB2 H):=E
 clear NEXT F0 hA hae hC hK E
 go_enter Tryz.func77,Tryz.ntmps77
 go_wp2_with fail
 go_region_with (first | (go_at_call 78;refine (ONLY _).mono ?_;rintro e w1 ⟨rfl,hb1⟩;have hf1:=HN.out w1 hb1;have e1':=hf1.cell (mps_none _) e1;have e2':=hf1.cell (mps_none _) e2) | (go_at_call 49;refine (UPD _ (HE.out.fr hf1 (mps_none _)) (hO.fr hf1 (fun h => h)) (hW.fr hf1 (fun h => h))).mono ?_;rintro e w2 ⟨rfl,hC1,hC2,hf2⟩))
 all_goals go_end0
 all_goals exact ⟨rfl,hC1,hC2,(hf1.mono (fun _ _ h => h.elim)).trans hf2 (fun _ _ h => h)⟩
def doneSum (left:Lit -> Bool) (p:List Int -> Bool) (t:List Int -> Int):Int:=Sg box fun a => if p a = true /\ left (klOf a) = false then t a else 0
theorem done_start {left:Lit -> Bool} {p:List Int -> Bool} {t:List Int -> Int} (h:∀ a,a ∈ box -> p a = true -> left (klOf a) = true):doneSum left p t = 0:=by
 refine S_zero fun a ha => if_neg ?_
 rintro ⟨h1,h2⟩
 rw [h a ha h1] at h2;cases h2
theorem done_end {left:Lit -> Bool} {p:List Int -> Bool} {t:List Int -> Int} (h:∀ kl,left kl = false):doneSum left p t = Sg box fun a => if p a = true then t a else 0 :=
 S_congr fun a _ => by simp [h]
theorem done_step {left:Lit -> Bool} {p:List Int -> Bool} (t:List Int -> Int) {x:List Int} (hx:x ∈ box) (hp:p x = true) (hl:left (klOf x) = true):doneSum (fun z => left z && !z.sameKey (klOf x)) p t = doneSum left p t + t x:=by
 have e1:doneSum (fun z => left z && !z.sameKey (klOf x)) p t = Sg box fun a => (if p a = true /\ left (klOf a) = false then t a else 0) + if a = x then t x else 0:=by
  refine S_congr fun a ha => ?_
  by_cases e:a = x
  ·subst e;simp [hp,hl,sameKey_self]
  ·have:(klOf a).sameKey (klOf x) = false:=sameKey_ne (fun h => e (kl_inj (Or.inl rfl) ha hx h))
   simp [this,e]
 have e2:(Sg box fun a => if a = x then t x else 0) = t x:=by rw [S_one (x:=x) box_nodup hx (fun y _ hne => if_neg hne),if_pos rfl]
 rw [e1,S_add,e2];unfold doneSum;rfl
def lkcells (ms:List Nat) (l:List (Nat × Nat)):List Value:=l.flatMap fun e => [.int .i64 e.1,.int .i64 e.2,.int .u8 ((ms.getD e.2 0 &&& ms.getD e.1 0:Nat):Int),.int .u8 ((ms.getD e.2 0 &&& (255 ^^^ ms.getD e.1 0):Nat):Int)]
theorem lkcells_at (ms:List Nat) (l:List (Nat × Nat)) (k:Nat) (hk:k < l.length):(lkcells ms l)[k * 4]? = some (.int .i64 (l.getD k (0,0)).1) /\ (lkcells ms l)[k * 4 + 1]? = some (.int .i64 (l.getD k (0,0)).2) /\
  (lkcells ms l)[k * 4 + 2]? = some (.int .u8 ((ms.getD (l.getD k (0,0)).2 0 &&& ms.getD (l.getD k (0,0)).1 0:Nat):Int)) /\ (lkcells ms l)[k * 4 + 3]? = some (.int .u8 ((ms.getD (l.getD k (0,0)).2 0 &&& (255 ^^^ ms.getD (l.getD k (0,0)).1 0):Nat):Int)):=by
 induction l generalizing k with
 | nil => simp at hk
 | cons d l ih =>
  cases k with
  | zero => simp [lkcells]
  | succ k =>
   have:=ih k (by simpa using hk)
   have e:lkcells ms (d :: l) = [.int .i64 d.1,.int .i64 d.2,.int .u8 ((ms.getD d.2 0 &&& ms.getD d.1 0:Nat):Int),.int .u8 ((ms.getD d.2 0 &&& (255 ^^^ ms.getD d.1 0):Nat):Int)] ++ lkcells ms l:=by simp [lkcells]
   rw [e]
   have e0:(k + 1) * 4 = k * 4 + 4:=by omega
   rw [e0,List.getElem?_append_right (by simp),List.getElem?_append_right (by simp),List.getElem?_append_right (by simp),List.getElem?_append_right (by simp)]
   simpa using this
def mapVs (ib:List Nat):List Value:=ib.map fun b => Value.map (some b)
theorem mapVs_at (ib:List Nat) (k:Nat) (hk:k < ib.length):(mapVs ib)[k]? = some (.map (some (ib.getD k 0))):=by simp [mapVs,List.getD,hk]
structure JEnv (w:World) (vb:Nat) (ms:List Nat) (lk:List (Nat × Nat)) (f:Nat -> List Int -> Int) (ib:List Nat) (g:Nat -> List Int -> Option Nat):Prop where
 lks:∃ lv base,w.cell? ⟨vb,6,none⟩ = some lv /\ w.ownsRow base 163 4 lv lk.length (lkcells ms lk)
 ix:∃ iv base,w.cell? ⟨vb,9,none⟩ = some iv /\ w.ownsRow base 166 1 iv ib.length (mapVs ib)
 len:ib.length = lk.length
 st:∀ l,l < lk.length -> Ixs w (ib.getD l 0) (ms.getD (lk.getD l (0,0)).2 0 &&& ms.getD (lk.getD l (0,0)).1 0) (f (lk.getD l (0,0)).2) (g l)
theorem JEnv.fr {M:Nat -> Prop} {w w':World} {vb:Nat} {ms:List Nat} {lk:List (Nat × Nat)} {f:Nat -> List Int -> Int} {ib:List Nat} {g:Nat -> List Int -> Option Nat} (h:JEnv w vb ms lk f ib g) (hf:Fr M w w') (hm:Mps w M)
  (h1:∀ l,l < lk.length -> ¬ M (ib.getD l 0)) (h2:∀ l,l < lk.length -> ∀ k,k ∈ box -> ∀ c,g l k = some c -> ¬ M c):JEnv w' vb ms lk f ib g:=by
 obtain ⟨⟨lv,b1,q1,q2⟩,⟨iv,b2,q3,q4⟩,q5,q6⟩:=h
 exact ⟨⟨lv,b1,hf.cell hm q1,hf.own hm q2⟩,⟨iv,b2,hf.cell hm q3,hf.own hm q4⟩,q5,fun l hl => (q6 l hl).block (hf.block _ (q6 l hl).o.lt (h1 l hl)) (fun k hk c hc => hf.block _ ((q6 l hl).i k hk c hc).1.lt (h2 l hl k hk c hc))⟩
theorem wpList_next_A (w:World) {ops:Array Oper} {rest:List Oper} {o:Oper} {a:Act} {Q:Exit -> Act -> World -> Prop} (hg:o.guard = none) (it:Operand) (hop:o.op = Op.next it false) (b r n:Nat) (D:DataW Unit) (left:Lit -> Bool) (cnt:Nat) (hit:a.eval it = .pointer (some ⟨r,0,none⟩)) (h:w.ranges Tryz.prog 93 (plainElem Tryz.prog 3) b r n D left cnt)
  (hDone:(∀ kl,left kl = false) -> wpList Tryz.prog ops Q rest (a.put o.dst (.tuple #[.bool false])) w)
  (hMore:∀ (x0 x1 x2 x3 x4 x5 c:Int) (w':World) (cnt':Nat),left (klOf [x0,x1,x2,x3,x4,x5]) = true -> (∀ zd,D.atKey (klOf [x0,x1,x2,x3,x4,x5]) zd = i64d c) -> wfA [x0,x1,x2,x3,x4,x5] -> w'.ranges Tryz.prog 93 (plainElem Tryz.prog 3) b r n D (fun z => left z && !z.sameKey (klOf [x0,x1,x2,x3,x4,x5])) cnt' -> cnt' < cnt ->
   w.grownBy w' (some r) -> w'.heap.size = w.heap.size -> (Instr.entry (.pointer (some ⟨r,0,none⟩))).run Tryz.prog w' = .ok (.tuple #[.agg #[.int .i64 x0,.int .i64 x1,.int .i64 x2,.int .i64 x3,.int .i64 x4,.int .i64 x5],.int .i64 c]) w' -> wpList Tryz.prog ops Q rest (a.put o.dst (.tuple #[.bool true,.agg #[.int .i64 x0,.int .i64 x1,.int .i64 x2,.int .i64 x3,.int .i64 x4,.int .i64 x5],.int .i64 c])) w') :
  wpList Tryz.prog ops Q (o :: rest) a w:=by
 refine wpList_next_ranges (α:=Int × Int × Int × Int × Int × Int) (β:=Int) w hg it hop 93 (Keyed.of_law lawA) (plainElem Tryz.prog 3) (fun x => .agg #[.int .i64 x.1,.int .i64 x.2.1,.int .i64 x.2.2.1,.int .i64 x.2.2.2.1,.int .i64 x.2.2.2.2.1,.int .i64 x.2.2.2.2.2]) (fun c => .int .i64 c) (fun key kl hk => ?_) (fun v y hv => ?_) b r n D left cnt hit h (fun _ hl => hDone hl) ?_
 ·obtain ⟨l,hl,_,rfl,_⟩:=keyA_inv hk
  obtain ⟨a0,a1,a2,a3,a4,a5,rfl⟩:=six l hl
  exact ⟨(a0,a1,a2,a3,a4,a5),rfl⟩
 ·obtain ⟨c,rfl,_⟩:=plainElem_int_inv Tryz.underlying3 hv
  exact ⟨c,rfl⟩
 ·rintro ⟨x0,x1,x2,x3,x4,x5⟩ c kl y w' cnt' hk hlk hv hat hrg hlt hgr hsz hen
  obtain ⟨l,hl,hw,he,rfl⟩:=keyA_inv hk
  obtain ⟨a0,a1,a2,a3,a4,a5,rfl⟩:=six l hl
  simp [i64s] at he
  obtain ⟨rfl,rfl,rfl,rfl,rfl,rfl⟩:=he
  obtain ⟨c',ec,rfl,_⟩:=plainElem_int_inv Tryz.underlying3 hv
  cases ec
  exact hMore _ _ _ _ _ _ c w' cnt' hlk hat hw hrg hlt hgr hsz hen
end Go.Proofs.YtondkinefmjpjaaGreat
