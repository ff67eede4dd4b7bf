import Derived.Test.YtondkinefmjpjaaGreatProg
import Derived.WalkKit
import Derived.WalkSpells
import Derived.WalkLawsBesides
import Derived.Deep.QuietTactic
import Derived.BigQuiet
import Derived.Maps.OwnSet
import Derived.Maps.OwnOps
import Derived.WideKeyArr
import Derived.WideKeyEntry
import Derived.Deep.RegionLaw
import Derived.Maps.RangeWalk
set_option maxHeartbeats 4000000
set_option maxRecDepth 100000
namespace Go.Proofs.YtondkinefmjpjaaGreat
open Go.RowKit
theorem vret_bool {a b:Bool} (h:a = b):Ending.returned (.bool a) = .returned (.bool b):=by rw [h]
theorem bit_eq (s i:Nat) (hs:s < 256):(bits BinOp.and IntKind.u8 ((s:Int) / 2 ^ i) 1 == 1) = s.testBit i:=by
 have h0:((s:Int) / 2 ^ i) = ((s / 2 ^ i:Nat):Int):=by simp
 have h1:s / 2 ^ i < 256:=Nat.lt_of_le_of_lt (Nat.div_le_self _ _) hs
 have h2:(BitVec.ofInt 8 ((s / 2 ^ i:Nat):Int)).toNat = s / 2 ^ i:=by
  rw [BitVec.ofInt_natCast,BitVec.toNat_ofNat];exact Nat.mod_eq_of_lt (by omega)
 have h3:(BitVec.ofInt 8 (1:Int)).toNat = 1:=by decide
 have h4:bits BinOp.and IntKind.u8 ((s:Int) / 2 ^ i) 1 = (((s / 2 ^ i) % 2:Nat):Int):=by
  rw [h0]
  show IntKind.u8.wrap ((BitVec.ofInt 8 ((s / 2 ^ i:Nat):Int) &&& BitVec.ofInt 8 (1:Int)).toNat:Int) = _
  rw [BitVec.toNat_and,h2,h3,Nat.and_one_is_mod,IntKind.wrap_u8];omega
 rw [h4,Nat.testBit_eq_decide_div_mod_eq,Bool.eq_iff_iff]
 simp;omega
theorem has_any (s:Nat) (i:Nat) (w:World) (hs:s < 256) (hi:i <= 7) :
  Calls Tryz.prog 148 #[.int .u8 s,.int .i64 i] w fun e w' => e = .returned (.bool (s.testBit i)) /\ w' = w:=by
 have HE:Hid _:=bit_eq s i hs
 go_enter Tryz.func148,Tryz.ntmps148
 go_wp2
 go_ret
 exact ⟨vret_bool HE.out,rfl⟩
def i64s (l:List Int):List Value:=l.map (Value.int .i64)
def mixL (s:Nat) (a o:List Int) (k:Nat):List Int:=(List.range a.length).map fun j => if j < k /\ s.testBit j = true then o.getD j 0 else a.getD j 0
theorem mixL_len (s:Nat) (a o:List Int) (k:Nat):(mixL s a o k).length = a.length:=by simp [mixL]
theorem mixL_zero (s:Nat) (a o:List Int):mixL s a o 0 = a:=by
 apply List.ext_getElem (by simp [mixL])
 intro i h1 h2;simp [mixL,List.getD,h2]
theorem mixL_no {s:Nat} {a o:List Int} {k:Nat} (h:s.testBit k = false):mixL s a o (k + 1) = mixL s a o k:=by
 unfold mixL
 apply List.map_congr_left
 intro j _
 by_cases e:j = k
 ·subst e;simp [h]
 ·have:j < k + 1 ↔ j < k:=by omega
  simp [this]
theorem mixL_yes {s:Nat} {a o:List Int} {k:Nat} (h:s.testBit k = true):mixL s a o (k + 1) = (mixL s a o k).set k (o.getD k 0):=by
 apply List.ext_getElem (by simp [mixL])
 intro j h1 h2
 have hj:j < a.length:=by simpa [mixL] using h1
 rw [List.getElem_set]
 by_cases e:k = j
 ·subst e;simp [mixL,h]
 ·have:j < k + 1 ↔ j < k:=by omega
  simp [mixL,e,this]
theorem blk_cell {w:World} {b:Nat} {l:List Int} {t:TypeId} (h:w.heap[b]? = some (.cells (i64s l).toArray t (0,0))) (k:Nat) (hk:k < l.length):w.cell? ⟨b,k,none⟩ = some (.int .i64 (l.getD k 0)):=by
 simp [World.cell?,h,i64s,List.getD,hk]
theorem blk_free {w:World} {b:Nat} {c:Array Value} {t:TypeId} (h:w.heap[b]? = some (.cells c t (0,0))) (k:Nat):w.frozen? ⟨b,k,none⟩ = false:=by
 simp [World.frozen?,h]
theorem vlt_of_block {w:World} {b:Nat} {o:Obj} (h:w.heap[b]? = some o):b < w.heap.size:=(Array.getElem?_eq_some_iff.1 h).1
theorem vheap_alloc_new (w:World) (o:Obj):(w.alloc o).heap[w.heap.size]? = some o:=by
 show (w.heap.push o)[w.heap.size]? = _
 simp
theorem blk_setCell {w:World} {b:Nat} {c:Array Value} {t:TypeId} (h:w.heap[b]? = some (.cells c t (0,0))) (j:Nat) (u:Value) :
  (w.setCell ⟨b,j,none⟩ u).heap[b]? = some (.cells (c.setIfInBounds j u) t (0,0)):=by
 have hlt:=vlt_of_block h
 have h':w.heap[b] = .cells c t (0,0):=by simpa [Array.getElem?_eq_getElem hlt] using h
 show (w.heap.modify b _)[b]? = _
 rw [Array.getElem?_eq_getElem (by simpa using hlt),Array.getElem_modify_self,h']
 rfl
theorem six (a:List Int) (h:a.length = 6):∃ a0 a1 a2 a3 a4 a5,a = [a0,a1,a2,a3,a4,a5]:=by
 match a,h with
 | [a0,a1,a2,a3,a4,a5],_ => exact ⟨a0,a1,a2,a3,a4,a5,rfl⟩
theorem with_any (s:Nat) (a o:List Int) (w:World) (hs:s < 256) (ha:a.length = 6) (ho:o.length = 6) :
  Calls Tryz.prog 111 #[.agg (i64s a).toArray,.int .u8 s,.agg (i64s o).toArray] w fun e w' => e = .returned (.agg (i64s (mixL s a o 6)).toArray) /\ Below w.heap.size w w':=by
 obtain ⟨a0,a1,a2,a3,a4,a5,hae⟩:=six a ha
 obtain ⟨o0,o1,o2,o3,o4,o5,hoe⟩:=six o ho
 have HA:Hid (a = [a0,a1,a2,a3,a4,a5]):=hae
 have HO:Hid (o = [o0,o1,o2,o3,o4,o5]):=hoe
 rw [show (i64s a).toArray = #[.int .i64 a0,.int .i64 a1,.int .i64 a2,.int .i64 a3,.int .i64 a4,.int .i64 a5] by rw [hae];rfl,show (i64s o).toArray = #[.int .i64 o0,.int .i64 o1,.int .i64 o2,.int .i64 o3,.int .i64 o4,.int .i64 o5] by rw [hoe];rfl]
 clear hae hoe
 go_enter Tryz.func111,Tryz.ntmps111
 have SA:Hid ((i64s (mixL s a o 0)).toArray = #[.int .i64 a0,.int .i64 a1,.int .i64 a2,.int .i64 a3,.int .i64 a4,.int .i64 a5]):=by unfold Hid;rw [mixL_zero,HA.out];rfl
 have SO:Hid ((i64s o).toArray = #[.int .i64 o0,.int .i64 o1,.int .i64 o2,.int .i64 o3,.int .i64 o4,.int .i64 o5]):=by unfold Hid;rw [HO.out];rfl
 go_wp2_with fail
 go_loopw [7,8] (fun _ iv wr => ∃ k:Nat,k <= 6 /\ iv = .int .i64 k /\ Below w.heap.size w wr /\ wr.heap[w.heap.size]? = some (.cells (i64s (mixL s a o k)).toArray 93 (0,0)) /\ wr.heap[w.heap.size + 1]? = some (.cells (i64s o).toArray 93 (0,0)) /\
  wr.heap[w.heap.size + 2]? = some (.cells #[.int .i64 0,.int .i64 0,.int .i64 0,.int .i64 0,.int .i64 0,.int .i64 0] 93 (0,0))) (fun _ iv _ => 6 - (intOf iv).toNat)
 case atStart =>
  refine ⟨0,Nat.zero_le _,rfl,(((Below.refl _ _).alloc (Nat.le_refl _) _).alloc (by simp) _).alloc (by simp;omega) _,?_,?_,?_⟩
  ·rw [SA.out];exact (Below.heap_alloc _ _ _ (by simp;omega)).trans ((Below.heap_alloc _ _ _ (by simp)).trans (heap_alloc_new _ _))
  ·rw [SO.out]
   refine (Below.heap_alloc _ _ _ (by simp)).trans ?_
   have:=heap_alloc_new (w.alloc (.cells #[.int .i64 a0,.int .i64 a1,.int .i64 a2,.int .i64 a3,.int .i64 a4,.int .i64 a5] 93)) (.cells #[.int .i64 o0,.int .i64 o1,.int .i64 o2,.int .i64 o3,.int .i64 o4,.int .i64 o5] 93)
   simpa using this
  ·have:=heap_alloc_new ((w.alloc (.cells #[.int .i64 a0,.int .i64 a1,.int .i64 a2,.int .i64 a3,.int .i64 a4,.int .i64 a5] 93)).alloc (.cells #[.int .i64 o0,.int .i64 o1,.int .i64 o2,.int .i64 o3,.int .i64 o4,.int .i64 o5] 93)) (.cells #[.int .i64 0,.int .i64 0,.int .i64 0,.int .i64 0,.int .i64 0,.int .i64 0] 93)
   simpa using this
 case round =>
  obtain ⟨k,hk,rfl,hb,b0,b1,b2⟩:=hrel
  have l2:=vlt_of_block b2
  have l0:w.heap.size < wr.heap.size:=by omega
  have l1:w.heap.size + 1 < wr.heap.size:=by omega
  by_cases hlt:k < 6
  ·have c0:=blk_cell b0 k (by rw [mixL_len];omega)
   have c1:=blk_cell b1 k (by omega)
   have f0:=blk_free b0 k
   have hk6:(k:Int) < 6:=by omega
   cases hx:s.testBit k
   ·have HM:Hid (mixL s a o (k + 1) = mixL s a o k):=mixL_no hx
    go_wp2_with fail
    refine (has_any s k _ hs (by omega)).mono ?_
    rintro e w1 ⟨rfl,rfl⟩
    rw [hx]
    go_wp2_with fail
    go_roundw
    case rel => exact ⟨k + 1,by omega,by go_num,hb,by rw [HM.out];exact b0,b1,b2⟩
    case measure => simp [intOf];omega
   ·have HM:Hid (mixL s a o (k + 1) = (mixL s a o k).set k (o.getD k 0)):=mixL_yes hx
    go_wp2_with fail
    refine (has_any s k _ hs (by omega)).mono ?_
    rintro e w1 ⟨rfl,rfl⟩
    rw [hx]
    go_wp2_with fail
    go_roundw
    case rel =>
     refine ⟨k + 1,by omega,by go_num,hb.setCell (p:=⟨w.heap.size,k,none⟩) (Nat.le_refl _) _,?_,?_,?_⟩
     ·rw [HM.out,blk_setCell b0 k _];simp [i64s,List.map_set,List.getD,show k < o.length by omega]
     ·rw [Below.heap_setCell _ _ _ _ (by show w.heap.size + 1 ≠ w.heap.size;omega)];exact b1
     ·rw [Below.heap_setCell _ _ _ _ (by show w.heap.size + 2 ≠ w.heap.size;omega)];exact b2
    case measure => simp [intOf];omega
  ·have hk6:k = 6:=by omega
   subst hk6
   obtain ⟨m0,m1,m2,m3,m4,m5,hm⟩:=six (mixL s a o 6) (by rw [mixL_len];exact ha)
   rw [hm] at b0
   have HR:Hid ((i64s (mixL s a o 6)).toArray = #[.int .i64 m0,.int .i64 m1,.int .i64 m2,.int .i64 m3,.int .i64 m4,.int .i64 m5]):=by unfold Hid;rw [hm];rfl
   have d0:=blk_cell b0 0 (by simp)
   have d1:=blk_cell b0 1 (by simp)
   have d2:=blk_cell b0 2 (by simp)
   have d3:=blk_cell b0 3 (by simp)
   have d4:=blk_cell b0 4 (by simp)
   have d5:=blk_cell b0 5 (by simp)
   simp only [List.getD_eq_getElem?_getD,List.getElem?_cons_zero,List.getElem?_cons_succ,Option.getD_some] at d0 d1 d2 d3 d4 d5
   have z0:wr.cell? ⟨w.heap.size + 2,0,none⟩ = some (.int .i64 0):=by simp [World.cell?,b2]
   have z1:wr.cell? ⟨w.heap.size + 2,1,none⟩ = some (.int .i64 0):=by simp [World.cell?,b2]
   have z2:wr.cell? ⟨w.heap.size + 2,2,none⟩ = some (.int .i64 0):=by simp [World.cell?,b2]
   have z3:wr.cell? ⟨w.heap.size + 2,3,none⟩ = some (.int .i64 0):=by simp [World.cell?,b2]
   have z4:wr.cell? ⟨w.heap.size + 2,4,none⟩ = some (.int .i64 0):=by simp [World.cell?,b2]
   have z5:wr.cell? ⟨w.heap.size + 2,5,none⟩ = some (.int .i64 0):=by simp [World.cell?,b2]
   have g0:=blk_free b2 0
   have g1:=blk_free b2 1
   have g2:=blk_free b2 2
   have g3:=blk_free b2 3
   have g4:=blk_free b2 4
   have g5:=blk_free b2 5
   clear hm b0 b1 b2
   go_wp2_with fail
   refine bodyPost_ret (v:=.agg #[.int .i64 m0,.int .i64 m1,.int .i64 m2,.int .i64 m3,.int .i64 m4,.int .i64 m5]) (by simp [results,Tryz.results111,go_sem,z0,z1,z2,z3,z4,z5]) rfl ⟨?_,?_⟩
   ·rw [HR.out]
   ·repeat (refine Below.setCell ?_ (by simp;try omega) _)
    exact hb
def zeros6:List Int:=[0,0,0,0,0,0]
def onlyL (s:Nat) (a:List Int):List Int:=mixL s zeros6 a 6
theorem onlyL_len (s:Nat) (a:List Int):(onlyL s a).length = 6:=by unfold onlyL;rw [mixL_len];rfl
theorem only_any (s:Nat) (a:List Int) (w:World) (hs:s < 256) (ha:a.length = 6) :
  Calls Tryz.prog 78 #[.agg (i64s a).toArray,.int .u8 s] w fun e w' => e = .returned (.agg (i64s (onlyL s a)).toArray) /\ Below w.heap.size w w':=by
 obtain ⟨a0,a1,a2,a3,a4,a5,rfl⟩:=six a ha
 obtain ⟨m0,m1,m2,m3,m4,m5,hm⟩:=six (onlyL s [a0,a1,a2,a3,a4,a5]) (onlyL_len _ _)
 have HM:Hid (mixL s zeros6 [a0,a1,a2,a3,a4,a5] 6 = [m0,m1,m2,m3,m4,m5]):=hm
 rw [hm]
 clear hm
 show Calls Tryz.prog 78 #[.agg #[.int .i64 a0,.int .i64 a1,.int .i64 a2,.int .i64 a3,.int .i64 a4,.int .i64 a5],.int .u8 s] w fun e w' => e = .returned (.agg #[.int .i64 m0,.int .i64 m1,.int .i64 m2,.int .i64 m3,.int .i64 m4,.int .i64 m5]) /\ Below w.heap.size w w'
 go_enter Tryz.func78,Tryz.ntmps78
 go_wp2_with fail
 refine (with_any s zeros6 [a0,a1,a2,a3,a4,a5] _ hs rfl rfl).mono ?_
 rintro e w1 ⟨rfl,hb1⟩
 rw [HM.out]
 have b1:w1.heap[w.heap.size + 1]? = some (.cells #[.int .i64 0,.int .i64 0,.int .i64 0,.int .i64 0,.int .i64 0,.int .i64 0] 93 (0,0)):=by
  refine (hb1.block (w.heap.size + 1) (by simp)).trans ?_
  have:=vheap_alloc_new (w.alloc (.cells #[.int .i64 a0,.int .i64 a1,.int .i64 a2,.int .i64 a3,.int .i64 a4,.int .i64 a5] 93)) (.cells #[.int .i64 0,.int .i64 0,.int .i64 0,.int .i64 0,.int .i64 0,.int .i64 0] 93)
  simpa using this
 have hb:Below w.heap.size w w1:=(((Below.refl _ _).alloc (Nat.le_refl _) _).alloc (by simp) _).trans (hb1.mono (by simp;omega))
 have z0:w1.cell? ⟨w.heap.size + 1,0,none⟩ = some (.int .i64 0):=by simp [World.cell?,b1]
 have z1:w1.cell? ⟨w.heap.size + 1,1,none⟩ = some (.int .i64 0):=by simp [World.cell?,b1]
 have z2:w1.cell? ⟨w.heap.size + 1,2,none⟩ = some (.int .i64 0):=by simp [World.cell?,b1]
 have z3:w1.cell? ⟨w.heap.size + 1,3,none⟩ = some (.int .i64 0):=by simp [World.cell?,b1]
 have z4:w1.cell? ⟨w.heap.size + 1,4,none⟩ = some (.int .i64 0):=by simp [World.cell?,b1]
 have z5:w1.cell? ⟨w.heap.size + 1,5,none⟩ = some (.int .i64 0):=by simp [World.cell?,b1]
 have g0:=blk_free b1 0
 have g1:=blk_free b1 1
 have g2:=blk_free b1 2
 have g3:=blk_free b1 3
 have g4:=blk_free b1 4
 have g5:=blk_free b1 5
 rw [show (i64s [m0,m1,m2,m3,m4,m5]).toArray = #[.int .i64 m0,.int .i64 m1,.int .i64 m2,.int .i64 m3,.int .i64 m4,.int .i64 m5] from rfl]
 clear b1
 go_wp2_with fail
 refine bodyPost_ret (v:=.agg #[.int .i64 m0,.int .i64 m1,.int .i64 m2,.int .i64 m3,.int .i64 m4,.int .i64 m5]) (by simp [results,Tryz.results78,go_sem,z0,z1,z2,z3,z4,z5]) rfl ⟨rfl,?_⟩
 repeat (refine Below.setCell ?_ (by simp) _)
 exact hb
def tW (v:Bool) (n:Int) (a:List Int):Int:=if v then a.getD n.toNat 0 else n
theorem worth_any (v:Bool) (n:Int) (a:List Int) (w:World) (ha:a.length = 6) (hn:v = true -> 0 <= n /\ n < 6) :
  Calls Tryz.prog 110 #[.agg #[.bool v,.int .i64 n],.agg (i64s a).toArray] w fun e w' => e = .returned (.int .i64 (tW v n a)) /\ Below w.heap.size w w':=by
 obtain ⟨W,hW⟩:∃ W,tW v n a = W:=⟨_,rfl⟩
 have HW:Hid (tW v n a = W):=hW
 rw [hW]
 clear hW
 obtain ⟨a0,a1,a2,a3,a4,a5,rfl⟩:=six a ha
 cases v
 ·have hW:Hid (W = n):=HW.out.symm
  show Calls Tryz.prog 110 #[.agg #[.bool false,.int .i64 n],.agg #[.int .i64 a0,.int .i64 a1,.int .i64 a2,.int .i64 a3,.int .i64 a4,.int .i64 a5]] w _
  go_enter Tryz.func110,Tryz.ntmps110
  go_wp2
  go_ret
  exact ⟨by rw [hW.out];rfl,((Below.refl _ _).alloc (Nat.le_refl _) _).alloc (by simp) _⟩
 ·obtain ⟨h0,h1⟩:=hn rfl
  obtain ⟨k,rfl⟩:∃ k:Nat,n = k:=⟨n.toNat,by omega⟩
  have hk:k < 6:=by omega
  have cc:((w.alloc (.cells #[.bool true,.int .i64 (k:Int)] 205)).alloc (.cells (i64s [a0,a1,a2,a3,a4,a5]).toArray 93)).cell? ⟨w.heap.size + 1,k,none⟩ = some (.int .i64 ([a0,a1,a2,a3,a4,a5].getD k 0)):=by
   have:=vheap_alloc_new (w.alloc (.cells #[.bool true,.int .i64 (k:Int)] 205)) (.cells (i64s [a0,a1,a2,a3,a4,a5]).toArray 93)
   exact blk_cell (by simpa using this) k (by simpa using hk)
  show Calls Tryz.prog 110 #[.agg #[.bool true,.int .i64 k],.agg #[.int .i64 a0,.int .i64 a1,.int .i64 a2,.int .i64 a3,.int .i64 a4,.int .i64 a5]] w _
  have cc':((w.alloc (.cells #[.bool true,.int .i64 (k:Int)] 205)).alloc (.cells #[.int .i64 a0,.int .i64 a1,.int .i64 a2,.int .i64 a3,.int .i64 a4,.int .i64 a5] 93)).cell? ⟨w.heap.size + 1,k,none⟩ = some (.int .i64 ([a0,a1,a2,a3,a4,a5].getD k 0)):=cc
  have hV:[a0,a1,a2,a3,a4,a5].getD k 0 = W:=by rw [← HW.out];simp [tW]
  rw [hV] at cc'
  clear hV cc
  go_enter Tryz.func110,Tryz.ntmps110
  go_wp2
  go_ret
  exact ⟨rfl,((Below.refl _ _).alloc (Nat.le_refl _) _).alloc (by simp) _⟩
end Go.Proofs.YtondkinefmjpjaaGreat
namespace Go.Proofs.YtondkinefmjpjaaGreat
open Go.RowKit Go.WideMaps Go.WideElems
theorem arrA:ArrKey Tryz.prog 93 3 6:=⟨Tryz.underlying93,by kernel_rfl,by kernel_rfl,by kernel_rfl⟩
theorem arrT:ArrKey Tryz.prog 110 3 3:=⟨Tryz.underlying110,by kernel_rfl,by kernel_rfl,by kernel_rfl⟩
theorem typesSize:∃ m,Tryz.prog.types.size = m + 1:=⟨283,by kernel_rfl⟩
def wfA (a:List Int):Prop:=∀ x,x ∈ a -> (Lit.int .i64 x).wf = true
def klOf (a:List Int):Lit:=.string (keyBytes (a.map (Lit.int .i64)))
theorem keyA (a:List Int) (ha:a.length = 6) (hw:wfA a):keyOf Tryz.prog 93 (.agg (i64s a).toArray) = some (klOf a):=by
 obtain ⟨a0,a1,a2,a3,a4,a5,rfl⟩:=six a ha
 have w0:=hw a0 (by simp)
 have w1:=hw a1 (by simp)
 have w2:=hw a2 (by simp)
 have w3:=hw a3 (by simp)
 have w4:=hw a4 (by simp)
 have w5:=hw a5 (by simp)
 have hkt:=arrA.keyType typesSize
 obtain ⟨m,hm⟩:=typesSize
 unfold keyOf
 simp only [arrA.hu]
 rw [if_pos (by simp [hkt,Value.formed,arrA.hu,arrA.size,i64s]),hm]
 unfold Program.keyLits
 simp only [arrA.hu,Value.cells]
 rw [if_pos (by rw [arrA.size];rfl),show List.range 6 = [0,1,2,3,4,5] from rfl]
 simp only [List.mapM_cons,List.mapM_nil]
 simp [arrA.one,Program.keyLits,Tryz.underlying3,w0,w1,w2,w3,w4,w5,i64s,klOf]
theorem key_uniq {l:List MapEntry} (h:(l.map (·.key)).Nodup) {a c:MapEntry} (ha:a ∈ l) (hc:c ∈ l) (e:a.key = c.key):a = c:=by
 induction l with
 | nil => simp at ha
 | cons x l ih =>
  simp only [List.map_cons,List.nodup_cons] at h
  rcases List.mem_cons.1 ha with rfl | ha'
  ·rcases List.mem_cons.1 hc with rfl | hc
   ·rfl
   ·exact absurd (List.mem_map.2 ⟨c,hc,e.symm⟩) h.1
  ·clear ha
   rcases List.mem_cons.1 hc with rfl | hc
   ·exact absurd (List.mem_map.2 ⟨a,by assumption,e⟩) h.1
   ·exact ih h.2 (by assumption) hc
theorem entry_mid {H:Type} {P:Program} {w:World} {t k e:TypeId} {R:Value -> Option (DataW H × List MemPlace)} {b:Nat} {es:Array MapEntry} {clock:Nat} (K:KeyLaw P k) (ht:P.underlying t = some (.map k e)) {z:Value} (hz:∀ u:World,(zeroValue e).run P u = .ok z u) (hb:w.heap[b]? = some (.map es clock)) (F:Fit P k R es clock)
  {key:Value} {kl:Lit} (hkey:keyOf P k key = some kl) :
  ∃ (v0:Value) (st:Nat) (o1:Obj),(Instr.mapEntry t (.map (some b)) key).run P w = .ok (.tuple #[v0,goInt st]) (ChangeMaps.setBlock w b o1) /\ (Instr.lookup t (.map (some b)) key false).run P w = .ok v0 w /\
   (∀ x:World,x.heap[b]? = some o1 -> (Instr.lookup t (.map (some b)) key false).run P x = .ok v0 x) /\
   ∀ (x:World) (val:Value),x.heap[b]? = some o1 -> ∃ o2,(Instr.entryStore t (.map (some b)) (goInt st) val).run P x = .ok () (ChangeMaps.setBlock x b o2) /\ (Instr.mapUpdate t (.map (some b)) key val).run P w = .ok () (ChangeMaps.setBlock w b o2):=by
 obtain ⟨v0,st,es1,clock1,g1,_,g3⟩:=entry_then_store K ht hz hb F hkey
 have look:∀ (x:World) (es':Array MapEntry) (c':Nat),x.heap[b]? = some (.map es' c') -> (∀ y ∈ es'.toList,∃ l,keyOf P k y.key = some l) -> ∀ e1 ∈ es'.toList,e1.key = key -> (∀ e2 ∈ es'.toList,e2.key = key -> e2 = e1) ->
   (Instr.lookup t (.map (some b)) key false).run P x = .ok e1.val x:=by
  intro x es' c' hx hk e1 m1 k1 u1
  rcases K.find x hkey es'.toList hk with ⟨f1,f2⟩ | ⟨j,e2,f1,f2,f3⟩
  ·exact absurd k1 (f2 e1 m1)
  ·have:=u1 e2 (List.mem_of_getElem? f2) f3
   subst this
   simp [Instr.lookup,run_underlying ht,MapKept.run_getObj_map hx,K.check x _ hkey,f1,Result.andThen]
 have same:∀ (v:Value) (s:Nat) (o:Obj),(Instr.mapEntry t (.map (some b)) key).run P w = .ok (.tuple #[v,goInt s]) (ChangeMaps.setBlock w b o) -> v = v0 /\ o = .map es1 clock1:=by
  intro v s o hrun
  rw [g1] at hrun
  injection hrun with hv hw
  have hv':v0 = v:=by
   have:=congrArg (fun x => match x with | Value.tuple c => c[0]? | _ => none) hv
   simpa using this
  have e1:=ChangeMaps.heap_setBlock_same hb (.map es1 clock1)
  have e2:=ChangeMaps.heap_setBlock_same hb o
  rw [hw,e2] at e1
  exact ⟨hv'.symm,by simpa using e1⟩
 obtain ⟨s1,s2,s3⟩:=F.stamped
 rcases K.find w hkey es.toList F.keys with ⟨h1,h2⟩ | ⟨j,e0,h1,h2,h3⟩
 ·have hrun:(Instr.mapEntry t (.map (some b)) key).run P w = .ok (.tuple #[z,goInt clock]) (ChangeMaps.setBlock w b (.map (es.push ⟨key,z,clock⟩) (clock + 1))):=by
   simp [Instr.mapEntry,run_underlying ht,MapKept.run_getObj_map hb,K.check w false hkey,h1,hz,MapKept.run_setObj_map _ hb,Result.andThen,ChangeMaps.setBlock]
  obtain ⟨q1,q2⟩:=same _ _ _ hrun
  subst q1
  refine ⟨z,st,.map es1 clock1,g1,?_,fun x hx => ?_,fun x val hx => ?_⟩
  ·simp [Instr.lookup,run_underlying ht,MapKept.run_getObj_map hb,K.check w _ hkey,h1,hz,Result.andThen]
  ·rw [← q2] at hx
   refine look x _ _ hx ?_ ⟨key,z,clock⟩ (by simp) rfl ?_
   ·intro y hy
    have hy':y ∈ es ∨ y = ⟨key,z,clock⟩:=by simpa using hy
    rcases hy' with hy' | rfl
    ·exact F.keys y (by simpa using hy')
    ·exact ⟨kl,hkey⟩
   ·intro e2 m2 k2
    have m2':e2 ∈ es ∨ e2 = ⟨key,z,clock⟩:=by simpa using m2
    rcases m2' with m2' | m2'
    ·exact absurd k2 (h2 e2 (by simpa using m2'))
    ·exact m2'
  ·obtain ⟨es',c',r1,r2⟩:=g3 x val hx
   exact ⟨_,r1,r2⟩
 ·have hj:es[j]? = some e0:=by simpa using h2
  have hmem:=List.mem_of_getElem? h2
  have uniq:∀ e2 ∈ es.toList,e2.key = key -> e2 = e0:=by
   intro e2 m2 k2
   exact key_uniq s3 m2 hmem (k2.trans h3.symm)
  have hsame:es.modify j (fun e => { e with key:=key }) = es:=by
   apply Array.ext'
   rw [Array.toList_modify,ChangeMaps.modify_eq_set _ _ _ _ h2]
   have:({ e0 with key:=key }:MapEntry) = e0:=by rw [← h3]
   rw [this]
   exact set_self _ _ _ h2
  have hrun:(Instr.mapEntry t (.map (some b)) key).run P w = .ok (.tuple #[e0.val,goInt e0.born]) (ChangeMaps.setBlock w b (.map es clock)):=by
   simp [Instr.mapEntry,run_underlying ht,MapKept.run_getObj_map hb,K.check w false hkey,h1,hj,h3,K.stays w hkey,hsame,MapKept.run_setObj_map _ hb,Result.andThen,ChangeMaps.setBlock]
  obtain ⟨q1,q2⟩:=same _ _ _ hrun
  subst q1
  refine ⟨e0.val,st,.map es1 clock1,g1,?_,fun x hx => ?_,fun x val hx => ?_⟩
  ·exact look w es clock hb F.keys e0 hmem h3 uniq
  ·rw [← q2] at hx
   exact look x es clock hx F.keys e0 hmem h3 uniq
  ·obtain ⟨es',c',r1,r2⟩:=g3 x val hx
   exact ⟨_,r1,r2⟩
end Go.Proofs.YtondkinefmjpjaaGreat
namespace Go.Proofs.YtondkinefmjpjaaGreat
open Go.RowKit Go.WideMaps Go.WideElems Go.Maps
section
variable {P:Program} {ops:Array Oper} {o:Oper} {a:Act} {w:World} {K:Act -> World -> Prop} {Q:Exit -> Act -> World -> Prop} {E:Prop}
end
theorem lawA:KeyLaw Tryz.prog 93:=arrA.law
theorem zero3 (u:World):(zeroValue 3).run Tryz.prog u = .ok (.int .i64 0) u:=by kernel_rfl
abbrev CMap (w:World) (b n:Nat) (D:DataW Unit):Prop:=w.ownsMap Tryz.prog 93 (plainElem Tryz.prog 3) b n D
theorem setB_same {w:World} {b:Nat} (h:b < w.heap.size) (o:Obj):(ChangeMaps.setBlock w b o).heap[b]? = some o:=by simp [ChangeMaps.setBlock,h]
theorem setB_other {w:World} {b:Nat} (o:Obj) {i:Nat} (h:i ≠ b):(ChangeMaps.setBlock w b o).heap[i]? = w.heap[i]?:=by simp [ChangeMaps.setBlock,Array.getElem?_setIfInBounds_ne (Ne.symm h)]
theorem setB_size {w:World} {b:Nat} (o:Obj):(ChangeMaps.setBlock w b o).heap.size = w.heap.size:=by simp [ChangeMaps.setBlock]
def i64d (c:Int):DataW Unit:=.lit (.int .i64 c)
def addD (D:DataW Unit) (kl:Lit) (s:Int):DataW Unit:=if s = 0 then (D.put kl (i64d 0)).del kl else D.put kl (i64d s)
theorem addA_core {w:World} {b n:Nat} {D:DataW Unit} {a:List Int} {c s:Int} (hown:CMap w b n D) (hn:n < maxLen) (ha:a.length = 6) (hw:wfA a) (hc:D.atKey (klOf a) (i64d 0) = i64d c) (hwf:(Lit.int .i64 s).wf = true) :
  ∃ (st:Nat) (o1 o2:Obj),(Instr.mapEntry 86 (.map (some b)) (.agg (i64s a).toArray)).run Tryz.prog w = .ok (.tuple #[.int .i64 c,goInt st]) (ChangeMaps.setBlock w b o1) /\
   (Instr.lookup 86 (.map (some b)) (.agg (i64s a).toArray) false).run Tryz.prog w = .ok (.int .i64 c) w /\
   (Instr.lookup 86 (.map (some b)) (.agg (i64s a).toArray) false).run Tryz.prog (ChangeMaps.setBlock w b o1) = .ok (.int .i64 c) (ChangeMaps.setBlock w b o1) /\
   (Instr.entryStore 86 (.map (some b)) (goInt st) (.int .i64 s)).run Tryz.prog (ChangeMaps.setBlock w b o1) = .ok () (ChangeMaps.setBlock (ChangeMaps.setBlock w b o1) b o2) /\
   CMap (ChangeMaps.setBlock (ChangeMaps.setBlock w b o1) b o2) b (n + 1) (D.put (klOf a) (i64d s)) /\ w.grownBy (ChangeMaps.setBlock (ChangeMaps.setBlock w b o1) b o2) (some b):=by
 have hkey:=keyA a ha hw
 obtain ⟨c',hl,hat,_⟩:=hown.lookup_int (Keyed.of_law lawA) Tryz.underlying86 Tryz.underlying3 (zero3 w) hkey
 have hcc:c' = c:=by
  have:=hat.symm.trans hc
  simpa [i64d] using this
 subst hcc
 obtain ⟨w',hu,hown',hg'⟩:=hown.update (Keyed.of_law lawA) Tryz.underlying86 hn (val:=.int .i64 s) (d:=i64d s) (ps:=[]) hkey (plainElem_int Tryz.underlying3 hwf)
 have hlt:=hown.lt
 obtain ⟨es,clock,hb,F,hs,hD⟩:=hown
 obtain ⟨v0,st,o1,e1,e2,e3,e4⟩:=entry_mid lawA Tryz.underlying86 zero3 hb F hkey
 have hv:v0 = .int .i64 c':=by
  have:=e2.symm.trans hl
  simp only [Result.ok.injEq,and_true] at this
  exact this
 subst hv
 have h1:(ChangeMaps.setBlock w b o1).heap[b]? = some o1:=setB_same hlt o1
 obtain ⟨o2,s1,s2⟩:=e4 (ChangeMaps.setBlock w b o1) (.int .i64 s) h1
 have hw':w' = ChangeMaps.setBlock w b o2:=by
  have:=hu.symm.trans s2
  simp only [Result.ok.injEq,true_and] at this
  exact this
 subst hw'
 refine ⟨st,o1,o2,e1,hl,e3 _ h1,s1,?_,?_⟩
 ·obtain ⟨es',c2,hb',F',hs',hD'⟩:=hown'
  rw [setB_same hlt o2] at hb'
  exact ⟨es',c2,by rw [setB_same (by rw [setB_size];exact hlt) o2];exact hb',F',hs',hD'⟩
 ·refine ⟨rfl,rfl,rfl,by rw [setB_size,setB_size];exact Nat.le_refl _,fun i _ hi => ?_⟩
  have hne:i ≠ b:=fun e => hi (by rw [e])
  rw [setB_other o2 hne,setB_other o1 hne]
theorem addA_any (b n:Nat) (D:DataW Unit) (a:List Int) (c x:Int) (w:World) (hown:CMap w b n D) (hn:n < maxLen) (ha:a.length = 6) (hw:wfA a) (hc:D.atKey (klOf a) (i64d 0) = i64d c)
  (s:Int) (hs:IntKind.i64.wrap (c + x) = s) :
  Calls Tryz.prog 50 #[.map (some b),.agg (i64s a).toArray,.int .i64 x] w fun e w' => e = .returned (.tuple #[]) /\ CMap w' b (n + 1) (addD D (klOf a) s) /\ w.grownBy w' (some b):=by
 have hwf:(Lit.int .i64 s).wf = true:=by rw [← hs,IntKind.wrap_i64];exact WalkArith.wf_i64 (by omega)
 obtain ⟨R,hR⟩:∃ R,addD D (klOf a) s = R:=⟨_,rfl⟩
 have HR:Hid (addD D (klOf a) s = R):=hR
 rw [hR]
 clear hR
 have hlt:=hown.lt
 have hkey:=keyA a ha hw
 obtain ⟨a0,a1,a2,a3,a4,a5,hae⟩:=six a ha
 have hA:(i64s a).toArray = #[.int .i64 a0,.int .i64 a1,.int .i64 a2,.int .i64 a3,.int .i64 a4,.int .i64 a5]:=by rw [hae];rfl
 have hown0:CMap (w.alloc (.cells #[.int .i64 a0,.int .i64 a1,.int .i64 a2,.int .i64 a3,.int .i64 a4,.int .i64 a5] 93)).drew b n D:=(hown.alloc _).drew
 obtain ⟨st,o1,o2,e1,e2,e3,e4,hown2,hg2⟩:=addA_core (s:=s) hown0 hn ha hw hc hwf
 rw [hA] at e1 e2 e3 hkey ⊢
 have hg:w.grownBy (ChangeMaps.setBlock (ChangeMaps.setBlock (w.alloc (.cells #[.int .i64 a0,.int .i64 a1,.int .i64 a2,.int .i64 a3,.int .i64 a4,.int .i64 a5] 93)).drew b o1) b o2) (some b) :=
  ⟨hg2.os,hg2.tape,hg2.output,Nat.le_trans (by simp) hg2.size,fun i hi hne => (hg2.block i (by simpa using Nat.lt_succ_of_lt hi) hne).trans (Below.heap_alloc _ _ _ hi)⟩
 have HK:Hid (keyOf Tryz.prog 93 (.agg #[.int .i64 a0,.int .i64 a1,.int .i64 a2,.int .i64 a3,.int .i64 a4,.int .i64 a5]) = some (klOf a)):=hkey
 have hbx:(ChangeMaps.setBlock (ChangeMaps.setBlock (w.alloc (.cells #[.int .i64 a0,.int .i64 a1,.int .i64 a2,.int .i64 a3,.int .i64 a4,.int .i64 a5] 93)).drew b o1) b o2).heap[w.heap.size]? = some (.cells #[.int .i64 a0,.int .i64 a1,.int .i64 a2,.int .i64 a3,.int .i64 a4,.int .i64 a5] 93 (0,0)):=by
  rw [setB_other o2 (by omega),setB_other o1 (by omega)];exact vheap_alloc_new w (.cells #[.int .i64 a0,.int .i64 a1,.int .i64 a2,.int .i64 a3,.int .i64 a4,.int .i64 a5] 93)
 have hat2:(D.put (klOf a) (i64d s)).atKey (klOf a) (i64d 0) = i64d s:=by
  refine atKey_put_same ?_ ?_ _ _
  ·obtain ⟨es,_,_,_,_,hD⟩:=hown;exact ⟨_,hD⟩
  ·exact (Keyed.of_law lawA).key hkey
 obtain ⟨c2,hl2,hat3,_⟩:=hown2.lookup_int (Keyed.of_law lawA) Tryz.underlying86 Tryz.underlying3 (zero3 _) hkey
 have hc2:c2 = s:=by
  have:=hat3.symm.trans hat2
  simpa [i64d] using this
 rw [hc2] at hl2
 obtain ⟨W2,hW2⟩:∃ W2:World,ChangeMaps.setBlock (ChangeMaps.setBlock (w.alloc (.cells #[.int .i64 a0,.int .i64 a1,.int .i64 a2,.int .i64 a3,.int .i64 a4,.int .i64 a5] 93)).drew b o1) b o2 = W2:=⟨_,rfl⟩
 rw [hW2] at hg hown2 e4 hbx hl2
 have d0:W2.cell? ⟨w.heap.size,0,none⟩ = some (.int .i64 a0):=by simp [World.cell?,hbx]
 have d1:W2.cell? ⟨w.heap.size,1,none⟩ = some (.int .i64 a1):=by simp [World.cell?,hbx]
 have d2:W2.cell? ⟨w.heap.size,2,none⟩ = some (.int .i64 a2):=by simp [World.cell?,hbx]
 have d3:W2.cell? ⟨w.heap.size,3,none⟩ = some (.int .i64 a3):=by simp [World.cell?,hbx]
 have d4:W2.cell? ⟨w.heap.size,4,none⟩ = some (.int .i64 a4):=by simp [World.cell?,hbx]
 have d5:W2.cell? ⟨w.heap.size,5,none⟩ = some (.int .i64 a5):=by simp [World.cell?,hbx]
 have HG:Hid _:=hg
 have e4':(Instr.entryStore 86 (.map (some b)) (.int .i64 (st:Int)) (.int .i64 s)).run Tryz.prog (ChangeMaps.setBlock (w.alloc (.cells #[.int .i64 a0,.int .i64 a1,.int .i64 a2,.int .i64 a3,.int .i64 a4,.int .i64 a5] 93)).drew b o1) = .ok () W2:=e4
 clear hkey hA hae hown0 hg2 hg hwf e4 hat2 hat3 hbx hW2 hc2
 go_enter Tryz.func50,Tryz.ntmps50
 go_wp2_with fail
 cases hz:(s == 0)
 ·have HF:Hid (R = D.put (klOf a) (i64d s)):=by
   have:¬ s = 0:=by have:=beq_eq_false_iff_ne.1 hz;exact this
   unfold Hid;rw [← HR.out,addD,if_neg this]
  go_region_law (first | (refine step_look rfl (.tmp 6) (.tmp 7) 86 rfl (.map (some b)) _ (.int .i64 c) rfl rfl (by first | exact e2 | exact e3) ?_) | (refine step_entry rfl (.tmp 6) (.tmp 7) 86 rfl (.map (some b)) _ _ _ rfl rfl e1 ?_))
  all_goals go_wp2_with fail
  all_goals go_end0
  all_goals exact ⟨rfl,by rw [HF.out];exact hown2,HG.out⟩
 ·have h0:s = 0:=beq_iff_eq.1 hz
  have HF:Hid (R = (D.put (klOf a) (i64d s)).del (klOf a)):=by
   unfold Hid;rw [← HR.out,addD,if_pos h0,h0]
  clear h0
  go_region_law (first | (refine step_look rfl (.tmp 6) (.tmp 7) 86 rfl (.map (some b)) _ (.int .i64 c) rfl rfl (by first | exact e2 | exact e3) ?_) | (refine step_entry rfl (.tmp 6) (.tmp 7) 86 rfl (.map (some b)) _ _ _ rfl rfl e1 ?_))
  all_goals go_wp2_with (at_delete;refine wpList_delete_own _ rfl (.tmp 17) (.tmp 18) 86 93 rfl 3 (Keyed.of_law lawA) Tryz.underlying86 _ b (n + 1) _ rfl hown2 _ _ rfl HK.out ?_;intro w5 hown5 hturn5)
  all_goals go_end0
  all_goals exact ⟨rfl,by rw [HF.out];exact hown5,HG.out.andThen hturn5.grown (fun _ h => Or.inr h)⟩
end Go.Proofs.YtondkinefmjpjaaGreat
namespace Go.Proofs.YtondkinefmjpjaaGreat
open Go.RowKit
def nats (l:List Nat):List Value:=l.map fun (n:Nat) => Value.int .i64 n
theorem nats_at {w:World} {base g n cap:Nat} {l:List Nat} (h:w.ownsRow base 3 1 (.slice (some ⟨g,0,none⟩) n cap) n (nats l)) (hl:l.length = n) (j:Nat) (hj:j < n):w.cell? ⟨g,j,none⟩ = some (.int .i64 ((l.getD j 0:Nat):Int)):=by
 rw [h.cellAt j (by omega)];simp [nats,List.getElem?_map,List.getElem?_eq_getElem (show j < l.length by omega)]
theorem getD_mem {l:List Nat} {k:Nat} (hk:k < l.length):l.getD k 0 ∈ l:=by
 rw [List.getD_eq_getElem?_getD,List.getElem?_eq_getElem hk];exact List.getElem_mem hk
theorem vown_below {w w':World} {base:Nat} {e:TypeId} {size:Nat} {v:Value} {n:Nat} {xs:List Value} (h:w.ownsRow base e size v n xs) (hb:Below w.heap.size w w'):w'.ownsRow base e size v n xs:=by
 refine ⟨h.1,?_⟩
 rcases h.2 with hn | ⟨g,cap,cur,rfl,h1,h2,rest⟩
 ·exact .inl hn
 ·exact .inr ⟨g,cap,cur,rfl,h1,(hb.block g (vlt_of_block h2)).trans h2,rest⟩
theorem vown_form {w:World} {base:Nat} {e:TypeId} {size:Nat} {v:Value} {n:Nat} {xs:List Value} (h:w.ownsRow base e size v n xs):∃ a cap,v = .slice a n cap:=by
 rcases h.2 with ⟨rfl,rfl⟩ | ⟨g,cap,cur,rfl,_⟩
 ·exact ⟨_,_,rfl⟩
 ·exact ⟨_,_,rfl⟩
theorem vown_some {w:World} {base:Nat} {e:TypeId} {size:Nat} {v:Value} {n:Nat} {xs:List Value} (h:w.ownsRow base e size v n xs) (hn:0 < n):∃ g cap,v = .slice (some ⟨g,0,none⟩) n cap:=by
 rcases h.2 with ⟨rfl,rfl⟩ | ⟨g,cap,cur,rfl,_⟩
 ·omega
 ·exact ⟨_,_,rfl⟩
theorem Tryz.info3:(Tryz.prog.info? 3).map (fun i => (i.zero,i.size,i.bytes)) = some (some (.int .i64 0),1,8):=by kernel_rfl
theorem made_ints (n:Nat):(madeCells (Value.cells (.int .i64 0)) (n * 1)).toList = List.replicate n (.int .i64 0):=by
 simp [madeCells,Value.cells,Nat.mod_one,List.map_const']
def hvK (head:List Nat) (a:List Int) (k:Nat):List Int:=(List.range head.length).map fun j => if j < k then a.getD (head.getD j 0) 0 else 0
theorem hvK_zero (head:List Nat) (a:List Int):i64s (hvK head a 0) = List.replicate head.length (.int .i64 0):=by
 simp [hvK,i64s,List.map_const']
theorem hvK_step (head:List Nat) (a:List Int) (k:Nat) (_hk:k < head.length):i64s (hvK head a (k + 1)) = (i64s (hvK head a k)).set k (.int .i64 (a.getD (head.getD k 0) 0)):=by
 apply List.ext_getElem (by simp [hvK,i64s])
 intro j h1 h2
 have hj:j < head.length:=by simpa [hvK,i64s] using h1
 rw [List.getElem_set]
 by_cases e:k = j
 ·subst e;simp [hvK,i64s]
 ·have:j < k + 1 ↔ j < k:=by omega
  simp [hvK,i64s,e,this]
def hvals (head:List Nat) (a:List Int):List Int:=head.map fun n => a.getD n 0
theorem hvK_end (head:List Nat) (a:List Int):hvK head a head.length = hvals head a:=by
 apply List.ext_getElem (by simp [hvK,hvals])
 intro j h1 h2
 have hj:j < head.length:=by simpa [hvK] using h1
 simp [hvK,hvals,hj]
theorem vret_int {a b:Int} (h:a = b):Ending.returned (.int .i64 a) = .returned (.int .i64 b):=by rw [h]
def cmpI (x y:Int):Int:=if x < y then -1 else if y < x then 1 else 0
def cmpL:List Int -> List Int -> Int
 | [],[] => 0
 | [],_ :: _ => -1
 | _ :: _,[] => 1
 | x :: xs,y :: ys => if cmpI x y = 0 then cmpL xs ys else cmpI x y
def Reads (w:World) (v:Value) (xs:List Int):Prop:=∃ a cap,v = .slice a xs.length cap /\ (0 < xs.length -> ∃ g off,a = some ⟨g,off,none⟩ /\ ∀ j,j < xs.length -> w.cell? ⟨g,off + j,none⟩ = some (.int .i64 (xs.getD j 0)))
theorem Reads.below {w w':World} {v:Value} {xs:List Int} (h:Reads w v xs) (hb:Below w.heap.size w w'):Reads w' v xs:=by
 obtain ⟨a,cap,rfl,h2⟩:=h
 refine ⟨a,cap,rfl,fun hl => ?_⟩
 obtain ⟨g,off,rfl,h3⟩:=h2 hl
 exact ⟨g,off,rfl,fun j hj => (hb.cell (p:=⟨g,off + j,none⟩) (World.block_lt_of_cell? _ _ (h3 j hj))).trans (h3 j hj)⟩
theorem reads_own {w:World} {base n:Nat} {v:Value} {xs:List Int} (h:w.ownsRow base 3 1 v n (i64s xs)) (hn:xs.length = n):Reads w v xs:=by
 subst hn
 obtain ⟨a,cap,rfl⟩:=vown_form h
 refine ⟨a,cap,rfl,fun hl => ?_⟩
 obtain ⟨g,cap',he⟩:=vown_some h hl
 simp only [Value.slice.injEq,true_and] at he
 obtain ⟨rfl,rfl⟩:=he
 refine ⟨g,0,rfl,fun j hj => ?_⟩
 rw [Nat.zero_add,h.cellAt j (by omega)];simp [i64s,List.getD,hj]
theorem isNaN_any (x:Int) (w:World):Calls Tryz.prog 147 #[.int .i64 x] w fun e w' => e = .returned (.bool false) /\ w' = w:=by
 have h:(x != x) = false:=by simp
 go_enter Tryz.func147,Tryz.ntmps147
 go_wp2
 go_ret
 exact ⟨rfl,rfl⟩
theorem cmp_any (x y:Int) (w:World):Calls Tryz.prog 109 #[.int .i64 x,.int .i64 y] w fun e w' => e = .returned (.int .i64 (cmpI x y)) /\ w' = w:=by
 by_cases h1:x < y
 ·have HE:Hid (cmpI x y = -1):=by unfold Hid cmpI;rw [if_pos h1]
  go_enter Tryz.func109,Tryz.ntmps109
  go_wp2_with (go_at_call 147;refine (isNaN_any _ _).mono ?_;rintro e w' ⟨rfl,rfl⟩)
  go_ret
  exact ⟨vret_int HE.out.symm,rfl⟩
 ·by_cases h2:y < x
  ·have HE:Hid (cmpI x y = 1):=by unfold Hid cmpI;rw [if_neg h1,if_pos h2]
   go_enter Tryz.func109,Tryz.ntmps109
   go_wp2_with (go_at_call 147;refine (isNaN_any _ _).mono ?_;rintro e w' ⟨rfl,rfl⟩)
   go_ret
   exact ⟨vret_int HE.out.symm,rfl⟩
  ·have HE:Hid (cmpI x y = 0):=by unfold Hid cmpI;rw [if_neg h1,if_neg h2]
   go_enter Tryz.func109,Tryz.ntmps109
   go_wp2_with (go_at_call 147;refine (isNaN_any _ _).mono ?_;rintro e w' ⟨rfl,rfl⟩)
   go_ret
   exact ⟨vret_int HE.out.symm,rfl⟩
theorem cmpL_drop (xs ys:List Int) (k:Nat) (h1:k < xs.length) (h2:k < ys.length):cmpL (xs.drop k) (ys.drop k) = if cmpI (xs.getD k 0) (ys.getD k 0) = 0 then cmpL (xs.drop (k + 1)) (ys.drop (k + 1)) else cmpI (xs.getD k 0) (ys.getD k 0):=by
 rw [List.drop_eq_getElem_cons h1,List.drop_eq_getElem_cons h2,cmpL]
 simp [List.getD,h1,h2]
theorem Compare_any (v1 v2:Value) (xs ys:List Int) (w:World) (h1:Reads w v1 xs) (h2:Reads w v2 ys) (l1:xs.length <= 1000) (l2:ys.length <= 1000) :
  Calls Tryz.prog 70 #[v1,v2] w fun e w' => e = .returned (.int .i64 (cmpL xs ys)) /\ w' = w:=by
 obtain ⟨a1,c1,rfl,r1⟩:=h1
 obtain ⟨a2,c2,rfl,r2⟩:=h2
 obtain ⟨C,hC⟩:∃ C,cmpL xs ys = C:=⟨_,rfl⟩
 have HC:Hid (cmpL xs ys = C):=hC
 rw [hC]
 clear hC
 have R1:Hid _:=r1
 have R2:Hid _:=r2
 clear r1 r2
 go_enter Tryz.func70,Tryz.ntmps70
 go_wp2_with fail
 go_loop [5,6,7,8,11] (fun _ _ _ _ iv => ∃ k:Nat,k <= xs.length /\ k <= ys.length /\ iv = .int .i64 k /\ cmpL (xs.drop k) (ys.drop k) = C) (fun _ _ _ _ iv => xs.length - (intOf iv).toNat)
 case atStart => exact ⟨0,Nat.zero_le _,Nat.zero_le _,rfl,HC.out⟩
 case round =>
  obtain ⟨k,hk1,hk2,rfl,hk⟩:=hrel
  have HK:Hid (cmpL (xs.drop k) (ys.drop k) = C):=hk
  clear hk
  by_cases hx:k < xs.length
  ·obtain ⟨g1,o1,rfl,q1⟩:=R1.out (by omega)
   have d1:=q1 k hx
   by_cases hy:k < ys.length
   ·obtain ⟨g2,o2,rfl,q2⟩:=R2.out (by omega)
    have d2:=q2 k hy
    have HD:Hid _:=cmpL_drop xs ys k hx hy
    obtain ⟨X,hX⟩:∃ X,xs.getD k 0 = X:=⟨_,rfl⟩
    obtain ⟨Y,hY⟩:∃ Y,ys.getD k 0 = Y:=⟨_,rfl⟩
    rw [hX] at d1 HD
    rw [hY] at d2 HD
    clear hX hY q1 q2
    have hyn:¬ ((ys.length:Int) <= (k:Int)):=by omega
    go_wp2_with fail
    refine (cmp_any X Y _).mono ?_
    rintro e w' ⟨rfl,rfl⟩
    obtain ⟨Z,hZ⟩:∃ Z,cmpI X Y = Z:=⟨_,rfl⟩
    rw [hZ] at HD ⊢
    clear hZ
    cases hz:(Z != 0)
    ·have HR:Hid (cmpL (xs.drop (k + 1)) (ys.drop (k + 1)) = C):=by
      have:=HK.out;rw [HD.out,if_pos (bne_eq_false_iff_eq.1 hz)] at this;exact this
     go_wp2_with fail
     go_round
     case rel => exact ⟨k + 1,by omega,by omega,by go_num,HR.out⟩
     case measure => simp [intOf];omega
    ·have HR:Hid (Z = C):=by
      have:=HK.out;rw [HD.out,if_neg (bne_iff_ne.1 hz)] at this;exact this
     go_wp2_with fail
     go_ret
     exact ⟨vret_int HR.out,rfl⟩
   ·have HR:Hid (C = 1):=by
     have:=HK.out
     rw [show ys.drop k = [] from List.drop_of_length_le (by omega),List.drop_eq_getElem_cons hx,cmpL] at this
     exact this.symm
    have hyn:(ys.length:Int) <= (k:Int):=by omega
    clear q1
    go_wp2_with fail
    go_ret
    exact ⟨vret_int HR.out.symm,rfl⟩
  ·by_cases hy:xs.length < ys.length
   ·have HR:Hid (C = -1):=by
     have:=HK.out
     rw [List.drop_of_length_le (by omega),List.drop_eq_getElem_cons (by omega),cmpL] at this
     exact this.symm
    go_wp2_with fail
    go_ret
    exact ⟨vret_int HR.out.symm,rfl⟩
   ·have HR:Hid (C = 0):=by
     have:=HK.out
     rw [List.drop_of_length_le (by omega),List.drop_of_length_le (by omega),cmpL] at this
     exact this.symm
    go_wp2_with fail
    go_ret
    exact ⟨vret_int HR.out.symm,rfl⟩
end Go.Proofs.YtondkinefmjpjaaGreat
namespace Go.Proofs.YtondkinefmjpjaaGreat
open Go.RowKit Go.WideMaps Go.WideElems Go.Maps
theorem lit_int {P:Program} {e:TypeId} (he:P.underlying e = some (.int .i64)) {d:Nat} {c:List Value} {ls:List Lit} (h:P.keyLits (d + 1) e c = some ls):∃ x:Int,c = [.int .i64 x] /\ ls = [.int .i64 x] /\ (Lit.int .i64 x).wf = true:=by
 unfold Program.keyLits at h
 rw [he] at h
 cases c with
 | nil => simp at h
 | cons v r =>
  cases r with
  | cons u r => cases v <;> simp at h
  | nil =>
   cases v <;> simp at h
   obtain ⟨⟨rfl,hw⟩,rfl⟩:=h
   exact ⟨_,rfl,rfl,hw⟩
theorem key6_inv {P:Program} {k e:TypeId} (A:ArrKey P k e 6) (he:P.underlying e = some (.int .i64)) (hsz:∃ m,P.types.size = m + 1) {key:Value} {kl:Lit} (h:keyOf P k key = some kl) :
  ∃ a:List Int,a.length = 6 /\ wfA a /\ key = .agg (i64s a).toArray /\ kl = klOf a:=by
 obtain ⟨m,hm⟩:=hsz
 unfold keyOf at h
 simp only [A.hu] at h
 rw [hm] at h
 split at h
 ·rename_i hf
  obtain ⟨ls,h1,h2⟩:=Option.map_eq_some_iff.1 h
  unfold Program.keyLits at h1
  simp only [A.hu] at h1
  split at h1
  ·rename_i hlen
   rw [A.size] at hlen
   obtain ⟨lss,h3,h4⟩:=Option.map_eq_some_iff.1 h1
   have hform:∃ cs,key = .agg cs:=by
    rw [Bool.and_eq_true] at hf
    have:=hf.2
    cases key <;> simp [Value.formed,A.hu] at this
    exact ⟨_,rfl⟩
   obtain ⟨cs,rfl⟩:=hform
   simp only [Value.cells] at hlen h3
   obtain ⟨l⟩:=cs
   simp only at hlen h3
   match l,hlen,h3 with
   | [v0,v1,v2,v3,v4,v5],_,h3 =>
    rw [show List.range 6 = [0,1,2,3,4,5] from rfl] at h3
    simp only [List.mapM_cons,List.mapM_nil,A.one,Option.bind_eq_bind,Option.pure_def,Option.bind_eq_some_iff,Option.some.injEq] at h3
    obtain ⟨l0,e0,_,⟨l1,e1,_,⟨l2,e2,_,⟨l3,e3,_,⟨l4,e4,_,⟨l5,e5,_,rfl,rfl⟩,rfl⟩,rfl⟩,rfl⟩,rfl⟩,rfl⟩:=h3
    obtain ⟨x0,c0,rfl,w0⟩:=lit_int he e0
    obtain ⟨x1,c1,rfl,w1⟩:=lit_int he e1
    obtain ⟨x2,c2,rfl,w2⟩:=lit_int he e2
    obtain ⟨x3,c3,rfl,w3⟩:=lit_int he e3
    obtain ⟨x4,c4,rfl,w4⟩:=lit_int he e4
    obtain ⟨x5,c5,rfl,w5⟩:=lit_int he e5
    simp at c0 c1 c2 c3 c4 c5
    subst c0 c1 c2 c3 c4 c5
    refine ⟨[x0,x1,x2,x3,x4,x5],rfl,?_,rfl,?_⟩
    ·intro x hx
     simp at hx
     rcases hx with rfl | rfl | rfl | rfl | rfl | rfl <;> assumption
    ·rw [← h2,← h4];simp [klOf]
  ·cases h1
 ·cases h
theorem keyA_inv {key:Value} {kl:Lit} (h:keyOf Tryz.prog 93 key = some kl):∃ a:List Int,a.length = 6 /\ wfA a /\ key = .agg (i64s a).toArray /\ kl = klOf a :=
 key6_inv arrA Tryz.underlying3 typesSize h
theorem klOf_inj {a b:List Int} (ha:a.length = 6) (hb:b.length = 6) (wa:wfA a) (wb:wfA b) (h:klOf a = klOf b):a = b:=by
 have h1:=keyA a ha wa
 have h2:=keyA b hb wb
 rw [← h] at h2
 have:=lawA.inj h1 h2
 obtain ⟨a0,a1,a2,a3,a4,a5,rfl⟩:=six a ha
 obtain ⟨b0,b1,b2,b3,b4,b5,rfl⟩:=six b hb
 simpa [i64s] using this
end Go.Proofs.YtondkinefmjpjaaGreat
