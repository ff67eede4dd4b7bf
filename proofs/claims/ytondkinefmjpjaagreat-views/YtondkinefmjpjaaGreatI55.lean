import Derived.Test.YtondkinefmjpjaaGreatI37
import Derived.Test.YtondkinefmjpjaaGreatI54
set_option maxHeartbeats 4000000
set_option maxRecDepth 100000
namespace Go.Proofs.YtondkinefmjpjaaGreat
open Go.RowKit Go.WideMaps Go.WideElems Go.Maps Go.Shelf
theorem map_ne {w:World} {vb i:Nat} {c:Array Value} {t:TypeId} {z:Nat × Nat} (hb:w.heap[vb]? = some (.cells c t z)) {es:Array MapEntry} {k:Nat} (h:w.heap[i]? = some (.map es k)):i ≠ vb:=fun e => by
 rw [e,hb] at h;cases h
theorem clr_lock {w:World} {vb:Nat} {P:PlanD} {rb ib:List Nat} {wb:Nat} {R:Nat -> List Int -> Int} {g:Nat -> List Int -> Option Nat} {own:Nat -> Option (Nat × List Int)} (h:VSt w vb P rb ib wb R g own) (L:Value) :
  CSt (w.setCell ⟨vb,0,none⟩ L) vb P rb ib wb R (fun l => cont P R (P.lk.getD l (0,0)).2) (P.wor (cont P R)) g own:=by
 obtain ⟨c,hb⟩:=h.hb
 obtain ⟨rv,b1,r1,r2⟩:=h.rows
 obtain ⟨iv,b2,i1,i2⟩:=h.ixs
 have hn:∀ i p,own i = some p -> (w.setCell ⟨vb,0,none⟩ L).heap[i]? = w.heap[i]?:=fun i p hp => by
  obtain ⟨es,k,e⟩:=h.W.m i p hp
  exact Below.heap_setCell _ _ _ _ (map_ne hb e)
 refine ⟨h.pl.lock hb L,⟨rv,b1,(lock_cell (Or.inr (by simp))).trans r1,lock_own hb r2 (by decide)⟩,⟨iv,b2,(lock_cell (Or.inr (by simp))).trans i1,lock_own hb i2 (by decide)⟩,(lock_cell (Or.inr (by simp))).trans h.wo,fun r hr => ⟨(h.cr r hr).1.block (hn _ _ (h.cr r hr).2),(h.cr r hr).2⟩,fun l hl => (h.A l hl).block (hn _ _ (h.W.o l hl)) (fun k hk c hc => hn _ _ (h.W.i l hl k hk c hc)),⟨h.W.o,h.W.i,fun i p hp => ?_⟩,h.ow,h.cw.block (hn _ _ h.ow)⟩
 obtain ⟨es,k,e⟩:=h.W.m i p hp
 exact ⟨es,k,(hn i p hp).trans e⟩
theorem clr_fin {w wx:World} {vb:Nat} {P:PlanD} {rb ib:List Nat} {wb:Nat} {R R':Nat -> List Int -> Int} {g g':Nat -> List Int -> Option Nat} {own:Nat -> Option (Nat × List Int)} (h:VSt w vb P rb ib wb R g own) (hR:RowsOk P R') (hC:CSt wx vb P rb ib wb R' (fun l => cont P R' (P.lk.getD l (0,0)).2) (P.wor (cont P R')) g' own) (hU:VUp (w.setCell ⟨vb,0,none⟩ (.int .i32 1)) wx own own) :
  (wx.cell? ⟨vb,0,none⟩ = some (.int .i32 1) /\ wx.frozen? ⟨vb,0,none⟩ = false) /\ VSt (wx.setCell ⟨vb,0,none⟩ (.int .i32 0)) vb P rb ib wb R' g' own /\ VUp w (wx.setCell ⟨vb,0,none⟩ (.int .i32 0)) own own:=by
 obtain ⟨c,hb⟩:=h.hb
 have lv:=vlt_of_block hb
 have hm:=mps_ow h.W
 have hno:¬ OwB own vb:=fun ⟨p,hp⟩ => by obtain ⟨es,k,e⟩:=h.W.m vb p hp;exact map_ne hb e rfl
 have hbx:wx.heap[vb]? = (w.setCell ⟨vb,0,none⟩ (.int .i32 1)).heap[vb]?:=hU.fr.block vb (by simpa using lv) hno
 have hback:=lock_back hb h.h0 rfl hbx
 have hfr:Fr (OwB own) w (wx.setCell ⟨vb,0,none⟩ (.int .i32 0)):=by
  refine ⟨by have:=hU.fr.size;simpa using this,hU.fr.os,hU.fr.tape,hU.fr.output,fun i hi hn => ?_⟩
  by_cases e:i = vb
  ·subst e;exact hback
  ·rw [Below.heap_setCell _ _ _ _ e,hU.fr.block i (by simpa using hi) hn,Below.heap_setCell _ _ _ _ e]
 have hn:∀ i p,own i = some p -> (wx.setCell ⟨vb,0,none⟩ (.int .i32 0)).heap[i]? = wx.heap[i]?:=fun i p hp => by
  obtain ⟨es,k,e⟩:=h.W.m i p hp
  exact Below.heap_setCell _ _ _ _ (map_ne hb e)
 obtain ⟨rv,b1,r1,r2⟩:=h.rows
 obtain ⟨iv,b2,i1,i2⟩:=h.ixs
 refine ⟨lock_held hb h.h0 hbx,⟨h.ok,h.rel,hR,⟨c,hback.trans hb⟩,hfr.cell hm h.h0,h.pl.fr hfr hm,⟨rv,b1,hfr.cell hm r1,hfr.own hm r2⟩,⟨iv,b2,hfr.cell hm i1,hfr.own hm i2⟩,hfr.cell hm h.wo,h.hrb,h.hil,fun r hr => ⟨(hC.cr r hr).1.block (hn _ _ (h.cr r hr).2),(h.cr r hr).2⟩,fun l hl => (hC.A l hl).block (hn _ _ (hC.W.o l hl)) (fun k hk c hc => hn _ _ (hC.W.i l hl k hk c hc)),⟨hC.W.o,hC.W.i,fun i p hp => ?_⟩,h.ow,hC.cw.block (hn _ _ h.ow),h.no4⟩,⟨hfr,fun _ _ => rfl,fun _ _ _ hp => Or.inl hp,fun i es k hi => ?_⟩⟩
 ·obtain ⟨es,k,e⟩:=hC.W.m i p hp
  exact ⟨es,k,(hn i p hp).trans e⟩
 ·have hne:=map_ne hb hi
  obtain ⟨es',k',e⟩:=hU.maps i es k (by rw [Below.heap_setCell _ _ _ _ hne];exact hi)
  exact ⟨es',k',by rw [Below.heap_setCell _ _ _ _ hne];exact e⟩
theorem rcells_setG (us:List Value) (l:Rws) (h:us.length = l.length) (j:Nat) (hj:j < l.length) (z:Int):(rcells us l).set (j * 2 + 1) (.int .i64 z) = rcells us (l.set j ((rAt l j).1,z)):=by
 induction l generalizing us j with
 | nil => simp at hj
 | cons r l ih =>
  cases us with
  | nil => simp at h
  | cons u us =>
   cases j with
   | zero => rfl
   | succ j =>
    have e:=ih us (by simpa using h) j (by simpa using hj)
    have ra:rAt (r :: l) (j + 1) = rAt l j:=rfl
    rw [ra,show (r :: l).set (j + 1) ((rAt l j).1,z) = r :: l.set j ((rAt l j).1,z) from rfl]
    show (u :: .int .i64 r.2 :: rcells us l).set ((j + 1) * 2 + 1) _ = u :: .int .i64 r.2 :: rcells us (l.set j ((rAt l j).1,z))
    rw [show (j + 1) * 2 + 1 = (j * 2 + 1) + 1 + 1 by omega,List.set_cons_succ,List.set_cons_succ,e]
theorem RNew.setBy55 {B:Nat} {w:World} {g cap n:Nat} {us:List Value} {l:Rws} (h:RNew 55 B w (.slice (some ⟨g,0,none⟩) n cap) us l) {j:Nat} (hj:j < l.length) (z:Int) :
  RNew 55 B (w.setCell ⟨g,j * 2 + 1,none⟩ (.int .i64 z)) (.slice (some ⟨g,0,none⟩) n cap) us (l.set j ((rAt l j).1,z)):=by
 obtain ⟨h1,h2,h3⟩:=h
 obtain ⟨_,_,he⟩:=vown_form h2
 simp only [Value.slice.injEq] at he
 have hn:n = l.length:=he.2.1
 subst hn
 have hset:∀ i,i < l.length -> rAt (l.set j ((rAt l j).1,z)) i = if i = j then ((rAt l j).1,z) else rAt l i:=fun i hi => by
  unfold rAt
  rw [List.getD_eq_getElem?_getD,List.getD_eq_getElem?_getD,List.getElem?_set]
  by_cases e:j = i
  ·subst e;simp [hi]
  ·rw [if_neg e,if_neg (fun x => e x.symm),List.getD_eq_getElem?_getD]
 have hblk:∀ i,i ≠ g -> (w.setCell ⟨g,j * 2 + 1,none⟩ (.int .i64 z)).heap[i]? = w.heap[i]?:=fun i hi => Below.heap_setCell _ _ _ _ hi
 refine ⟨by simp [h1],?_,fun i hi => ?_⟩
 ·rw [List.length_set,← rcells_setG us l h1 j hj z]
  exact (h2.stored (j * 2 + 1) (.int .i64 z)).1
 ·rw [List.length_set] at hi
  have h4:(w.setCell ⟨g,j * 2 + 1,none⟩ (.int .i64 z)).ownsRow B 3 1 (us.getD i undef) (rAt l i).1.length (i64s (rAt l i).1):=by
   have h5:=h3 i hi
   refine ⟨h5.1,?_⟩
   rcases h5.2 with hn | ⟨g',cap',cur,e,q1,q2,rest⟩
   ·exact .inl hn
   ·refine .inr ⟨g',cap',cur,e,q1,(hblk g' (fun e' => ?_)).trans q2,rest⟩
    rcases h2.2 with ⟨hx,_⟩ | ⟨g2,cap2,cur2,hx,_,q3,_⟩
    ·cases hx
    ·simp only [Value.slice.injEq,Option.some.injEq,Addr.mk.injEq,and_true,true_and] at hx
     rw [e',hx.1,q3] at q2;simp at q2
  rw [hset i hi]
  split
  ·rename_i e;subst e;exact h4
  ·exact h4
theorem RNew.frm {e B:Nat} {M:Nat -> Prop} {w w':World} {v:Value} {us:List Value} {l:Rws} (h:RNew e B w v us l) (hf:Fr M w w') (hm:Mps w M):RNew e B w' v us l :=
 ⟨h.1,hf.own hm h.2.1,fun j hj => hf.own hm (h.2.2 j hj)⟩
def negK (l:Rws) (j:Nat):Rws:=(l.take j).map negR ++ l.drop j
theorem negK_len (l:Rws) (j:Nat):(negK l j).length = l.length:=by simp [negK];omega
theorem negK_zero (l:Rws):negK l 0 = l:=by simp [negK]
theorem negK_end (l:Rws):negK l l.length = l.map negR:=by simp [negK]
theorem negK_at (l:Rws) (j:Nat) (hj:j < l.length):rAt (negK l j) j = rAt l j:=by
 unfold rAt negK
 rw [List.getD_eq_getElem?_getD,List.getD_eq_getElem?_getD,List.getElem?_append_right (by simp;omega)]
 congr 1
 rw [List.length_map,List.length_take,Nat.min_eq_left (by omega),Nat.sub_self,List.getElem?_drop];simp
theorem negK_step (l:Rws) (j:Nat) (hj:j < l.length):(negK l j).set j ((rAt l j).1,IntKind.i64.wrap (-(rAt l j).2)) = negK l (j + 1):=by
 have e:rAt l j = l[j]:=by unfold rAt;rw [List.getD_eq_getElem?_getD,List.getElem?_eq_getElem hj];rfl
 unfold negK
 rw [List.set_append_right _ _ (by simp;omega),List.take_succ_eq_append_getElem hj,List.map_append,List.append_assoc]
 congr 1
 rw [List.length_map,List.length_take,Nat.min_eq_left (by omega),Nat.sub_self,List.drop_eq_getElem_cons hj,e]
 rfl
def namS (P:PlanD) (names:List ByteArray) (r:Nat):Bool:=names.isEmpty || names.any fun s => (P.rel r).1.toList == s.toList
def clrK (S:Nat -> Bool) (k:Nat) (q:Nat):Bool:=decide (q < k) && S q
theorem clrK_zero (S:Nat -> Bool) (R:Nat -> List Int -> Int):clrR (clrK S 0) R = R:=by funext r t;simp [clrR,clrK]
theorem clrK_yes {S:Nat -> Bool} {k:Nat} (h:S k = true) (R:Nat -> List Int -> Int):clrR (fun q => q == k) (clrR (clrK S k) R) = clrR (clrK S (k + 1)) R:=by
 funext r t
 unfold clrR clrK
 by_cases e:r = k
 ·subst e;simp [h]
 ·by_cases c:r < k
  ·simp [e,c,show r < k + 1 by omega]
  ·simp [e,c,show ¬ r < k + 1 by omega]
theorem clrK_no {S:Nat -> Bool} {k:Nat} (h:S k = false) (R:Nat -> List Int -> Int):clrR (clrK S k) R = clrR (clrK S (k + 1)) R:=by
 funext r t
 unfold clrR clrK
 by_cases e:r = k
 ·subst e;simp [h]
 ·by_cases c:r < k
  ·simp [c,show r < k + 1 by omega]
  ·simp [c,show ¬ r < k + 1 by omega]
end Go.Proofs.YtondkinefmjpjaaGreat
namespace Go.Proofs.YtondkinefmjpjaaGreat
open Go.RowKit Go.WideMaps Go.WideElems Go.Maps Go.Shelf Go.MuLone
theorem SReads.lock {w:World} {vb:Nat} {v:Value} {ss:List ByteArray} (h:SReads w v ss) (h0:w.cell? ⟨vb,0,none⟩ = some (.int .i32 0)) (L:Value):SReads (w.setCell ⟨vb,0,none⟩ L) v ss:=by
 obtain ⟨a,cap,rfl,h2⟩:=h
 refine ⟨a,cap,rfl,fun hl => ?_⟩
 obtain ⟨g,off,rfl,h3⟩:=h2 hl
 refine ⟨g,off,rfl,fun j hj => ?_⟩
 rw [World.cell?_setCell_other w ⟨vb,0,none⟩ ⟨g,off + j,none⟩ L (fun e => ?_)]
 ·exact h3 j hj
 ·have:=h3 j hj
  rw [← e,h0] at this
  simp at this
theorem Clear_no {w:World} {vb:Nat} {P:PlanD} {rb ib:List Nat} {wb:Nat} {R:Nat -> List Int -> Int} {g:Nat -> List Int -> Option Nat} {own:Nat -> Option (Nat × List Int)} (h:VSt w vb P rb ib wb R g own) (names:List ByteArray) {v:Value} (hv:SReads w v names) (hl:names.length <= 1000) {m:Nat} (hm:m < names.length) (hI:rixOf P.rels (names.getD m ByteArray.empty) = -1) (hall:∀ j,j < m -> ∃ r:Nat,rixOf P.rels (names.getD j ByteArray.empty) = (r:Int)) :
  Calls Tryz.prog 18 #[.pointer (some ⟨vb,0,none⟩),v] w fun e w' => e = .returned (.tuple #[.slice none 0 0,.int .i64 5]) /\ Below w.heap.size w w':=by
 obtain ⟨c,hb⟩:=h.hb
 have lv:=vlt_of_block hb
 have h0:=h.h0
 have f0:=blk_free hb 0
 have HLB:Hid (∀ w2,Below w.heap.size (w.setCell ⟨vb,0,none⟩ (.int .i32 1)) w2 -> (w2.cell? ⟨vb,0,none⟩ = some (.int .i32 1) /\ w2.frozen? ⟨vb,0,none⟩ = false) /\ Below w.heap.size w (w2.setCell ⟨vb,0,none⟩ (.int .i32 0))):=fun w2 h => ⟨lock_held hb h0 (h.block vb lv),lock_below hb h0 h⟩
 have hC:=clr_lock h (.int .i32 1)
 have hS:=hv.lock h0 (.int .i32 1)
 obtain ⟨W,hW⟩:∃ W,w.setCell ⟨vb,0,none⟩ (.int .i32 1) = W:=⟨_,rfl⟩
 have hWs:W.heap.size = w.heap.size:=by rw [← hW];simp
 rw [hW] at HLB hC hS
 have HRN:Hid (∀ (u:World) (j:Nat) (I:Int),Fr (fun _ => False) W u -> rixOf P.rels (names.getD j ByteArray.empty) = I -> Calls Tryz.prog 44 #[.pointer (some ⟨vb,2,none⟩),.string (names.getD j ByteArray.empty)] u fun x w' => x = .returned (.int .i64 I) /\ Below u.heap.size u w'):=fun u j I hf hI => relNum_at h.ok (hC.pl.fr hf (mps_none _)) _ hI
 have HW:Hid (w.setCell ⟨vb,0,none⟩ (.int .i32 1) = W):=hW
 have HWS:Hid (W.heap.size = w.heap.size):=hWs
 have HI:Hid _:=hI
 have HALL:Hid _:=hall
 obtain ⟨va,vc,hve,hrd⟩:=hS
 subst hve
 have HRD:Hid _:=hrd
 have lvW:vb < W.heap.size:=by rw [hWs];exact lv
 clear h hb hv hC hW hWs hI hall hrd
 go_enter_defers Tryz.func18,Tryz.ntmps18
 go_wp2_with (go_at_call 39;refine (lock_free Tryz.muLib ⟨vb,0,none⟩ _ h0 f0).mono ?_;rintro e w' ⟨rfl,rfl⟩;rw [HW.out])
 go_loopw [7,21] (fun _ kv wr => ∃ k:Nat,k <= m /\ kv = .int .i64 k /\ Below W.heap.size W wr) (fun _ kv _ => names.length - (intOf kv).toNat)
 case atStart => exact ⟨0,Nat.zero_le _,rfl,Below.refl _ _⟩
 case round =>
  obtain ⟨k,hk,rfl,hbl⟩:=hrel
  have bk:(k:Int) < (names.length:Int):=by omega
  obtain ⟨sg,so,rfl,q⟩:=HRD.out (by omega)
  have y0:=(fr_below hbl).cell (mps_none _) (q k (by omega))
  have lvr:vb < wr.heap.size:=Nat.lt_of_lt_of_le lvW hbl.size
  have HBL:Hid _:=hbl
  by_cases hkm:k = m
  ·have RN:=HRN.out wr k (-1) (fr_below hbl) (by rw [hkm];exact HI.out)
   obtain ⟨NM,hNM⟩:∃ NM,names.getD k ByteArray.empty = NM:=⟨_,rfl⟩
   rw [hNM] at RN y0
   clear q hNM hbl hkm
   go_wp2_with (go_at_call 44;refine RN.mono ?_;rintro e w2 ⟨rfl,hb2⟩)
   refine leaves_cons (f:=40) (args:=#[.pointer (some ⟨vb,0,none⟩)]) (by simp) (by simp [go_sem]) ?_
   obtain ⟨⟨k1,k2⟩,k3⟩:=HLB.out w2 (by rw [← HWS.out];exact HBL.out.trans (hb2.mono HBL.out.size))
   refine (unlock_deferred Tryz.muLib ⟨vb,0,none⟩ .returning _ k1 k2).mono ?_
   rintro e u' w3 ⟨rfl,rfl,rfl⟩
   exact ⟨_,results_tmp2 rfl _ _ _,rfl,k3⟩
  ·obtain ⟨r,hr⟩:=HALL.out k (by omega)
   have RN:=HRN.out wr k r (fr_below hbl) hr
   obtain ⟨NM,hNM⟩:∃ NM,names.getD k ByteArray.empty = NM:=⟨_,rfl⟩
   rw [hNM] at RN y0
   have brn:¬ ((r:Int) < 0):=by omega
   clear q hNM hbl hr
   go_wp2_with (go_at_call 44;refine RN.mono ?_;rintro e w2 ⟨rfl,hb2⟩)
   go_roundw
   case rel => exact ⟨k + 1,by omega,by go_num,HBL.out.trans (hb2.mono HBL.out.size)⟩
   case measure => simp [intOf];omega
end Go.Proofs.YtondkinefmjpjaaGreat
