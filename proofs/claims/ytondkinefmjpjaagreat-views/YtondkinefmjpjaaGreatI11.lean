import Derived.Test.YtondkinefmjpjaaGreatI04
import Derived.Test.YtondkinefmjpjaaGreatI10
set_option maxHeartbeats 2000000
namespace Go.Proofs.YtondkinefmjpjaaGreat.K
open Go.RowKit
theorem nextPiece_at (s:ByteArray) (n:Int) (i:Nat) (w:World) (hs:s.size <= maxLen) (hi:i <= s.size) (hn:(i:Int) = n) :
  Calls Tryz.prog 82 #[.string s,.int .i64 n] w fun e w' => e = .returned (.agg #[.int .i64 (Est.piece s i).k,.string (Est.piece s i).t,.int .i64 (Est.piece s i).a]) /\ Below w.heap.size w w':=by
 subst hn;exact nextPiece_any s i w hs hi
def cdBlk (s:ByteArray) (p:Est.Pc) (hv vv av:Value) (e a:Nat):Obj:=.cells #[.string s,.int .i64 p.k,.string p.t,.int .i64 p.a,hv,vv,av,.slice none 0 0,.int .i64 e,.int .i64 a] 172 (0,0)
structure Cdr (w:World) (b:Nat) (s:ByteArray) (p:Est.Pc) (hv vv av:Value) (e a:Nat):Prop where
 blk:w.heap[b]? = some (cdBlk s p hv vv av e a)
section
variable {w w':World} {b:Nat} {s:ByteArray} {p:Est.Pc} {hv vv av:Value} {e a:Nat}
theorem Cdr.c0 (h:Cdr w b s p hv vv av e a):w.cell? ⟨b,0,none⟩ = some (.string s):=by simp [World.cell?,h.blk,cdBlk]
theorem Cdr.c1 (h:Cdr w b s p hv vv av e a):w.cell? ⟨b,1,none⟩ = some (.int .i64 p.k):=by simp [World.cell?,h.blk,cdBlk]
theorem Cdr.c2 (h:Cdr w b s p hv vv av e a):w.cell? ⟨b,2,none⟩ = some (.string p.t):=by simp [World.cell?,h.blk,cdBlk]
theorem Cdr.c3 (h:Cdr w b s p hv vv av e a):w.cell? ⟨b,3,none⟩ = some (.int .i64 p.a):=by simp [World.cell?,h.blk,cdBlk]
theorem Cdr.c4 (h:Cdr w b s p hv vv av e a):w.cell? ⟨b,4,none⟩ = some hv:=by simp [World.cell?,h.blk,cdBlk]
theorem Cdr.c5 (h:Cdr w b s p hv vv av e a):w.cell? ⟨b,5,none⟩ = some vv:=by simp [World.cell?,h.blk,cdBlk]
theorem Cdr.c6 (h:Cdr w b s p hv vv av e a):w.cell? ⟨b,6,none⟩ = some av:=by simp [World.cell?,h.blk,cdBlk]
theorem Cdr.c7 (h:Cdr w b s p hv vv av e a):w.cell? ⟨b,7,none⟩ = some (.slice none 0 0):=by simp [World.cell?,h.blk,cdBlk]
theorem Cdr.c8 (h:Cdr w b s p hv vv av e a):w.cell? ⟨b,8,none⟩ = some (.int .i64 e):=by simp [World.cell?,h.blk,cdBlk]
theorem Cdr.c9 (h:Cdr w b s p hv vv av e a):w.cell? ⟨b,9,none⟩ = some (.int .i64 a):=by simp [World.cell?,h.blk,cdBlk]
theorem Cdr.free (h:Cdr w b s p hv vv av e a) (j:Nat):w.frozen? ⟨b,j,none⟩ = false:=by simp [World.frozen?,h.blk,cdBlk]
theorem Cdr.lt (h:Cdr w b s p hv vv av e a):b < w.heap.size:=lt_of_block h.blk
theorem Cdr.tg (h:Cdr w b s p hv vv av e a):tag w.heap[b]? = 172:=by rw [h.blk];rfl
theorem Cdr.keeps {F:Nat -> Option Obj -> Prop} (h:Cdr w b s p hv vv av e a) (k:Keeps F w w') (hb:¬ F b w.heap[b]?):Cdr w' b s p hv vv av e a:=⟨(k.block b h.lt hb).trans h.blk⟩
theorem Cdr.failed (h:Cdr w b s p hv vv av e a) (e' a':Nat):Cdr ((w.setCell ⟨b,8,none⟩ (.int .i64 e')).setCell ⟨b,9,none⟩ (.int .i64 a')) b s p hv vv av e' a':=by
 refine ⟨(blk_setCell (blk_setCell h.blk 8 _) 9 _).trans ?_⟩
 simp [cdBlk,Array.setIfInBounds]
theorem Cdr.moved (h:Cdr w b s p hv vv av e a) (p':Est.Pc):Cdr (((w.setCell ⟨b,1,none⟩ (.int .i64 p'.k)).setCell ⟨b,2,none⟩ (.string p'.t)).setCell ⟨b,3,none⟩ (.int .i64 p'.a)) b s p' hv vv av e a:=by
 refine ⟨(blk_setCell (blk_setCell (blk_setCell h.blk 1 _) 2 _) 3 _).trans ?_⟩
 simp [cdBlk,Array.setIfInBounds]
end
theorem cfail_at (b:Nat) (s:ByteArray) (p:Est.Pc) (hv vv av:Value) (e a:Nat) (n:Int) (e' a':Nat) (w:World) (h:Cdr w b s p hv vv av e a) (hn:(e':Int) = n) :
  Calls Tryz.prog 157 #[.pointer (some ⟨b,0,none⟩),.int .i64 n,.int .i64 a'] w fun x w' => x = .returned (.bool false) /\ Cdr w' b s p hv vv av e' a' /\ Kept (· = b) w w':=by
 subst hn
 have c8:=h.c8
 have c9:=h.c9
 have f8:=h.free 8
 have f9:=h.free 9
 go_enter Tryz.func157,Tryz.ntmps157
 go_wp2
 go_ret
 exact ⟨rfl,h.failed e' a',((Kept.refl (· = b) _).setCell _ rfl _).setCell _ rfl _⟩
def OkC (s:ByteArray) (p:Est.Pc):Prop:=p.a + p.t.size <= s.size /\ p.a <= s.size /\ (p.k = 4 -> Est.fairN p.t = true)
theorem OkC.piece (s:ByteArray) (i:Nat) (h:i <= s.size):OkC s (Est.piece s i):=by
 have h1:=Est.skip_le s i h
 have h2:=Est.wend_le s _ h1
 unfold Est.piece OkC
 split
 ·split
  ·refine ⟨by simp;omega,h1,fun hk => ?_⟩
   simp only [Est.wordK] at hk
   split at hk
   ·assumption
   ·split at hk
    ·split at hk <;> exact absurd hk (by decide)
    ·exact absurd hk (by decide)
  ·refine ⟨by simp;omega,h1,fun hk => ?_⟩
   simp only [Est.signK] at hk
   repeat' split at hk
   all_goals exact absurd hk (by decide)
 ·exact ⟨by simpa using h1,h1,fun hk => absurd (show (1:Nat) = 4 from hk) (by decide)⟩
def pnext (s:ByteArray) (p:Est.Pc):Est.Pc:=Est.piece s (p.a + p.t.size)
def tk (p:Est.Pc) (k:Nat):Bool:=decide (p.k = k)
def tp (s:ByteArray) (p:Est.Pc) (k:Nat):Est.Pc:=if p.k = k then pnext s p else p
theorem tp_yes {s:ByteArray} {p:Est.Pc} {k:Nat} (h:tk p k = true):tp s p k = pnext s p:=by unfold tk at h;unfold tp;rw [if_pos (of_decide_eq_true h)]
theorem tp_no {s:ByteArray} {p:Est.Pc} {k:Nat} (h:tk p k = false):tp s p k = p:=by unfold tk at h;unfold tp;rw [if_neg (of_decide_eq_false h)]
theorem OkC.next {s:ByteArray} {p:Est.Pc} (h:OkC s p):OkC s (pnext s p):=OkC.piece s _ h.1
theorem OkC.tp {s:ByteArray} {p:Est.Pc} (h:OkC s p) (k:Nat):OkC s (tp s p k):=by unfold YtondkinefmjpjaaGreat.K.tp;split;exact h.next;exact h
theorem take_at (b:Nat) (s:ByteArray) (p:Est.Pc) (hv vv av:Value) (e a:Nat) (n:Int) (k:Nat) (w:World) (h:Cdr w b s p hv vv av e a) (hn:(k:Int) = n) (hs:s.size <= maxLen) (hok:OkC s p) :
  Calls Tryz.prog 154 #[.pointer (some ⟨b,0,none⟩),.int .i64 n] w fun x w' => x = .returned (.bool (tk p k)) /\ Cdr w' b s (tp s p k) hv vv av e a /\ Kept (· = b) w w':=by
 have c0:=h.c0
 have c1:=h.c1
 have c2:=h.c2
 have c3:=h.c3
 have HN:Hid ((k:Int) = n):=hn
 clear hn
 have HS:Hid (s.size <= maxLen):=hs
 unfold maxLen at hs
 cases hk:tk p k
 ·have ht:((p.k:Int) != n) = true:=by rw [← HN.out,bne_iff_ne];have:=of_decide_eq_false hk;omega
  have HK:Hid (tk p k = false):=hk
  clear hk
  go_enter Tryz.func154,Tryz.ntmps154
  go_wp2
  go_ret
  exact ⟨rfl,by rw [tp_no HK.out];exact h,Kept.refl _ _⟩
 ·have ht:((p.k:Int) != n) = false:=by rw [← HN.out,bne_eq_false_iff_eq];have:=of_decide_eq_true hk;omega
  have HK:Hid (tk p k = true):=hk
  clear hk
  have hw:IntKind.i64.wrap ((p.a:Int) + (p.t.size:Int)) = (p.a:Int) + (p.t.size:Int):=by rw [IntKind.wrap_i64];have:=hok.1;omega
  go_enter Tryz.func154,Tryz.ntmps154
  go_wp2
  go_region_with (go_at_call 82;refine (nextPiece_at s _ (p.a + p.t.size) _ HS.out hok.1 (by omega)).mono ?_;rintro x w1 ⟨rfl,hb⟩;have R1:Cdr w1 b s p hv vv av e a:=⟨(hb.block b (by simpa using h.lt)).trans h.blk⟩;have k1:=R1.c1;have k2:=R1.c2;have k3:=R1.c3;have f1:=R1.free 1;have f2:=R1.free 2;have f3:=R1.free 3)
  all_goals go_wp2
  all_goals go_ret
  all_goals
   refine ⟨rfl,?_,((((Kept.refl (· = b) w).drew.below hb).setCell _ rfl _).setCell _ rfl _).setCell _ rfl _⟩
   rw [tp_yes HK.out];exact R1.moved _
theorem want_at (b:Nat) (s:ByteArray) (p:Est.Pc) (hv vv av:Value) (e a:Nat) (n:Int) (k:Nat) (w:World) (h:Cdr w b s p hv vv av e a) (hn:(k:Int) = n) (hs:s.size <= maxLen) (hok:OkC s p) :
  Calls Tryz.prog 119 #[.pointer (some ⟨b,0,none⟩),.int .i64 n] w fun x w' => x = .returned (.bool (tk p k)) /\ Cdr w' b s (tp s p k) hv vv av (if tk p k then e else 2) (if tk p k then a else p.a) /\ Kept (· = b) w w':=by
 cases hk:tk p k
 ·go_enter Tryz.func119,Tryz.ntmps119
  go_wp2_with fail
  refine (take_at b s p hv vv av e a n k _ h hn hs hok).mono ?_
  rintro x w1 ⟨rfl,h1,k1⟩
  rw [tp_no hk] at h1
  have HK:Hid (tk p k = false):=hk
  rw [hk]
  clear hk
  have d3:=h1.c3
  go_wp2_with fail
  refine (cfail_at b s p hv vv av e a 2 2 p.a _ h1 rfl).mono ?_
  rintro x w2 ⟨rfl,h2,k2⟩
  go_wp2
  go_ret
  exact ⟨rfl,by rw [tp_no HK.out];exact h2,k1.trans k2⟩
 ·go_enter Tryz.func119,Tryz.ntmps119
  go_wp2_with fail
  refine (take_at b s p hv vv av e a n k _ h hn hs hok).mono ?_
  rintro x w1 ⟨rfl,h1,k1⟩
  have HK:Hid (tk p k = true):=hk
  rw [hk]
  clear hk
  go_wp2
  go_ret
  exact ⟨rfl,h1,k1⟩
theorem own_below' {w w':World} {base:Nat} {e:TypeId} {size:Nat} {v:Value} {n:Nat} {xs:List Value} (h:w.ownsRow base e size v n xs) (hb:Below w.heap.size w w'):w'.ownsRow base e size v n xs:=by
 refine ⟨h.1,?_⟩
 rcases h.2 with hn | ⟨g,cap,cur,rfl,h1,h2,rest⟩
 ·exact .inl hn
 ·exact .inr ⟨g,cap,cur,rfl,h1,(hb.block g (lt_of_block h2)).trans h2,rest⟩
def ixOf (vars:List ByteArray) (t:ByteArray):Int:=if vars.findIdx (fun v => t.toList == v.toList) < vars.length then (vars.findIdx (fun v => t.toList == v.toList):Int) else -1
theorem Index_any (base:Nat) (vars:List ByteArray) (vv:Value) (t:ByteArray) (w:World) (ho:w.ownsRow base 9 1 vv vars.length (strs vars)) (hl:vars.length <= 1000) :
  Calls Tryz.prog 80 #[vv,.string t] w fun x w' => x = .returned (.int .i64 (ixOf vars t)) /\ w' = w:=by
 obtain ⟨va,cap,rfl⟩:=own_form ho
 go_enter Tryz.func80,Tryz.ntmps80
 go_wp2
 go_loop [5,8] (fun _ i => ∃ k:Nat,k <= vars.length /\ i = .int .i64 k /\ ∀ j (hj:j < vars.length),j < k -> (t.toList == vars[j].toList) = false) (fun _ i => vars.length - (intOf i).toNat)
 case atStart => exact ⟨0,Nat.zero_le _,rfl,fun _ _ h => absurd h (Nat.not_lt_zero _)⟩
 case round =>
  obtain ⟨k,hk,rfl,hd⟩:=hrel
  have HD:Hid (∀ j (hj:j < vars.length),j < k -> (t.toList == vars[j].toList) = false):=hd
  clear hd
  by_cases hlt:k < vars.length
  ·obtain ⟨g,cap',he⟩:=own_some ho (by omega)
   simp only [Value.slice.injEq,true_and] at he
   obtain ⟨rfl,rfl⟩:=he
   have hc:=ho.cellAt k (by omega)
   simp only [strs,List.getElem?_map,List.getElem?_eq_getElem hlt,Option.map_some] at hc
   cases hb:(t.toList == vars[k].toList)
   ·go_wp2
    go_round
    case rel => exact ⟨k + 1,by omega,by go_num,fun j hj hjk => by
     by_cases e:j = k
     ·subst e;exact hb
     ·exact HD.out j hj (by omega)⟩
    case measure => simp [intOf];omega
   ·have HX:Hid (ixOf vars t = (k:Int)):=by
     have e:vars.findIdx (fun v => t.toList == v.toList) = k:=(List.findIdx_eq hlt).2 ⟨hb,fun j hj => HD.out j (by omega) hj⟩
     unfold Hid ixOf;rw [e,if_pos hlt]
    go_wp2
    go_ret
    exact ⟨ret_int64 HX.out.symm,rfl⟩
  ·have HX:Hid (ixOf vars t = -1):=by
    have e:vars.findIdx (fun v => t.toList == v.toList) = vars.length:=by
     refine List.findIdx_eq_length.2 (fun x hx => ?_)
     obtain ⟨j,hj,rfl⟩:=List.getElem_of_mem hx
     exact HD.out j hj (by omega)
    unfold Hid ixOf;rw [e,if_neg (by omega)]
   go_wp2
   go_ret
   exact ⟨ret_int64 HX.out.symm,rfl⟩
theorem varNumber_any (b base:Nat) (vars:List ByteArray) (vv:Value) (t:ByteArray) (w:World) (hc:w.cell? ⟨b,5,none⟩ = some vv) (ho:w.ownsRow base 9 1 vv vars.length (strs vars)) (hl:vars.length <= 1000) :
  Calls Tryz.prog 88 #[.pointer (some ⟨b,4,none⟩),.string t] w fun x w' => x = .returned (.int .i64 (ixOf vars t)) /\ w' = w:=by
 go_enter Tryz.func88,Tryz.ntmps88
 go_wp2_with fail
 refine (Index_any base vars vv t _ ho hl).mono ?_
 rintro e w' ⟨rfl,rfl⟩
 obtain ⟨I,hI⟩:∃ I,ixOf vars t = I:=⟨_,rfl⟩
 have HI:Hid (ixOf vars t = I):=hI
 rw [hI]
 clear hI
 go_wp2
 go_ret
 exact ⟨ret_int64 (by rw [HI.out]),rfl⟩
def pcells (l:List Est.Pc):List Value:=l.flatMap fun p => [.int .i64 p.k,.string p.t,.int .i64 p.a]
theorem pcells_snoc (l:List Est.Pc) (p:Est.Pc):pcells (l ++ [p]) = pcells l ++ [.int .i64 p.k,.string p.t,.int .i64 p.a]:=by simp [pcells]
theorem pcells_at (l:List Est.Pc) (k:Nat) (hk:k < l.length):(pcells l)[k * 3]? = some (.int .i64 l[k].k) /\ (pcells l)[k * 3 + 1]? = some (.string l[k].t) /\ (pcells l)[k * 3 + 2]? = some (.int .i64 l[k].a):=by
 induction l generalizing k with
 | nil => simp at hk
 | cons d l ih =>
  cases k with
  | zero => simp [pcells]
  | succ k =>
   have:=ih k (by simpa using hk)
   have e:pcells (d :: l) = [.int .i64 d.k,.string d.t,.int .i64 d.a] ++ pcells l:=by simp [pcells]
   rw [e]
   have e0:(k + 1) * 3 = k * 3 + 3:=by omega
   rw [e0,List.getElem?_append_right (by simp),List.getElem?_append_right (by simp),List.getElem?_append_right (by simp)]
   simpa using this
def pixOf (hd:List Est.Pc) (t:ByteArray):Int:=if hd.findIdx (fun p => p.t.toList == t.toList) < hd.length then (hd.findIdx (fun p => p.t.toList == t.toList):Int) else -1
theorem headHas1_any (p:Est.Pc) (TB:Nat) (t:ByteArray) (w:World) (hc:w.cell? ⟨TB,0,none⟩ = some (.string t)) :
  Calls Tryz.prog 178 #[.agg #[.int .i64 p.k,.string p.t,.int .i64 p.a],.pointer (some ⟨TB,0,none⟩)] w fun x w' => x = .returned (.bool (p.t.toList == t.toList)) /\ Below w.heap.size w w':=by
 have lb:=World.block_lt_of_cell? _ _ hc
 go_enter Tryz.func178,Tryz.ntmps178
 go_wp2
 go_ret
 exact ⟨rfl,(Below.refl _ _).alloc (Nat.le_refl _) _⟩
theorem IndexFunc1_any (base TB:Nat) (hd:List Est.Pc) (hv:Value) (t:ByteArray) (w:World) (ho:w.ownsRow base 169 3 hv hd.length (pcells hd)) (hl:hd.length <= 1000) (hc:w.cell? ⟨TB,0,none⟩ = some (.string t)) :
  Calls Tryz.prog 183 #[hv,.func (.func 178) #[] #[.pointer (some ⟨TB,0,none⟩)]] w fun x w' => x = .returned (.int .i64 (pixOf hd t)) /\ Below w.heap.size w w':=by
 obtain ⟨ha,cap,rfl⟩:=own_form ho
 have lt:=World.block_lt_of_cell? _ _ hc
 go_enter Tryz.func183,Tryz.ntmps183
 go_wp2_with fail
 go_loopw [5,8] (fun _ i wr => ∃ k:Nat,k <= hd.length /\ i = .int .i64 k /\ Below w.heap.size w wr /\ ∀ j (hj:j < hd.length),j < k -> (hd[j].t.toList == t.toList) = false) (fun _ i _ => hd.length - (intOf i).toNat)
 case atStart => exact ⟨0,Nat.zero_le _,rfl,Below.refl _ _,fun _ _ h => absurd h (Nat.not_lt_zero _)⟩
 case round =>
  obtain ⟨k,hk,rfl,hb,hd'⟩:=hrel
  have HD:Hid (∀ j (hj:j < hd.length),j < k -> (hd[j].t.toList == t.toList) = false):=hd'
  clear hd'
  have hor:=own_below' ho hb
  have hcr:=(hb.cell (p:=⟨TB,0,none⟩) lt).trans hc
  by_cases hlt:k < hd.length
  ·obtain ⟨g,cap',he⟩:=own_some hor (by omega)
   simp only [Value.slice.injEq,true_and] at he
   obtain ⟨rfl,rfl⟩:=he
   obtain ⟨x0,x1,x2⟩:=pcells_at hd k hlt
   have y0:=(hor.cellAt (k * 3) (by omega)).trans x0
   have y1:=(hor.cellAt (k * 3 + 1) (by omega)).trans x1
   have y2:=(hor.cellAt (k * 3 + 2) (by omega)).trans x2
   clear x0 x1 x2
   go_wp2_with fail
   refine (headHas1_any hd[k] TB t _ hcr).mono ?_
   rintro e w1 ⟨rfl,hb1⟩
   have hb01:Below w.heap.size w w1:=hb.trans (hb1.mono hb.size)
   cases hx:(hd[k].t.toList == t.toList)
   ·go_wp2_with fail
    go_roundw
    case rel => exact ⟨k + 1,by omega,by go_num,hb01,fun j hj hjk => by
     by_cases e:j = k
     ·subst e;exact hx
     ·exact HD.out j hj (by omega)⟩
    case measure => simp [intOf];omega
   ·have HX:Hid (pixOf hd t = (k:Int)):=by
     have e:hd.findIdx (fun p => p.t.toList == t.toList) = k:=(List.findIdx_eq hlt).2 ⟨hx,fun j hj => HD.out j (by omega) hj⟩
     unfold Hid pixOf;rw [e,if_pos hlt]
    go_wp2_with fail
    go_ret
    exact ⟨ret_int64 HX.out.symm,hb01⟩
  ·have HX:Hid (pixOf hd t = -1):=by
    have e:hd.findIdx (fun p => p.t.toList == t.toList) = hd.length:=by
     refine List.findIdx_eq_length.2 (fun x hx => ?_)
     obtain ⟨j,hj,rfl⟩:=List.getElem_of_mem hx
     exact HD.out j hj (by omega)
    unfold Hid pixOf;rw [e,if_neg (by omega)]
   go_wp2_with fail
   go_ret
   exact ⟨ret_int64 HX.out.symm,hb⟩
theorem headHas_any (b base:Nat) (hd:List Est.Pc) (hv:Value) (t:ByteArray) (w:World) (hc:w.cell? ⟨b,4,none⟩ = some hv) (ho:w.ownsRow base 169 3 hv hd.length (pcells hd)) (hl:hd.length <= 1000) :
  Calls Tryz.prog 173 #[.pointer (some ⟨b,4,none⟩),.string t] w fun x w' => x = .returned (.bool (decide (0 <= pixOf hd t))) /\ Below w.heap.size w w':=by
 obtain ⟨ha,cap,rfl⟩:=own_form ho
 have lb:=World.block_lt_of_cell? _ _ hc
 have tc:(w.alloc (.cells #[.string t] 9)).cell? ⟨w.heap.size,0,none⟩ = some (.string t):=by simp
 go_enter Tryz.func173,Tryz.ntmps173
 go_wp2_with (go_at_call 177;go_in)
 refine (IndexFunc1_any base w.heap.size hd _ t _ (ho.alloc _) hl tc).mono ?_
 rintro e w1 ⟨rfl,hb1⟩
 obtain ⟨I,hI⟩:∃ I,pixOf hd t = I:=⟨_,rfl⟩
 have HI:Hid (pixOf hd t = I):=hI
 rw [hI]
 clear hI
 go_wp2
 go_ret
 exact ⟨ret_bool (by rw [HI.out]),((Below.refl _ _).alloc (Nat.le_refl _) _).trans (hb1.mono (by simp))⟩
end Go.Proofs.YtondkinefmjpjaaGreat.K
