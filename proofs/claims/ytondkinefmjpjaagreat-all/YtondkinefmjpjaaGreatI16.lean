import Derived.Test.YtondkinefmjpjaaGreatI14
import Derived.Test.YtondkinefmjpjaaGreatI15
set_option maxHeartbeats 8000000
set_option maxRecDepth 100000
namespace Go.Proofs.YtondkinefmjpjaaGreat.K
open Go.RowKit
theorem Tryz.info77:(Tryz.prog.info? 77).map (fun i => (i.zero,i.size,i.bytes)) = some (some (.int .u8 0),1,1):=by kernel_rfl
theorem varNumber0_any (b base:Nat) (vars:List ByteArray) (vv:Value) (t:ByteArray) (w:World) (hc:w.cell? ⟨b,1,none⟩ = some vv) (ho:w.ownsRow base 9 1 vv vars.length (strs vars)) (hl:vars.length <= 1000) :
  Calls Tryz.prog 88 #[.pointer (some ⟨b,0,none⟩),.string t] w fun x w' => x = .returned (.int .i64 (ixOf vars t)) /\ w' = w:=by
 go_enter Tryz.func88,Tryz.ntmps88
 go_wp2_with fail
 refine (Index_any base vars vv t _ ho hl).mono ?_
 rintro e w' ⟨rfl,rfl⟩
 obtain ⟨I,hI⟩:∃ I,ixOf vars t = I:=⟨_,rfl⟩
 have HI:Hid (ixOf vars t = I):=hI
 rw [hI]
 clear hI
 go_wp2
 go_ret
 exact ⟨ret_int64 (by rw [HI.out]),rfl⟩
theorem varSets_any (b base:Nat) (ats:List CA) (av:Value) (w:World) (hc:w.cell? ⟨b,2,none⟩ = some av) (hA:AR w base av ats) (hl:ats.length <= 100) :
  Calls Tryz.prog 86 #[.pointer (some ⟨b,0,none⟩)] w fun x w' => ∃ sa cap,x = .returned (.slice sa ats.length cap) /\ w'.ownsRow w.heap.size 77 1 (.slice sa ats.length cap) ats.length (u8s (ats.map CA.set)) /\ Below w.heap.size w w':=by
 obtain ⟨ts,hts,ho,_⟩:=hA
 obtain ⟨aa,acap,rfl⟩:=own_form ho
 obtain ⟨i0,hi,hz0,hz1,hz2⟩:=info_parts Tryz.info77
 have HI:Hid _:=hi
 have HZ0:Hid _:=hz0
 have HZ1:Hid _:=hz1
 have HZ2:Hid _:=hz2
 clear hi hz0 hz1 hz2
 go_enter Tryz.func86,Tryz.ntmps86
 go_wp2_with fail
 go_loopw [3,5,11] (fun sv _ jv wr => ∃ j:Nat,j <= ats.length /\ jv = .int .i64 j /\ wr.ownsRow w.heap.size 77 1 sv j (u8s ((ats.take j).map CA.set)) /\ Below w.heap.size w wr) (fun _ _ jv _ => ats.length - (intOf jv).toNat)
 case atStart => exact ⟨0,Nat.zero_le _,rfl,World.ownsRow_nil _ _ _ _,Below.refl _ _⟩
 case round =>
  obtain ⟨j,hj,rfl,hrow,hb⟩:=hrel
  have hor:=own_below' ho hb
  by_cases hlt:j < ats.length
  ·obtain ⟨g,cap',he⟩:=own_some hor (by omega)
   simp only [Value.slice.injEq,true_and] at he
   obtain ⟨rfl,rfl⟩:=he
   obtain ⟨⟨da,dc⟩,y0,y1,y2⟩:=ccells_at ats ts hts j hlt
   have c0:=(hor.cellAt (j * 3) (by omega)).trans y0
   have c1:=(hor.cellAt (j * 3 + 1) (by omega)).trans y1
   have c2:=(hor.cellAt (j * 3 + 2) (by omega)).trans y2
   clear y0 y1 y2
   obtain ⟨sa,scap,hsv⟩:=own_form hrow
   subst hsv
   have HTK:Hid (u8s ((ats.take (j + 1)).map CA.set) = u8s ((ats.take j).map CA.set) ++ [.int .u8 ats[j].set]):=by
    unfold Hid;rw [List.take_succ_eq_append_getElem hlt];simp only [u8s,List.map_append,List.map_cons,List.map_nil]
   have hws:w.heap.size <= wr.heap.size:=hb.size
   generalize hZ:ats[j].set = Z at c2 HTK
   generalize hR:ats[j].rel = RL at c0
   generalize hN:ats[j].n = N at c1
   clear hZ hR hN
   go_wp2_with (at_builtin;refine wpList_append_own _ rfl (.tmp 15) (.tmp 18) 176 rfl w.heap.size 77 i0 (.int .u8 0) 1 1 Tryz.underlying176 HI.out HZ0.out HZ1.out HZ2.out rfl (by decide) (.slice sa j scap) _ _ rfl ((hrow.alloc _).alloc _) ⟨wr.heap.size + 1,0,none⟩ 1 1 [.int .u8 Z] rfl rfl (by have:=one_new (wr.alloc (.cells #[.string RL,.slice da N dc,.int .u8 Z] 180)) (.int .u8 Z) 77;simpa using this) (by intro u hu;simp at hu;subst hu;rfl) (by unfold maxLen;omega) (by omega) (by simp;omega) ?_;intro v6 w6 hown6 hgrow6 _;obtain ⟨sa6,scap6,rfl⟩:=own_form hown6)
   have hb6:Below w.heap.size w w6:=(((hb.alloc hws _).alloc (by simp;omega) _)).grown hgrow6 (by simp;omega) (fun k hk => by have:=(hrow.lt k hk).1;exact this)
   clear hgrow6
   go_roundw
   case rel => exact ⟨j + 1,by omega,by go_num,by rw [HTK.out];exact hown6,hb6⟩
   case measure => simp [intOf];omega
  ·have hjl:j = ats.length:=by omega
   subst hjl
   rw [List.take_length] at hrow
   obtain ⟨sa,scap,hsv⟩:=own_form hrow
   subst hsv
   go_wp2_with fail
   go_ret
   exact ⟨_,_,rfl,hrow,hb⟩
def hfE (hd:List Est.Pc) (vars:List ByteArray):Nat:=match hd.find? (fun p => !decide (0 <= ixOf vars p.t)) with
 | some _ => 5
 | none => 0
def hfA (hd:List Est.Pc) (vars:List ByteArray):Nat:=match hd.find? (fun p => !decide (0 <= ixOf vars p.t)) with
 | some p => p.a
 | none => 0
def wfE (c:CS):Nat:=match c.hd.find? (fun p => !decide (0 <= ixOf c.vars p.t)) with
 | some _ => 5
 | none => if mtI (c.ats.length - 1) (c.ats.map CA.set) (List.range c.ats.length) then 0 else 7
def wfA (c:CS):Nat:=match c.hd.find? (fun p => !decide (0 <= ixOf c.vars p.t)) with
 | some p => p.a
 | none => 0
theorem headFault_any (b base:Nat) (hd:List Est.Pc) (vars:List ByteArray) (hv0 vv:Value) (w:World) (h2:w.ownsRow base 169 3 hv0 hd.length (pcells hd)) (h3:w.ownsRow base 9 1 vv vars.length (strs vars)) (c4:w.cell? ⟨b,0,none⟩ = some hv0) (c5:w.cell? ⟨b,1,none⟩ = some vv) (hh:hd.length <= 100) (hv:vars.length <= 100) :
  Calls Tryz.prog 84 #[.pointer (some ⟨b,0,none⟩)] w fun x w' => x = .returned (.agg #[.int .i64 (hfE hd vars),.int .i64 (hfA hd vars)]) /\ Below w.heap.size w w':=by
 obtain ⟨hha,hcap,rfl⟩:=own_form h2
 have lb:=World.block_lt_of_cell? _ _ c4
 go_enter Tryz.func84,Tryz.ntmps84
 go_wp2_with fail
 go_loopw [4,10] (fun _ iv wr => ∃ i:Nat,i <= hd.length /\ iv = .int .i64 i /\ Below w.heap.size w wr /\ wr.heap[w.heap.size]? = some (.cells #[.int .i64 0,.int .i64 0] 123 (0,0)) /\ ∀ j (hj:j < hd.length),j < i -> decide (0 <= ixOf vars hd[j].t) = true) (fun _ iv _ => hd.length - (intOf iv).toNat)
 case atStart => exact ⟨0,Nat.zero_le _,rfl,(Below.refl _ _).alloc (Nat.le_refl _) _,heap_alloc_new _ _,fun _ _ h => absurd h (Nat.not_lt_zero _)⟩
 case round =>
  obtain ⟨i,hi,rfl,hb,hblk,hall⟩:=hrel
  have HALL:Hid (∀ j (hj:j < hd.length),j < i -> decide (0 <= ixOf vars hd[j].t) = true):=hall
  clear hall
  have hB:w.heap.size < wr.heap.size:=lt_of_block hblk
  have r2:=own_below' h2 hb
  have r3:=own_below' h3 hb
  have d5:=(hb.cell (p:=⟨b,1,none⟩) lb).trans c5
  by_cases hlt:i < hd.length
  ·obtain ⟨g,cap',he⟩:=own_some r2 (by omega)
   simp only [Value.slice.injEq,true_and] at he
   obtain ⟨rfl,rfl⟩:=he
   obtain ⟨y0,y1,y2⟩:=pcells_at hd i hlt
   have e0:=(r2.cellAt (i * 3) (by omega)).trans y0
   have e1:=(r2.cellAt (i * 3 + 1) (by omega)).trans y1
   have e2:=(r2.cellAt (i * 3 + 2) (by omega)).trans y2
   clear y0 y1 y2
   have lbr:b < wr.heap.size:=Nat.lt_of_lt_of_le lb hb.size
   obtain ⟨P,hP⟩:∃ P,hd[i] = P:=⟨_,rfl⟩
   rw [hP] at e0 e1 e2
   have HP:Hid (hd[i] = P):=hP
   clear hP
   have d5a:(wr.alloc (.cells #[.int .i64 P.k,.string P.t,.int .i64 P.a] 169)).cell? ⟨b,1,none⟩ = some vv:=(((Below.refl wr.heap.size wr).alloc (Nat.le_refl _) _).cell (p:=⟨b,1,none⟩) lbr).trans d5
   go_wp2_with fail
   refine (varNumber0_any b base vars vv P.t _ d5a (r3.alloc _) (by omega)).mono ?_
   rintro x w1 ⟨rfl,rfl⟩
   obtain ⟨I,hI⟩:∃ I,ixOf vars P.t = I:=⟨_,rfl⟩
   have HIX:Hid (ixOf vars P.t = I):=hI
   rw [hI]
   clear hI
   have hbA:=hb.alloc (by omega) (.cells #[.int .i64 P.k,.string P.t,.int .i64 P.a] 169)
   by_cases hx:0 <= I
   ·have hx':¬ I < 0:=by omega
    go_wp2_with fail
    go_roundw
    case rel =>
     refine ⟨i + 1,by omega,by go_num,hbA,(Below.heap_alloc _ _ _ hB).trans hblk,fun j hj hji => ?_⟩
     by_cases e:j = i
     ·subst e;rw [HP.out,HIX.out];exact decide_eq_true hx
     ·exact HALL.out j hj (by omega)
    case measure => simp [intOf];omega
   ·have hx':I < 0:=by omega
    have HW:Hid (hfE hd vars = 5 /\ hfA hd vars = P.a):=by
     have hf:hd.find? (fun p => !decide (0 <= ixOf vars p.t)) = some P:=by
      rw [List.find?_eq_some_iff_getElem]
      refine ⟨by simp [HIX.out,hx],i,hlt,HP.out,fun j hj => ?_⟩
      simp only [HALL.out j (by omega) hj];rfl
     unfold Hid hfE hfA;rw [hf];exact ⟨rfl,rfl⟩
    have z0:wr.cell? ⟨w.heap.size,0,none⟩ = some (.int .i64 0):=by simp [World.cell?,hblk]
    have z1:wr.cell? ⟨w.heap.size,1,none⟩ = some (.int .i64 0):=by simp [World.cell?,hblk]
    have f0:wr.frozen? ⟨w.heap.size,0,none⟩ = false:=by simp [World.frozen?,hblk]
    have f1:wr.frozen? ⟨w.heap.size,1,none⟩ = false:=by simp [World.frozen?,hblk]
    go_wp2_with fail
    refine bodyPost_ret (v:=.agg #[.int .i64 5,.int .i64 P.a]) (by simp [results,Tryz.results84,go_sem,z0,z1,hB]) rfl ⟨?_,?_⟩
    ·rw [HW.out.1,HW.out.2];rfl
    ·exact ((hb.setCell (p:=⟨w.heap.size,0,none⟩) (Nat.le_refl _) _).setCell (p:=⟨w.heap.size,1,none⟩) (Nat.le_refl _) _).alloc (by simp [World.setCell];omega) _
  ·have hf:hd.find? (fun p => !decide (0 <= ixOf vars p.t)) = none:=by
    rw [List.find?_eq_none]
    intro x hx
    obtain ⟨j,hj,rfl⟩:=List.getElem_of_mem hx
    simp only [HALL.out j hj (by omega)];decide
   have HW:Hid (hfE hd vars = 0 /\ hfA hd vars = 0):=by
    unfold Hid hfE hfA;rw [hf];exact ⟨rfl,rfl⟩
   clear hf
   have z0:wr.cell? ⟨w.heap.size,0,none⟩ = some (.int .i64 0):=by simp [World.cell?,hblk]
   have z1:wr.cell? ⟨w.heap.size,1,none⟩ = some (.int .i64 0):=by simp [World.cell?,hblk]
   have f0:wr.frozen? ⟨w.heap.size,0,none⟩ = false:=by simp [World.frozen?,hblk]
   have f1:wr.frozen? ⟨w.heap.size,1,none⟩ = false:=by simp [World.frozen?,hblk]
   go_wp2_with fail
   refine bodyPost_ret (v:=.agg #[.int .i64 0,.int .i64 0]) (by simp [results,Tryz.results84,go_sem,z0,z1]) rfl ⟨?_,?_⟩
   ·rw [HW.out.1,HW.out.2];rfl
   ·exact (hb.setCell (p:=⟨w.heap.size,0,none⟩) (Nat.le_refl _) _).setCell (p:=⟨w.heap.size,1,none⟩) (Nat.le_refl _) _
theorem lh_hd (s:ByteArray) (n:Nat) (c:CS):(lh s n c).2.hd.length <= c.hd.length + n + 1:=by
 have hr:∀ c,(rhC s c).hd.length <= c.hd.length + 1:=by
  intro c;unfold rhC;split
  ·split
   ·simp
   ·split <;> simp
  ·simp
 induction n generalizing c with
 | zero => simp [lh]
 | succ n ih =>
  unfold lh
  have h0:=hr c
  split
  ·split
   ·have h1:(lh s n { rhC s c with p:=tp s (rhC s c).p 7 }).2.hd.length <= (rhC s c).hd.length + n + 1:=ih { rhC s c with p:=tp s (rhC s c).p 7 }
    omega
   ·simp only;omega
  ·simp only;omega
theorem rdH_hd (s:ByteArray) (c:CS):(rdH s c).2.hd.length <= c.hd.length + 8:=by
 have hL:=lh_hd s (7 - c.hd.length) (cw s c 5)
 have hc:(cw s c 5).hd.length = c.hd.length:=rfl
 unfold rdH
 split
 ·split
  ·show c.hd.length <= _;omega
  ·split
   ·show (lh s (7 - c.hd.length) (cw s c 5)).2.hd.length <= _;omega
   ·show (lh s (7 - c.hd.length) (cw s c 5)).2.hd.length <= _;omega
 ·show c.hd.length <= _;omega
theorem raR_hd (s:ByteArray) (c:CS):(raR s c).2.hd = c.hd /\ (raR s c).2.ats.length <= c.ats.length + 1:=by
 unfold raR
 split
 ·split
  ·exact ⟨rfl,by show c.ats.length <= _;omega⟩
  ·split
   ·split
    ·split
     ·split
      ·exact ⟨rfl,by show c.ats.length <= _;omega⟩
      ·exact ⟨rfl,by simp⟩
     ·exact ⟨rfl,by show c.ats.length <= _;omega⟩
    ·exact ⟨rfl,by show c.ats.length <= _;omega⟩
   ·exact ⟨rfl,by show c.ats.length <= _;omega⟩
 ·exact ⟨rfl,by show c.ats.length <= _;omega⟩
theorem la_hd (s:ByteArray) (n:Nat) (c:CS) (hok:OkC s c.p) (hl:c.vars.length <= 6):(la s n c).2.hd = c.hd /\ (la s n c).2.ats.length <= c.ats.length + n /\ ((la s n c).1 = true -> c.ats.length + 1 <= (la s n c).2.ats.length):=by
 induction n generalizing c with
 | zero => exact ⟨rfl,by simp [la],fun h => by simp [la] at h⟩
 | succ n ih =>
  obtain ⟨t1,t2,t3⟩:=raR_ok hok hl
  obtain ⟨u1,u2⟩:=raR_hd s c
  unfold la
  split
  ·rename_i hx
   obtain ⟨q1,_⟩:=t3 hx
   split
   ·obtain ⟨i1,i2,i3⟩:=ih { (raR s c).2 with p:=tp s (raR s c).2.p 7 } (t1.tp 7) t2
    have e:({ (raR s c).2 with p:=tp s (raR s c).2.p 7 }:CS).ats.length = (raR s c).2.ats.length:=rfl
    exact ⟨i1.trans u1,by omega,fun h => by have:=i3 h;omega⟩
   ·exact ⟨u1,by simp only;omega,fun _ => by simp only;omega⟩
  ·exact ⟨u1,by simp only;omega,fun h => by cases h⟩
theorem cell_of_blk {w:World} {b:Nat} {c:Array Value} {t:TypeId} (h:w.heap[b]? = some (.cells c t (0,0))) (j:Nat) (v:Value) (hj:c[j]? = some v):w.cell? ⟨b,j,none⟩ = some v:=by
 simp [World.cell?,h,hj]
def c0 (s:ByteArray):CS:=⟨Est.piece s 0,[],[],[],0,0⟩
theorem rq_bounds (s:ByteArray):(rq s (c0 s)).2.hd.length <= 100 /\ (rq s (c0 s)).2.vars.length <= 100 /\ (rq s (c0 s)).2.ats.length <= 100 /\ ((rq s (c0 s)).1 = true -> 1 <= (rq s (c0 s)).2.ats.length):=by
 have hok:OkC s (c0 s).p:=OkC.piece s 0 (Nat.zero_le _)
 obtain ⟨e1,e2,e3⟩:=rdH_keep s (c0 s) hok
 have e4:=rdH_hd s (c0 s)
 have z0:(c0 s).hd.length = 0:=rfl
 have z1:(c0 s).vars = []:=rfl
 have z2:(c0 s).ats = []:=rfl
 have hl:(cw s (rdH s (c0 s)).2 8).vars.length <= 6:=by show (rdH s (c0 s)).2.vars.length <= 6;rw [e1,z1];simp
 have ho:OkC s (cw s (rdH s (c0 s)).2 8).p:=e3.tp 8
 obtain ⟨l1,l2,l3⟩:=la_hd s (5 - (c0 s).ats.length) (cw s (rdH s (c0 s)).2 8) ho hl
 obtain ⟨_,m2⟩:=la_ok s (5 - (c0 s).ats.length) ho hl
 have hh:(la s (5 - (c0 s).ats.length) (cw s (rdH s (c0 s)).2 8)).2.hd.length <= 100:=by rw [l1];show (rdH s (c0 s)).2.hd.length <= 100;omega
 have ha0:(cw s (rdH s (c0 s)).2 8).ats.length = 0:=by show (rdH s (c0 s)).2.ats.length = 0;rw [e2,z2];rfl
 have hz:(c0 s).ats.length = 0:=rfl
 have hA:(rdH s (c0 s)).2.ats.length = 0:=ha0
 have hV:(rdH s (c0 s)).2.vars.length <= 100:=by rw [e1,z1];simp
 have hH:(rdH s (c0 s)).2.hd.length <= 100:=by omega
 have l2':(la s (5 - (c0 s).ats.length) (cw s (rdH s (c0 s)).2 8)).2.ats.length <= 100:=by omega
 have l3':(la s (5 - (c0 s).ats.length) (cw s (rdH s (c0 s)).2 8)).1 = true -> 1 <= (la s (5 - (c0 s).ats.length) (cw s (rdH s (c0 s)).2 8)).2.ats.length:=fun h => by have:=l3 h;omega
 have m2':(la s (5 - (c0 s).ats.length) (cw s (rdH s (c0 s)).2 8)).2.vars.length <= 100:=by omega
 clear l1 l2 l3 m2 ha0 hl ho e1 e2 e3 e4 z0 z1 z2
 unfold rq
 generalize la s (5 - (c0 s).ats.length) (cw s (rdH s (c0 s)).2 8) = L at *
 generalize rdH s (c0 s) = A at *
 split
 ·split
  ·split
   ·rename_i hx
    split
    ·exact ⟨hh,m2',l2',fun _ => l3' hx⟩
    ·exact ⟨hh,m2',l2',fun h => by cases h⟩
   ·exact ⟨hh,m2',l2',fun h => by cases h⟩
  ·exact ⟨hH,hV,(show A.2.ats.length <= 100 by omega),fun h => by cases h⟩
 ·exact ⟨hH,hV,(show A.2.ats.length <= 100 by omega),fun h => by cases h⟩
def pE (s:ByteArray):Nat:=if 200 < s.size then 1 else if (rq s (c0 s)).1 then wfE (rq s (c0 s)).2 else (rq s (c0 s)).2.e
def pA (s:ByteArray):Nat:=if 200 < s.size then 0 else if (rq s (c0 s)).1 then wfA (rq s (c0 s)).2 else (rq s (c0 s)).2.a
def pG (s:ByteArray):Bool:=!decide (200 < s.size) && (rq s (c0 s)).1 && decide (wfE (rq s (c0 s)).2 = 0)
def edg (c:CS):List (Nat × Nat):=meL (c.ats.length - 1) (c.ats.map CA.set) (List.range c.ats.length)
structure CQ (w:World) (base:Nat) (hv vv av ev:Value) (c:CS):Prop where
 hd:w.ownsRow base 169 3 hv c.hd.length (pcells c.hd)
 vars:w.ownsRow base 9 1 vv c.vars.length (strs c.vars)
 ats:AR w base av c.ats
 es:w.ownsRow base 218 2 ev (edg c).length (ecells (edg c))
theorem CQ.keeps {F:Nat -> Option Obj -> Prop} {w w':World} {base:Nat} {hv vv av ev:Value} {c:CS} (h:CQ w base hv vv av ev c) (k:Keeps F w w') (hr:∀ j,base <= j -> (tag w.heap[j]? = 169 ∨ tag w.heap[j]? = 9 ∨ tag w.heap[j]? = 180 ∨ tag w.heap[j]? = 205 ∨ tag w.heap[j]? = 218) -> ¬ F j w.heap[j]?):CQ w' base hv vv av ev c :=
 ⟨own_keeps h.hd k (fun j hj _ ht _ => hr j hj (Or.inl ht)),own_keeps h.vars k (fun j hj _ ht _ => hr j hj (Or.inr (Or.inl ht))),AR.keeps h.ats k (fun j hj _ ht _ => hr j hj (Or.inr (Or.inr (Or.inl ht)))) (fun j hj _ ht => hr j hj (Or.inr (Or.inr (Or.inr (Or.inl ht))))),own_keeps h.es k (fun j hj _ ht _ => hr j hj (Or.inr (Or.inr (Or.inr (Or.inr ht)))))⟩
theorem CQ.below {w w':World} {base:Nat} {hv vv av ev:Value} {c:CS} (h:CQ w base hv vv av ev c) (hb:Below w.heap.size w w'):CQ w' base hv vv av ev c :=
 ⟨own_below' h.hd hb,own_below' h.vars hb,h.ats.below hb,own_below' h.es hb⟩
theorem ecells_len (l:List (Nat × Nat)):(ecells l).length = l.length * 2:=by
 induction l with
 | nil => rfl
 | cons e l ih => simp only [ecells,List.flatMap_cons,List.length_append,List.length_cons,List.length_nil] at ih ⊢;omega
theorem AR.mono {w:World} {base base':Nat} {av:Value} {l:List CA} (h:AR w base av l) (hb:base' <= base):AR w base' av l:=by
 obtain ⟨ts,h1,h2,h3⟩:=h
 exact ⟨ts,h1,h2.mono hb,fun x hx => (h3 x hx).mono hb⟩
theorem parse_any (s:ByteArray) (w:World) (hs:s.size <= maxLen) :
  Calls Tryz.prog 54 #[.string s] w fun x w' => (∃ a0 n0 k0 a1 n1 k1 a2 n2 k2 a3 n3 k3,x = .returned (.tuple #[.agg #[.slice a0 n0 k0,.slice a1 n1 k1,.slice a2 n2 k2,.slice a3 n3 k3],.agg #[.int .i64 (pE s),.int .i64 (pA s)]]) /\ (pG s = true -> CQ w' w.heap.size (.slice a0 n0 k0) (.slice a1 n1 k1) (.slice a2 n2 k2) (.slice a3 n3 k3) (rq s (c0 s)).2)) /\ Below w.heap.size w w':=by
 have HS:Hid (s.size <= maxLen):=hs
 unfold maxLen at hs
 by_cases h200:200 < s.size
 ·have HE:Hid (pE s = 1 /\ pA s = 0):=by unfold Hid pE pA;rw [if_pos h200,if_pos h200];exact ⟨rfl,rfl⟩
  have HP:Hid (pG s = false):=by unfold Hid pG;simp [h200]
  go_enter Tryz.func54,Tryz.ntmps54
  go_wp2_with fail
  refine bodyPost_ret (v:=.tuple #[.agg #[.slice none 0 0,.slice none 0 0,.slice none 0 0,.slice none 0 0],.agg #[.int .i64 1,.int .i64 0]]) (by simp [results,Tryz.results54,go_sem]) rfl ⟨⟨none,0,0,none,0,0,none,0,0,none,0,0,?_,fun h => by rw [HP.out] at h;cases h⟩,((Below.refl _ _).alloc (Nat.le_refl _) _).alloc (by simp) _⟩
  rw [HE.out.1,HE.out.2];rfl
 ·have HE:Hid (pE s = (if (rq s (c0 s)).1 then wfE (rq s (c0 s)).2 else (rq s (c0 s)).2.e) /\ pA s = (if (rq s (c0 s)).1 then wfA (rq s (c0 s)).2 else (rq s (c0 s)).2.a)):=by
   unfold Hid pE pA;rw [if_neg h200,if_neg h200];exact ⟨rfl,rfl⟩
  have HP:Hid (pG s = ((rq s (c0 s)).1 && decide (wfE (rq s (c0 s)).2 = 0))):=by unfold Hid pG;simp [h200]
  go_enter Tryz.func54,Tryz.ntmps54
  go_wp2_with fail
  refine (nextPiece_at s 0 0 _ HS.out (Nat.zero_le _) rfl).mono ?_
  rintro x w1 ⟨rfl,hb1⟩
  have hbw:Below w.heap.size w w1:=(((Below.refl _ _).alloc (Nat.le_refl _) _).alloc (by simp) _).trans (hb1.mono (by simp;omega))
  have b1:w1.heap[w.heap.size]? = some (.cells #[.slice none 0 0,.slice none 0 0,.slice none 0 0,.slice none 0 0] 121 (0,0)):=(hb1.block w.heap.size (by simp;omega)).trans ((Below.heap_alloc _ _ _ (by simp)).trans (heap_alloc_new _ _))
  have b2:w1.heap[w.heap.size + 1]? = some (.cells #[.int .i64 0,.int .i64 0] 123 (0,0)):=by
   refine (hb1.block (w.heap.size + 1) (by simp)).trans ?_
   have:=heap_alloc_new (w.alloc (.cells #[.slice none 0 0,.slice none 0 0,.slice none 0 0,.slice none 0 0] 121)) (.cells #[.int .i64 0,.int .i64 0] 123)
   simpa using this
  have l1:w.heap.size + 1 < w1.heap.size:=lt_of_block b2
  have hC:CSt (w1.alloc (cdBlk s (Est.piece s 0) (.slice none 0 0) (.slice none 0 0) (.slice none 0 0) 0 0)) w1.heap.size (w1.heap.size + 1) s (c0 s) :=
   ⟨_,_,_,⟨heap_alloc_new _ _⟩,World.ownsRow_nil _ _ _ _,World.ownsRow_nil _ _ _ _,[],rfl,World.ownsRow_nil _ _ _ _,fun x hx => by simp [c0] at hx⟩
  have hCD:Hid (CSt (w1.alloc (cdBlk s (Est.piece s 0) (.slice none 0 0) (.slice none 0 0) (.slice none 0 0) 0 0)) w1.heap.size (w1.heap.size + 1) s (c0 s)):=hC
  clear hC hb1
  go_wp2_with fail
  refine (readQuery_any w1.heap.size (w1.heap.size + 1) s (c0 s) _ (by exact hCD.out) HS.out (OkC.piece s 0 (Nat.zero_le _)) (Nat.zero_le _) (Nat.zero_le _) (Nat.zero_le _) (by simp)).mono ?_
  rintro x w2 ⟨rfl,hc2,k2⟩
  obtain ⟨q1,q2,q3,q4⟩:=rq_bounds s
  obtain ⟨R,hR⟩:∃ R,rq s (c0 s) = R:=⟨_,rfl⟩
  have HRR:Hid (rq s (c0 s) = R):=hR
  rw [hR] at hc2 q1 q2 q3 q4 HE HP ⊢
  have HQ4:Hid (R.1 = true -> 1 <= R.2.ats.length):=q4
  clear hR q4
  have hold:∀ k,k < w1.heap.size -> w2.heap[k]? = w1.heap[k]?:=fun k hk => (k2.block k (by simp;omega) (by unfold FQ;omega)).trans (Below.heap_alloc _ _ _ hk)
  have b12:=(hold w.heap.size (by omega)).trans b1
  have b22:=(hold (w.heap.size + 1) l1).trans b2
  have hbw2:Below w.heap.size w w2:=⟨k2.os.trans hbw.os,k2.tape.trans hbw.tape,k2.output.trans hbw.output,Nat.le_trans hbw.size (Nat.le_trans (by simp) k2.size),fun k hk => (hold k (by omega)).trans (hbw.block k hk)⟩
  clear hold k2 b1 b2 hCD
  obtain ⟨hv,vv,av,g1,gr1,gr2,gr3⟩:=hc2.ex
  obtain ⟨ha1,hc1,hhv⟩:=own_form gr1
  obtain ⟨va1,vc1,hvv⟩:=own_form gr2
  obtain ⟨aa1,ac1,hav⟩:=AR.form gr3
  subst hhv
  subst hvv
  subst hav
  have e4:=g1.c4
  have e5:=g1.c5
  have e6:=g1.c6
  have e7:=g1.c7
  have e8:=g1.c8
  have e9:=g1.c9
  have lr2:=g1.lt
  have z0:w2.cell? ⟨w.heap.size,0,none⟩ = some (.slice none 0 0):=by simp [World.cell?,b12]
  have z1:w2.cell? ⟨w.heap.size,1,none⟩ = some (.slice none 0 0):=by simp [World.cell?,b12]
  have z2:w2.cell? ⟨w.heap.size,2,none⟩ = some (.slice none 0 0):=by simp [World.cell?,b12]
  have z3:w2.cell? ⟨w.heap.size,3,none⟩ = some (.slice none 0 0):=by simp [World.cell?,b12]
  have f0:w2.frozen? ⟨w.heap.size,0,none⟩ = false:=by simp [World.frozen?,b12]
  have f1:w2.frozen? ⟨w.heap.size,1,none⟩ = false:=by simp [World.frozen?,b12]
  have f2:w2.frozen? ⟨w.heap.size,2,none⟩ = false:=by simp [World.frozen?,b12]
  have f3:w2.frozen? ⟨w.heap.size,3,none⟩ = false:=by simp [World.frozen?,b12]
  have y0:w2.cell? ⟨w.heap.size + 1,0,none⟩ = some (.int .i64 0):=by simp [World.cell?,b22]
  have y1:w2.cell? ⟨w.heap.size + 1,1,none⟩ = some (.int .i64 0):=by simp [World.cell?,b22]
  have g0:w2.frozen? ⟨w.heap.size + 1,0,none⟩ = false:=by simp [World.frozen?,b22]
  have g2:w2.frozen? ⟨w.heap.size + 1,1,none⟩ = false:=by simp [World.frozen?,b22]
  cases hx:R.1
  ·have HF:Hid (pE s = R.2.e /\ pA s = R.2.a):=by unfold Hid;rw [HE.out.1,HE.out.2,hx];exact ⟨rfl,rfl⟩
   have HPF:Hid (pG s = false):=by unfold Hid;rw [HP.out,hx];rfl
   clear hx HE gr1 gr2 gr3
   go_wp2_with fail
   go_region
   all_goals go_wp2
   all_goals
    refine bodyPost_ret (v:=.tuple #[.agg #[.slice none 0 0,.slice none 0 0,.slice none 0 0,.slice none 0 0],.agg #[.int .i64 R.2.e,.int .i64 R.2.a]]) (by simp [results,Tryz.results54,go_sem,z0,z1,z2,z3,y0,y1]) rfl ⟨⟨none,0,0,none,0,0,none,0,0,none,0,0,?_,fun h => by rw [HPF.out] at h;cases h⟩,?_⟩
    ·rw [HF.out.1,HF.out.2]
    ·refine Below.drew ?_
     repeat (refine Below.setCell ?_ (by simp) _)
     exact hbw2
  ·have HF:Hid (pE s = wfE R.2 /\ pA s = wfA R.2):=by unfold Hid;rw [HE.out.1,HE.out.2,hx];exact ⟨rfl,rfl⟩
   have hat1:=HQ4.out hx
   have HPF:Hid (pG s = decide (wfE R.2 = 0)):=by unfold Hid;rw [HP.out,hx];rfl
   clear hx HE
   obtain ⟨O,hO⟩:∃ O,Obj.cells #[.slice ha1 R.2.hd.length hc1,.slice va1 R.2.vars.length vc1,.slice aa1 R.2.ats.length ac1,.slice none 0 0] 121 = O:=⟨_,rfl⟩
   have HO:Hid (Obj.cells #[.slice ha1 R.2.hd.length hc1,.slice va1 R.2.vars.length vc1,.slice aa1 R.2.ats.length ac1,.slice none 0 0] 121 = O):=hO
   have hbO:Below w2.heap.size w2 (w2.alloc O):=(Below.refl _ _).alloc (Nat.le_refl _) _
   have qb:(w2.alloc O).heap[w2.heap.size]? = some (.cells #[.slice ha1 R.2.hd.length hc1,.slice va1 R.2.vars.length vc1,.slice aa1 R.2.ats.length ac1,.slice none 0 0] 121 (0,0)):=by rw [← hO];exact heap_alloc_new _ _
   have p0:(w2.alloc O).cell? ⟨w2.heap.size,0,none⟩ = some (.slice ha1 R.2.hd.length hc1):=cell_of_blk qb 0 _ rfl
   have p1:(w2.alloc O).cell? ⟨w2.heap.size,1,none⟩ = some (.slice va1 R.2.vars.length vc1):=cell_of_blk qb 1 _ rfl
   have hr1:=own_below' gr1 hbO
   have hr2:=own_below' gr2 hbO
   have hr3:AR (w2.alloc O) (w1.heap.size + 1) (.slice aa1 R.2.ats.length ac1) R.2.ats:=gr3.below hbO
   clear hO
   go_wp2_with fail
   rw [HO.out]
   refine (headFault_any w2.heap.size (w1.heap.size + 1) R.2.hd R.2.vars _ _ (w2.alloc O) hr1 hr2 p0 p1 q1 q2).mono ?_
   rintro x w3 ⟨rfl,hb3⟩
   have hb23:Below w2.heap.size w2 w3:=hbO.trans (hb3.mono hbO.size)
   have hbw3:Below w.heap.size w w3:=hbw2.trans (hb23.mono hbw2.size)
   have b13:=(hb23.block w.heap.size (lt_of_block b12)).trans b12
   have b23:=(hb23.block (w.heap.size + 1) (lt_of_block b22)).trans b22
   have qb3:=(hb3.block w2.heap.size (lt_of_block qb)).trans qb
   have ar3:AR w3 (w1.heap.size + 1) (.slice aa1 R.2.ats.length ac1) R.2.ats:=hr3.below hb3
   have HG3:Hid (w3.ownsRow (w1.heap.size + 1) 169 3 (.slice ha1 R.2.hd.length hc1) R.2.hd.length (pcells R.2.hd) /\ w3.ownsRow (w1.heap.size + 1) 9 1 (.slice va1 R.2.vars.length vc1) R.2.vars.length (strs R.2.vars) /\ AR w3 (w1.heap.size + 1) (.slice aa1 R.2.ats.length ac1) R.2.ats):=⟨own_below' gr1 hb23,own_below' gr2 hb23,ar3⟩
   clear hr1 hr2 hr3 gr1 gr2 gr3 p0 p1 qb hbO hb3 hb23 b12 b22 e4 e5 e6 e7 e8 e9 g1 hc2 z0 z1 z2 z3 f0 f1 f2 f3 y0 y1 g0 g2 HO
   have lw3:w.heap.size + 1 < w3.heap.size:=lt_of_block b23
   have lw0:w.heap.size < w3.heap.size:=by omega
   have lq3:w2.heap.size < w3.heap.size:=lt_of_block qb3
   have hle:w.heap.size <= w3.heap.size:=by omega
   have HWF:Hid ((hfE R.2.hd R.2.vars = 5 /\ wfE R.2 = 5 /\ wfA R.2 = hfA R.2.hd R.2.vars) ∨ (hfE R.2.hd R.2.vars = 0 /\ hfA R.2.hd R.2.vars = 0 /\ wfA R.2 = 0 /\ wfE R.2 = if mtI (R.2.ats.length - 1) (R.2.ats.map CA.set) (List.range R.2.ats.length) then 0 else 7)):=by
    unfold Hid hfE hfA wfE wfA
    cases hf:R.2.hd.find? (fun p => !decide (0 <= ixOf R.2.vars p.t)) with
    | none => exact Or.inr ⟨rfl,rfl,rfl,rfl⟩
    | some p => exact Or.inl ⟨rfl,rfl,rfl⟩
   have z0:w3.cell? ⟨w.heap.size,0,none⟩ = some (.slice none 0 0):=by simp [World.cell?,b13]
   have z1:w3.cell? ⟨w.heap.size,1,none⟩ = some (.slice none 0 0):=by simp [World.cell?,b13]
   have z2:w3.cell? ⟨w.heap.size,2,none⟩ = some (.slice none 0 0):=by simp [World.cell?,b13]
   have z3:w3.cell? ⟨w.heap.size,3,none⟩ = some (.slice none 0 0):=by simp [World.cell?,b13]
   have f0:w3.frozen? ⟨w.heap.size,0,none⟩ = false:=by simp [World.frozen?,b13]
   have f1:w3.frozen? ⟨w.heap.size,1,none⟩ = false:=by simp [World.frozen?,b13]
   have f2:w3.frozen? ⟨w.heap.size,2,none⟩ = false:=by simp [World.frozen?,b13]
   have f3:w3.frozen? ⟨w.heap.size,3,none⟩ = false:=by simp [World.frozen?,b13]
   have y0:w3.cell? ⟨w.heap.size + 1,0,none⟩ = some (.int .i64 0):=by simp [World.cell?,b23]
   have y1:w3.cell? ⟨w.heap.size + 1,1,none⟩ = some (.int .i64 0):=by simp [World.cell?,b23]
   have g0:w3.frozen? ⟨w.heap.size + 1,0,none⟩ = false:=by simp [World.frozen?,b23]
   have g2:w3.frozen? ⟨w.heap.size + 1,1,none⟩ = false:=by simp [World.frozen?,b23]
   obtain ⟨E,hWE⟩:∃ E,hfE R.2.hd R.2.vars = E:=⟨_,rfl⟩
   obtain ⟨A,hWA⟩:∃ A,hfA R.2.hd R.2.vars = A:=⟨_,rfl⟩
   rw [hWE,hWA] at HWF ⊢
   clear hWE hWA
   rcases HWF.out with ⟨r1,r2,r3⟩ | ⟨r1,r2,r3,r4⟩
   ·subst r1
    have HF2:Hid (pE s = 5 /\ pA s = A):=⟨HF.out.1.trans r2,HF.out.2.trans r3⟩
    have HPG:Hid (pG s = false):=by unfold Hid;rw [HPF.out,r2];rfl
    clear HWF HF r2 r3 qb3 ar3
    go_wp2_with fail
    go_region
    all_goals go_wp2
    all_goals
     refine bodyPost_ret (v:=.tuple #[.agg #[.slice none 0 0,.slice none 0 0,.slice none 0 0,.slice none 0 0],.agg #[.int .i64 5,.int .i64 A]]) (by simp [results,Tryz.results54,go_sem,z0,z1,z2,z3,y0,y1,lw3,lw0]) rfl ⟨⟨none,0,0,none,0,0,none,0,0,none,0,0,?_,fun h => by rw [HPG.out] at h;cases h⟩,?_⟩
     ·rw [HF2.out.1,HF2.out.2];rfl
     ·refine Below.drew ?_
      refine Below.alloc ?_ (by simp [World.setCell];omega) _
      repeat (refine Below.setCell ?_ (by simp) _)
      exact hbw3
   ·subst r1
    subst r2
    have HF2:Hid (pE s = (if mtI (R.2.ats.length - 1) (R.2.ats.map CA.set) (List.range R.2.ats.length) then 0 else 7) /\ pA s = 0):=⟨HF.out.1.trans r4,HF.out.2.trans r3⟩
    have HPG:Hid (pG s = mtI (R.2.ats.length - 1) (R.2.ats.map CA.set) (List.range R.2.ats.length)):=by
     unfold Hid;rw [HPF.out,r4]
     cases mtI (R.2.ats.length - 1) (R.2.ats.map CA.set) (List.range R.2.ats.length) <;> rfl
    clear HWF HF r3 r4
    have hbO2:Below w3.heap.size w3 (w3.alloc (.cells #[.int .i64 0,.int .i64 0] 123)):=(Below.refl _ _).alloc (Nat.le_refl _) _
    have qb4:=(hbO2.block w2.heap.size lq3).trans qb3
    have p2:(w3.alloc (.cells #[.int .i64 0,.int .i64 0] 123)).cell? ⟨w2.heap.size,2,none⟩ = some (.slice aa1 R.2.ats.length ac1):=cell_of_blk qb4 2 _ rfl
    have ar4:AR (w3.alloc (.cells #[.int .i64 0,.int .i64 0] 123)) (w1.heap.size + 1) (.slice aa1 R.2.ats.length ac1) R.2.ats:=ar3.below hbO2
    have HQB3:Hid (w3.heap[w2.heap.size]? = some (.cells #[.slice ha1 R.2.hd.length hc1,.slice va1 R.2.vars.length vc1,.slice aa1 R.2.ats.length ac1,.slice none 0 0] 121 (0,0))):=qb3
    have HP2:Hid _:=p2
    have HB1:Hid (w3.heap[w.heap.size]? = some (.cells #[.slice none 0 0,.slice none 0 0,.slice none 0 0,.slice none 0 0] 121 (0,0))):=b13
    have HB2:Hid (w3.heap[w.heap.size + 1]? = some (.cells #[.int .i64 0,.int .i64 0] 123 (0,0))):=b23
    clear qb4 qb3 p2 ar3 b13 b23
    go_wp2_with fail
    refine (varSets_any w2.heap.size (w1.heap.size + 1) R.2.ats _ _ HP2.out ar4 q3).mono ?_
    rintro x w4 ⟨sa,scap,rfl,hs4,hb4⟩
    go_wp2_with fail
    refine (makeTree_said (w3.alloc (.cells #[.int .i64 0,.int .i64 0] 123)).heap.size (R.2.ats.map CA.set) _ _ (by simpa using hs4) (by simpa using hat1) (by simpa using q3)).mono ?_
    rintro x w5 ⟨⟨ea,em,ec,rfl,hE5⟩,hb5⟩
    have hb35:Below w3.heap.size w3 w5:=hbO2.trans ((hb4.trans (hb5.mono hb4.size)).mono hbO2.size)
    have hbw5:Below w.heap.size w w5:=hbw3.trans (hb35.mono hbw3.size)
    have b15:=(hb35.block w.heap.size lw0).trans HB1.out
    have b25:=(hb35.block (w.heap.size + 1) lw3).trans HB2.out
    have qb5:=(hb35.block w2.heap.size lq3).trans HQB3.out
    have HQ5:Hid (mtI (R.2.ats.length - 1) (R.2.ats.map CA.set) (List.range R.2.ats.length) = true -> CQ w5 w.heap.size (.slice ha1 R.2.hd.length hc1) (.slice va1 R.2.vars.length vc1) (.slice aa1 R.2.ats.length ac1) (.slice ea em ec) R.2):=by
     intro hm
     rw [List.length_map] at hE5
     have hE:=hE5 hm
     have hlen:em = (edg R.2).length:=by
      have:=hE.1;rw [ecells_len] at this;unfold edg;omega
     have hl1:w.heap.size <= w1.heap.size + 1:=by omega
     refine ⟨(own_below' HG3.out.1 hb35).mono hl1,(own_below' HG3.out.2.1 hb35).mono hl1,(HG3.out.2.2.below hb35).mono hl1,?_⟩
     have hE':=hE.mono (base':=w.heap.size) (Nat.le_trans hle (Nat.le_trans hbO2.size hb4.size))
     rw [hlen] at hE' ⊢
     exact hE'
    have HT5:Hid (tag w5.heap[w.heap.size]? = 121 /\ tag w5.heap[w.heap.size + 1]? = 123 /\ tag w5.heap[w2.heap.size]? = 121):=⟨by rw [b15];rfl,by rw [b25];rfl,by rw [qb5];rfl⟩
    clear hE5 hb4 hb5 hb35 hs4 ar4 HP2 HB1 HB2 HQB3 z0 z1 z2 z3 f0 f1 f2 f3 y0 y1 g0 g2 hbO2
    have lw5:w.heap.size + 1 < w5.heap.size:=lt_of_block b25
    have lw05:w.heap.size < w5.heap.size:=by omega
    have lq5:w2.heap.size < w5.heap.size:=lt_of_block qb5
    have nq0:w2.heap.size ≠ w.heap.size:=by have:=hbw2.size;have:=l1;have:=lr2;omega
    have nq1:w2.heap.size ≠ w.heap.size + 1:=by have:=l1;have:=lr2;omega
    have z0:w5.cell? ⟨w.heap.size,0,none⟩ = some (.slice none 0 0):=by simp [World.cell?,b15]
    have z1:w5.cell? ⟨w.heap.size,1,none⟩ = some (.slice none 0 0):=by simp [World.cell?,b15]
    have z2:w5.cell? ⟨w.heap.size,2,none⟩ = some (.slice none 0 0):=by simp [World.cell?,b15]
    have z3:w5.cell? ⟨w.heap.size,3,none⟩ = some (.slice none 0 0):=by simp [World.cell?,b15]
    have f0:w5.frozen? ⟨w.heap.size,0,none⟩ = false:=by simp [World.frozen?,b15]
    have f1:w5.frozen? ⟨w.heap.size,1,none⟩ = false:=by simp [World.frozen?,b15]
    have f2:w5.frozen? ⟨w.heap.size,2,none⟩ = false:=by simp [World.frozen?,b15]
    have f3:w5.frozen? ⟨w.heap.size,3,none⟩ = false:=by simp [World.frozen?,b15]
    have y0:w5.cell? ⟨w.heap.size + 1,0,none⟩ = some (.int .i64 0):=by simp [World.cell?,b25]
    have y1:w5.cell? ⟨w.heap.size + 1,1,none⟩ = some (.int .i64 0):=by simp [World.cell?,b25]
    have g0:w5.frozen? ⟨w.heap.size + 1,0,none⟩ = false:=by simp [World.frozen?,b25]
    have g2:w5.frozen? ⟨w.heap.size + 1,1,none⟩ = false:=by simp [World.frozen?,b25]
    have k0:w5.cell? ⟨w2.heap.size,0,none⟩ = some (.slice ha1 R.2.hd.length hc1):=by simp [World.cell?,qb5]
    have k1:w5.cell? ⟨w2.heap.size,1,none⟩ = some (.slice va1 R.2.vars.length vc1):=by simp [World.cell?,qb5]
    have k2:w5.cell? ⟨w2.heap.size,2,none⟩ = some (.slice aa1 R.2.ats.length ac1):=by simp [World.cell?,qb5]
    have k3:w5.cell? ⟨w2.heap.size,3,none⟩ = some (.slice none 0 0):=by simp [World.cell?,qb5]
    have fk:w5.frozen? ⟨w2.heap.size,3,none⟩ = false:=by simp [World.frozen?,qb5]
    clear qb5 b15 b25
    rw [List.length_map]
    obtain ⟨M,hM⟩:∃ M,mtI (R.2.ats.length - 1) (R.2.ats.map CA.set) (List.range R.2.ats.length) = M:=⟨_,rfl⟩
    rw [hM] at HF2 HQ5 HPG ⊢
    clear hM
    cases M
    ·go_wp2_with fail
     refine bodyPost_ret (v:=.tuple #[.agg #[.slice none 0 0,.slice none 0 0,.slice none 0 0,.slice none 0 0],.agg #[.int .i64 7,.int .i64 0]]) (by simp [results,Tryz.results54,go_sem,z0,z1,z2,z3,y0,y1]) rfl ⟨⟨none,0,0,none,0,0,none,0,0,none,0,0,?_,fun h => by rw [HPG.out] at h;cases h⟩,?_⟩
     ·rw [HF2.out.1,HF2.out.2];rfl
     ·repeat (refine Below.setCell ?_ (by simp) _)
      exact hbw5
    ·go_wp2_with fail
     refine bodyPost_ret (v:=.tuple #[.agg #[.slice ha1 R.2.hd.length hc1,.slice va1 R.2.vars.length vc1,.slice aa1 R.2.ats.length ac1,.slice ea em ec],.agg #[.int .i64 0,.int .i64 0]]) (by simp [results,Tryz.results54,go_sem,z0,z1,z2,z3,y0,y1]) rfl ⟨⟨ha1,R.2.hd.length,hc1,va1,R.2.vars.length,vc1,aa1,R.2.ats.length,ac1,ea,em,ec,?_,fun _ => ?_⟩,?_⟩
     ·rw [HF2.out.1,HF2.out.2];rfl
     ·rw [HRR.out]
      refine (HQ5.out trivial).keeps (F:=fun j _ => j = w.heap.size ∨ j = w.heap.size + 1 ∨ j = w2.heap.size) ?_ ?_
      ·repeat (refine Keeps.setCell ?_ _ (by simp) _)
       exact Keeps.refl _ _
      ·rintro j _ ht (e | e | e)
       ·rw [e,HT5.out.1] at ht;simp at ht
       ·rw [e,HT5.out.2.1] at ht;simp at ht
       ·rw [e,HT5.out.2.2] at ht;simp at ht
     ·repeat (refine Below.setCell ?_ (by first | exact Nat.le_refl _ | exact Nat.le_succ _ | exact hbw2.size) _)
      exact hbw5
theorem Check_any (s:ByteArray) (w:World) (hs:s.size <= maxLen) :
  Calls Tryz.prog 61 #[.string s] w fun x w' => x = .returned (.tuple #[.int .i64 (pE s),.int .i64 (pA s)]) /\ Below w.heap.size w w':=by
 go_enter Tryz.func61,Tryz.ntmps61
 go_wp2_with fail
 refine (parse_any s _ hs).mono ?_
 rintro x w1 ⟨⟨a0,n0,k0,a1,n1,k1,a2,n2,k2,a3,n3,k3,rfl,_⟩,hb1⟩
 obtain ⟨E,hE⟩:∃ E,pE s = E:=⟨_,rfl⟩
 obtain ⟨A,hA⟩:∃ A,pA s = A:=⟨_,rfl⟩
 have HE:Hid (pE s = E /\ pA s = A):=⟨hE,hA⟩
 rw [hE,hA]
 clear hE hA
 go_wp2_with fail
 go_region
 all_goals go_wp2
 all_goals
  refine bodyPost_ret (v:=.tuple #[.int .i64 E,.int .i64 A]) (by simp [results,Tryz.results61,go_sem]) rfl ⟨?_,?_⟩
  ·rw [HE.out.1,HE.out.2]
  ·refine Below.drew ?_
   exact (hb1.alloc hb1.size _).alloc (by simp;exact Nat.le_succ_of_le hb1.size) _
end Go.Proofs.YtondkinefmjpjaaGreat.K
