import Derived.Test.YtondkinefmjpjaaGreatI55
set_option maxHeartbeats 16000000
set_option maxRecDepth 100000
namespace Go.Proofs.YtondkinefmjpjaaGreat
open Go.RowKit Go.WideMaps Go.WideElems Go.Maps Go.Shelf Go.MuLone
def ClS (W wx:World) (vb:Nat) (P:PlanD) (rb ib:List Nat) (wb:Nat) (R:Nat -> List Int -> Int) (S:Nat -> Bool) (own:Nat -> Option (Nat × List Int)) (k:Nat):Prop :=
 ∃ g,CSt wx vb P rb ib wb (clrR (clrK S k) R) (fun l => cont P (clrR (clrK S k) R) (P.lk.getD l (0,0)).2) (P.wor (cont P R)) g own /\ VUp W wx own own
theorem ClS.fr {W wx wy:World} {vb:Nat} {P:PlanD} {rb ib:List Nat} {wb:Nat} {R:Nat -> List Int -> Int} {S:Nat -> Bool} {own:Nat -> Option (Nat × List Int)} {k:Nat} (h:ClS W wx vb P rb ib wb R S own k) (hf:Fr (fun _ => False) wx wy):ClS W wy vb P rb ib wb R S own k:=by
 obtain ⟨g,h1,h2⟩:=h
 exact ⟨g,h1.fr hf,h2.trans (VUp.of_fr own hf)⟩
theorem clr_all {P:PlanD} {R:Nat -> List Int -> Int} (S:Nat -> Bool) {r:Nat} (hr:r < P.rels.length):clrR (clrK S P.rels.length) R r = clrR S R r:=by
 funext t;simp [clrR,clrK,hr]
theorem cont_congr {P:PlanD} (hQ:RelOk P) {R R':Nat -> List Int -> Int} (h:∀ r,r < P.rels.length -> R r = R' r) (i:Nat):cont P R i = cont P R' i:=by
 funext a
 unfold cont
 split
 ·rename_i hi
  refine S_congr fun t _ => ?_
  rw [h _ (hQ.lt i hi)]
 ·rfl
theorem ClS.done {w W wx wy:World} {vb:Nat} {P:PlanD} {rb ib:List Nat} {wb c:Nat} {R:Nat -> List Int -> Int} {S:Nat -> Bool} {g:Nat -> List Int -> Option Nat} {own:Nat -> Option (Nat × List Int)} (h:VSt w vb P rb ib wb R g own) (hW:w.setCell ⟨vb,0,none⟩ (.int .i32 1) = W) (hw0:∀ a,P.wor (cont P (clrR S R)) a = 0) (hC:ClS W wx vb P rb ib wb R S own P.rels.length) (hb:wy.heap[wb]? = some (.map #[] c)) (hf:Fr (fun i => i = wb) wx wy) :
  (wy.cell? ⟨vb,0,none⟩ = some (.int .i32 1) /\ wy.frozen? ⟨vb,0,none⟩ = false) /\ ∃ g',VSt (wy.setCell ⟨vb,0,none⟩ (.int .i32 0)) vb P rb ib wb (clrR S R) g' own /\ VUp w (wy.setCell ⟨vb,0,none⟩ (.int .i32 0)) own own:=by
 obtain ⟨g',q1,q2⟩:=hC
 obtain ⟨p1,p2⟩:=q1.clrWo hb hf
 subst hW
 have hR:∀ r,r < P.rels.length -> clrR (clrK S P.rels.length) R r = clrR S R r:=fun r hr => clr_all S hr
 have:=clr_fin h (clr_ok h.rok S) (p1.congr hR (fun l _ => cont_congr h.rel hR _) (by funext a;exact (hw0 a).symm)) (q2.trans p2)
 exact ⟨this.1,g',this.2⟩
theorem w64 (x:Int):IntKind.i64.wrap x = wrap64 x:=by rw [IntKind.wrap_i64,wrap64]
def ClP (w w':World) (vb:Nat) (P:PlanD) (rb ib:List Nat) (wb:Nat) (R:Nat -> List Int -> Int) (names:List ByteArray) (own:Nat -> Option (Nat × List Int)) (e:Ending):Prop :=
 ∃ vv us l g',e = .returned (.tuple #[vv,.int .i64 0]) /\ RNew 55 w.heap.size w' vv us (l.map negR) /\ l.Perm (rowsL (hvals P.head) (P.wor (cont P R)) (live 6 (P.wor (cont P R)))) /\ RiseL l /\ VSt w' vb P rb ib wb (clrR (namS P names) R) g' own /\ VUp w w' own own
theorem Clear_ok {w:World} {vb:Nat} {P:PlanD} {rb ib:List Nat} {wb:Nat} {R:Nat -> List Int -> Int} {g:Nat -> List Int -> Option Nat} {own:Nat -> Option (Nat × List Int)} (h:VSt w vb P rb ib wb R g own) (names:List ByteArray) {v:Value} (hv:SReads w v names) (hl:names.length <= 1000) (hall:∀ j,j < names.length -> ∃ r:Nat,rixOf P.rels (names.getD j ByteArray.empty) = (r:Int)) (hw0:∀ a,P.wor (cont P (clrR (namS P names) R)) a = 0) :
  Calls Tryz.prog 18 #[.pointer (some ⟨vb,0,none⟩),v] w fun e w' => ClP w w' vb P rb ib wb R names own e:=by
 obtain ⟨c,hb⟩:=h.hb
 have lv:=vlt_of_block hb
 have h0:=h.h0
 have f0:=blk_free hb 0
 have hC:=clr_lock h (.int .i32 1)
 have hS:=hv.lock h0 (.int .i32 1)
 have hfew:(live 6 (P.wor (cont P R))).length <= 1000000:=by have:=wor_few h.ok h.rel h.rok;omega
 obtain ⟨W,hW⟩:∃ W,w.setCell ⟨vb,0,none⟩ (.int .i32 1) = W:=⟨_,rfl⟩
 have hWs:W.heap.size = w.heap.size:=by rw [← hW];simp
 rw [hW] at hC hS
 have HDONE:Hid (∀ wx wy c,ClS W wx vb P rb ib wb R (namS P names) own P.rels.length -> wy.heap[wb]? = some (.map #[] c) -> Fr (fun i => i = wb) wx wy -> _):=fun wx wy c hx hy hf => ClS.done (c:=c) h hW hw0 hx hy hf
 have HRN:Hid (∀ (u:World) (j:Nat) (I:Int),Fr (fun _ => False) W u -> rixOf P.rels (names.getD j ByteArray.empty) = I -> Calls Tryz.prog 44 #[.pointer (some ⟨vb,2,none⟩),.string (names.getD j ByteArray.empty)] u fun x w' => x = .returned (.int .i64 I) /\ Below u.heap.size u w'):=fun u j I hf hI => relNum_at h.ok (hC.pl.fr hf (mps_none _)) _ hI
 have HCS:Hid (ClS W W vb P rb ib wb R (namS P names) own 0):=⟨g,by rw [clrK_zero];exact hC,VUp.refl _ _⟩
 have HM:Hid (Mps W (OwB own)):=mps_ow hC.W
 have HEMP:Hid (∀ (u:World) (k:Nat),k < P.rels.length -> ClS W u vb P rb ib wb R (namS P names) own k -> namS P names k = true -> Calls Tryz.prog 52 #[.pointer (some ⟨vb,0,none⟩),.int .i64 k] u fun e w' => e = .returned (.tuple #[]) /\ ClS W w' vb P rb ib wb R (namS P names) own (k + 1)):=fun u k hk ⟨g1,q1,q2⟩ hs => by
  refine (empty_any h.ok h.rel h.hrb h.hil q1 hk).mono ?_
  rintro e w' ⟨rfl,g2,p1,p2⟩
  rw [clrK_yes hs] at p1
  exact ⟨rfl,g2,p1,q2.trans p2⟩
 have HNO:Hid (∀ (u:World) (k:Nat),ClS W u vb P rb ib wb R (namS P names) own k -> namS P names k = false -> ClS W u vb P rb ib wb R (namS P names) own (k + 1)):=fun u k ⟨g1,q1,q2⟩ hs => ⟨g1,by rw [← clrK_no hs];exact q1,q2⟩
 obtain ⟨rv,rbase,rvs,r4,r5,r6,r7⟩:=hC.pl.rels
 have HR7:Hid _:=r7
 obtain ⟨ra,rcap,rfl⟩:=vown_form r5
 obtain ⟨hdv,hdb,hd1,hd2⟩:=hC.pl.head
 have HHD:Hid (∀ u,Fr (OwB own) W u -> u.cell? ⟨vb,2,none⟩ = some hdv /\ u.ownsRow hdb 3 1 hdv P.head.length (nats P.head)):=fun u hf => ⟨hf.cell HM.out hd1,hf.own HM.out hd2⟩
 have HP:Hid (P.head.length <= 6 /\ ∀ n,n ∈ P.head -> n < 6):=⟨h.ok.head6,h.ok.headlt⟩
 have HR5:Hid (W.ownsRow rbase 106 3 (.slice ra P.rels.length rcap) P.rels.length (relcells P.rels rvs)):=r5
 have hnrel:=h.ok.nrel
 have hwoW:=hC.wo
 have HNS:Hid (∀ k,k < P.rels.length -> namS P names k = (names.isEmpty || names.any fun s => (P.rels[k]?.getD (ByteArray.empty,0,[])).1.toList == s.toList)):=fun k _ => by unfold namS PlanD.rel;rw [List.getD_eq_getElem?_getD]
 have HW:Hid (w.setCell ⟨vb,0,none⟩ (.int .i32 1) = W):=hW
 have HWS:Hid (W.heap.size = w.heap.size):=hWs
 have HALL:Hid _:=hall
 obtain ⟨va,vc,hve,hrd⟩:=hS
 have HSR:Hid (SReads W (.slice va names.length vc) names):=⟨va,vc,rfl,hrd⟩
 subst hve
 have HRD:Hid _:=hrd
 have lvW:vb < W.heap.size:=by rw [hWs];exact lv
 clear h hb hv hC hW hWs hall hrd hd1 hd2 r5 r7 hw0
 go_enter_defers Tryz.func18,Tryz.ntmps18
 go_wp2_with (go_at_call 39;refine (lock_free Tryz.muLib ⟨vb,0,none⟩ _ h0 f0).mono ?_;rintro e w' ⟨rfl,rfl⟩;rw [HW.out])
 go_loopw [7,21] (fun _ kv wr => ∃ k:Nat,k <= names.length /\ kv = .int .i64 k /\ Below W.heap.size W wr) (fun _ kv _ => names.length - (intOf kv).toNat)
 case atStart => exact ⟨0,Nat.zero_le _,rfl,Below.refl _ _⟩
 case round =>
  obtain ⟨k,hk,rfl,hbl⟩:=hrel
  have lvr:vb < wr.heap.size:=Nat.lt_of_lt_of_le lvW hbl.size
  have HBL:Hid _:=hbl
  by_cases hkm:k < names.length
  ·have bk:(k:Int) < (names.length:Int):=by omega
   obtain ⟨sg,so,rfl,q⟩:=HRD.out (by omega)
   have y0:=(fr_below hbl).cell (mps_none _) (q k (by omega))
   obtain ⟨r,hr⟩:=HALL.out k (by omega)
   have RN:=HRN.out wr k r (fr_below hbl) hr
   obtain ⟨NM,hNM⟩:∃ NM,names.getD k ByteArray.empty = NM:=⟨_,rfl⟩
   rw [hNM] at RN y0
   have brn:¬ ((r:Int) < 0):=by omega
   clear q hNM hbl hr
   go_wp2_with (go_at_call 44;refine RN.mono ?_;rintro e w2 ⟨rfl,hb2⟩)
   go_roundw
   case rel => exact ⟨k + 1,by omega,by go_num,HBL.out.trans (hb2.mono HBL.out.size)⟩
   case measure => simp [intOf];omega
  ·have bk:¬ (k:Int) < (names.length:Int):=by omega
   have hC0:=HCS.out.fr (fr_below hbl)
   have y4:=(fr_below hbl).cell (mps_none _) r4
   clear hbl HBL
   go_wp2_with fail
   go_loopw [8,9,38] (fun _ _ iv wx => ∃ j:Nat,j <= P.rels.length /\ iv = .int .i64 j /\ ClS W wx vb P rb ib wb R (namS P names) own j) (fun _ _ iv _ => P.rels.length - (intOf iv).toNat)
   case atStart => exact ⟨0,Nat.zero_le _,rfl,hC0⟩
   case round =>
    clear hC0 y4
    obtain ⟨j,hj,rfl,hC⟩:=hrel
    obtain ⟨w1,hw1⟩:∃ w1:World,w1 = wr:=⟨_,rfl⟩
    subst hw1
    have hU:Fr (OwB own) W w1:=by obtain ⟨_,_,q⟩:=hC;exact q.fr
    have HC:Hid _:=hC
    by_cases hjl:j < P.rels.length
    ·have bj:(j:Int) < (P.rels.length:Int):=by omega
     obtain ⟨lg,lcap',he⟩:=vown_some HR5.out (by omega)
     simp only [Value.slice.injEq,true_and] at he
     obtain ⟨rfl,rfl⟩:=he
     obtain ⟨x0,x1,x2⟩:=relcells_at P.rels rvs r6 j hjl
     have y0:=hU.cell HM.out ((HR5.out.cellAt (j * 3) (by omega)).trans x0)
     have y1:=hU.cell HM.out ((HR5.out.cellAt (j * 3 + 1) (by omega)).trans x1)
     have y2:=hU.cell HM.out ((HR5.out.cellAt (j * 3 + 2) (by omega)).trans x2)
     have hns:=HNS.out j hjl
     rw [List.getElem?_eq_getElem hjl,Option.getD_some] at hns
     obtain ⟨X0,hX0⟩:∃ X,P.rels[j].1 = X:=⟨_,rfl⟩
     obtain ⟨X1,hX1⟩:∃ X,P.rels[j].2.1 = X:=⟨_,rfl⟩
     obtain ⟨xa,xn,xc,hX2⟩:∃ xa xn xc,rvs[j]'(by omega) = .slice xa xn xc:=by
      obtain ⟨b',o1⟩:=HR7.out j hjl
      obtain ⟨xa,xc,e⟩:=vown_form o1
      rw [List.getD_eq_getElem?_getD,List.getElem?_eq_getElem (by omega),Option.getD_some] at e
      exact ⟨xa,_,xc,e⟩
     rw [hX0] at y0 hns
     rw [hX1] at y1
     rw [hX2] at y2
     have hFA:Fr (fun _ => False) w1 (w1.alloc (.cells #[.string X0,.int .i64 X1,.slice xa xn xc] 106)):=Fr.alloc _ _
     have hC1:=hC.fr hFA
     have HEM:=HEMP.out _ j hjl hC1
     have HNX:=HNO.out _ j hC1
     have hSR:=(HSR.out.fr hU HM.out).fr hFA (mps_none _)
     have CON:=fun (b:Bool) (hb:(names.any fun s => X0.toList == s.toList) = b) => containsS_any _ names X0 _ hSR hl hb
     clear x0 x1 x2 hX0 hX1 hX2 hC hC1 hSR hFA hU
     cases hne:((names.length:Int) == 0)
     ·have he:names.isEmpty = false:=by cases names with
       | nil => simp at hne
       | cons => rfl
      rw [he,Bool.false_or] at hns
      cases hs:(names.any fun s => X0.toList == s.toList)
      ·have CN:=CON false hs
       rw [hs] at hns
       have hN:=HNX hns
       clear CON HEM HNX hns hs
       go_wp2_with (go_at_call 51;refine CN.mono ?_;rintro e w2 ⟨rfl,hw2⟩;rw [hw2];clear hw2)
       go_roundw
       case rel => exact ⟨j + 1,by omega,by go_num,hN⟩
       case measure => simp [intOf];omega
      ·have CN:=CON true hs
       rw [hs] at hns
       have EM:=HEM hns
       clear CON HEM HNX hns hs
       go_wp2_with (first | (go_at_call 51;refine CN.mono ?_;rintro e w2 ⟨rfl,hw2⟩;rw [hw2];clear hw2) | (go_at_call 52;refine EM.mono ?_;rintro e w3 ⟨rfl,hC3⟩))
       go_roundw
       case rel => exact ⟨j + 1,by omega,by go_num,hC3⟩
       case measure => simp [intOf];omega
     ·have he:names.isEmpty = true:=by cases names with
       | nil => rfl
       | cons => simp at hne;omega
      rw [he,Bool.true_or] at hns
      have EM:=HEM hns
      clear CON HEM HNX hns
      go_wp2_with (go_at_call 52;refine EM.mono ?_;rintro e w3 ⟨rfl,hC3⟩)
      go_roundw
      case rel => exact ⟨j + 1,by omega,by go_num,hC3⟩
      case measure => simp [intOf];omega
    ·have bj:¬ (j:Int) < (P.rels.length:Int):=by omega
     have hjj:j = P.rels.length:=by omega
     have HCE:Hid (ClS W w1 vb P rb ib wb R (namS P names) own P.rels.length):=by rw [← hjj];exact hC
     have y10:=hU.cell HM.out hwoW
     obtain ⟨k1,k2⟩:=HHD.out w1 hU
     have hcw:CF 93 6 w1 wb (P.wor (cont P R)):=by obtain ⟨_,q,_⟩:=hC;exact q.cw
     have TELL:=tell_step vb 2 hdb P.head hdv wb (P.wor (cont P R)) w1.drew k1 k2 HP.out.1 HP.out.2 (hcw.block rfl) hfew
     have HCW:Hid (CF 93 6 w1 wb (P.wor (cont P R))):=hcw
     have lv1:vb < w1.heap.size:=Nat.lt_of_lt_of_le lvW hU.size
     have HB1:Hid (w.heap.size <= w1.heap.size):=by unfold Hid;rw [← HWS.out];exact hU.size
     clear hjj hC hU k1 k2 hcw HC
     go_wp2_with fail
     go_cut [10] from 56 to 66 (fun ov wx => ∃ va vc us l,ov = .slice va l.length vc /\ RNew 55 w1.heap.size wx (.slice va l.length vc) us l /\ l.Perm (rowsL (hvals P.head) (P.wor (cont P R)) (live 6 (P.wor (cont P R)))) /\ Hid (RiseL l) /\ Below w1.heap.size w1 wx)
     case first =>
      first | go_region_law (refine step_call rfl 41 #[.tmp 60,.tmp 64] #[86,94] rfl enter41 #[.map (some wb),.func (.func 42) #[.pointer (some ⟨vb,2,none⟩)] #[]] (by kernel_rfl) _ TELL ?_;rintro v1 w2 ⟨us,l,r1,r2,r3,r4⟩;obtain ⟨va,vc,rfl⟩:=vown_form r1.2.1) | fail
      all_goals (go_wp2_with fail;go_meet)
      all_goals exact ⟨va,vc,us,l,rfl,r1,r2,r3,⟨r4.os,r4.tape,r4.output,r4.size,r4.block⟩⟩
     case rest =>
      obtain ⟨va2,vc2,us,l,rfl,r1,r2,r3,r4⟩:=hcut
      obtain ⟨w2,hw2⟩:∃ w2:World,w2 = wc:=⟨_,rfl⟩
      subst hw2
      have HR2:Hid _:=r2
      have HR3:Hid (RiseL l):=r3
      have hll:l.length <= 1000000:=by
       have:=r2.length_eq
       rw [rowsL,List.length_map] at this
       omega
      have r10:RNew 55 w1.heap.size w2 (.slice va2 l.length vc2) us (negK l 0):=by rw [negK_zero];exact r1
      clear TELL r1 r2 r3
      go_wp2_with fail
      go_loopw [11,68] (fun _ iv wx => ∃ i:Nat,i <= l.length /\ iv = .int .i64 i /\ RNew 55 w1.heap.size wx (.slice va2 l.length vc2) us (negK l i) /\ Below w1.heap.size w1 wx) (fun _ iv _ => l.length - (intOf iv).toNat)
      case atStart => exact ⟨0,Nat.zero_le _,rfl,r10,r4⟩
      case round =>
       clear r10 r4
       obtain ⟨i,hi,rfl,hRN,hb1⟩:=hrel
       obtain ⟨w3,hw3⟩:∃ w3:World,w3 = wr:=⟨_,rfl⟩
       subst hw3
       by_cases hil:i < l.length
       ·have bi:(i:Int) < (l.length:Int):=by omega
        obtain ⟨gg,cap',he⟩:=vown_some hRN.2.1 (by rw [negK_len];omega)
        simp only [Value.slice.injEq] at he
        obtain ⟨rfl,_,rfl⟩:=he
        have e1:=rcells_at us (negK l i) hRN.1 i (by rw [negK_len];exact hil)
        have hro:=hRN.2.1
        rw [negK_len] at hro
        have d2:w3.cell? ⟨gg,i * 2 + 1,none⟩ = some (.int .i64 (rAt (negK l i) i).2):=by rw [hro.cellAt (i * 2 + 1) (by omega)];exact e1.2
        have f2:w3.frozen? ⟨gg,i * 2 + 1,none⟩ = false:=hro.frozenAt _
        rw [negK_at l i hil] at d2
        have hRN':=RNew.setBy55 hRN (j:=i) (by rw [negK_len];exact hil) (IntKind.i64.wrap (-(rAt l i).2))
        rw [negK_at l i hil,negK_step l i hil] at hRN'
        have hgg:w1.heap.size <= gg:=(hro.lt gg rfl).1
        have hb1':Below w1.heap.size w1 (w3.setCell ⟨gg,i * 2 + 1,none⟩ (.int .i64 (IntKind.i64.wrap (-(rAt l i).2)))):=hb1.setCell (p:=⟨gg,i * 2 + 1,none⟩) hgg _
        have lgg:=World.block_lt_of_cell? _ _ d2
        obtain ⟨X,hX⟩:∃ X,(rAt l i).2 = X:=⟨_,rfl⟩
        rw [hX] at d2 hRN' hb1'
        rw [w64] at hRN' hb1'
        have HRN':Hid (RNew 55 w1.heap.size (w3.setCell ⟨gg,i * 2 + 1,none⟩ (.int .i64 (wrap64 (-X)))) (.slice (some ⟨gg,0,none⟩) l.length vc2) us (negK l (i + 1))):=hRN'
        have HB1':Hid _:=hb1'
        clear e1 hX hRN hRN' hb1' hb1 hro
        go_wp2_with fail
        go_roundw
        case rel => exact ⟨i + 1,by omega,by go_num,HRN'.out,HB1'.out⟩
        case measure => simp [intOf];omega
       ·have bi:¬ (i:Int) < (l.length:Int):=by omega
        have hii:i = l.length:=by omega
        rw [hii,negK_end] at hRN
        have hf3:=fr_below hb1
        have z10:=hf3.cell (mps_none _) y10
        obtain ⟨es,c3,hbw⟩:=(HCW.out.fr hf3 (fun h => h)).isMap
        have HRN3:Hid (RNew 55 w1.heap.size w3 (.slice va2 l.length vc2) us (l.map negR)):=hRN
        have HC3:Hid _:=HCE.out.fr hf3
        have hs3:=hb1.size
        clear hRN hb1 hf3 hii
        go_wp2_with (refine wpList_clear_map rfl (.tmp 86) 86 rfl 93 3 Tryz.underlying86 wb c3 es rfl hbw ?_;intro w4 hb4 hf4)
        obtain ⟨⟨m1,m2⟩,g4,m3,m4⟩:=HDONE.out w3 w4 c3 HC3.out hb4 hf4
        have hR4:=(RNew.frm HRN3.out hf4 (fun i _ e => ⟨es,c3,by rw [e];exact hbw⟩))
        go_wp2_with fail
        refine leaves_cons (f:=40) (args:=#[.pointer (some ⟨vb,0,none⟩)]) (by simp) (by simp [go_sem]) ?_
        refine (unlock_deferred Tryz.muLib ⟨vb,0,none⟩ .returning _ m1 m2).mono ?_
        rintro e u' w7 ⟨rfl,rfl,rfl⟩
        exact ⟨_,results_tmp2 rfl _ _ _,_,us,l,g4,rfl,(RNew.set hR4 (p:=⟨vb,0,none⟩) lv1 _).weak HB1.out,HR2.out,HR3.out,m3,m4⟩
end Go.Proofs.YtondkinefmjpjaaGreat
