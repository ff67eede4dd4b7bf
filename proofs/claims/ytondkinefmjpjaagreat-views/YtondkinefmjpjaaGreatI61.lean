import Derived.Test.YtondkinefmjpjaaGreatI60
set_option maxHeartbeats 16000000
set_option maxRecDepth 100000
namespace Go.Proofs.YtondkinefmjpjaaGreat
open Go.RowKit
def badN (x:Int):Bool:=decide (x < -99) || decide (99 < x)
def rowsBad (rows:Rws):Bool:=rows.any fun x => badN x.2
def rfCode (rl:List RfD) (RR:Nat -> Rws) (name:ByteArray) (y:Int) (xs:List Int):Int :=
 if fixOf rl name < 0 then 5 else if xs.length ≠ (rl.getD (fixOf rl name).toNat rf0).2.1 then 6 else if y < -9 ∨ 9 < y then 8 else if xs.all okV = false then 8 else if rowsBad (addL (RR (fixOf rl name).toNat) xs y) = true then 8 else if 12 < (addL (RR (fixOf rl name).toNat) xs y).length then 3 else 0
structure RefW (l:List K.AD) (rl:List RfD) (RR:Nat -> Rws):Prop where
 n3:∀ r,r < rl.length -> (rl.getD r rf0).2.1 <= 3
 wid:∀ r,r < rl.length -> WidL (rl.getD r rf0).2.1 (RR r)
 tn:∀ i,i < l.length -> (l.getD i ad0).ts.length = (rl.getD (relR l rl i) rf0).2.1
def RfU (B:Nat) (w:World) (vb qb base rbase nv:Nat) (head:List Nat) (l:List K.AD) (rl:List RfD) (RR:Nat -> Rws) (name:ByteArray) (y:Int) (xs:List Int) (e:Ending) (w':World):Prop :=
 ∃ a n c code,e = .returned (.tuple #[.slice a n c,.int .i64 code]) /\ code = rfCode rl RR name y xs /\ ((code ≠ 0 /\ Value.slice a n c = .slice none 0 0 /\ Below w.heap.size w w') ∨ (code = 0 /\ ∃ (r:Nat) (v:Value) (M:Nat -> Prop),fixOf rl name = (r:Int) /\ r < rl.length /\ RReadB B w' (.slice a n c) (chL (refRows nv head l rl RR) (refRows nv head l rl (putRR RR r (addL (RR r) xs y)))) /\ RVS B w' vb qb base rbase nv head l (putV rl r v) (putRR RR r (addL (RR r) xs y)) /\ RefOk nv head l (putV rl r v) (putRR RR r (addL (RR r) xs y)) /\ Fr M w w' /\ T140 B rbase w M))
theorem fix_cases (rl:List RfD) (t:ByteArray):fixOf rl t = -1 ∨ ∃ r:Nat,r < rl.length /\ fixOf rl t = (r:Int):=by
 unfold fixOf
 split
 ·rename_i h;exact Or.inr ⟨_,h,rfl⟩
 ·exact Or.inl rfl
theorem RefUpdate_any {B:Nat} {w:World} {vb qb base rbase nv:Nat} {head:List Nat} {l:List K.AD} {rl:List RfD} {RR:Nat -> Rws} (h:RVS B w vb qb base rbase nv head l rl RR) (hO:RefOk nv head l rl RR) (hW:RefW l rl RR) (name:ByteArray) (y:Int) {xv:Value} {xs:List Int} (hr:Reads w xv xs) :
  Calls Tryz.prog 34 #[.pointer (some ⟨vb,0,none⟩),.string name,.int .i64 y,xv] w (RfU B w vb qb base rbase nv head l rl RR name y xs):=by
 obtain ⟨rv,r1,r2,r3⟩:=h.blk
 obtain ⟨ra,rcap,rfl⟩:=vown_form r2
 have c1:w.cell? ⟨vb,1,none⟩ = some (.slice ra rl.length rcap):=by simp [World.cell?,r1]
 have hnr:=hO.nr
 have FND:=find_any vb rbase rl _ name w c1 r2 (by omega)
 have HR:Hid (Reads w xv xs):=hr
 obtain ⟨xa,xc,rfl,hrd⟩:=hr
 have HRD:Hid (0 < xs.length -> ∃ g off,xa = some ⟨g,off,none⟩ /\ ∀ j,j < xs.length -> w.cell? ⟨g,off + j,none⟩ = some (.int .i64 (xs.getD j 0))):=hrd
 obtain ⟨C,hC⟩:∃ C,rfCode rl RR name y xs = C:=⟨_,rfl⟩
 have HC:Hid (rfCode rl RR name y xs = C):=hC
 have lvb:=World.block_lt_of_cell? _ _ c1
 rcases fix_cases rl name with hI | ⟨r,hrl,hI⟩
 ·have hc5:C = 5:=by rw [← hC];unfold rfCode;rw [hI,if_pos (by omega)]
  rw [hI] at FND
  clear hC hrd h hO hW r1 r2 r3 hI
  go_enter Tryz.func34,Tryz.ntmps34
  go_wp2_with (go_at_call 63;refine FND.mono ?_;rintro e w' ⟨rfl,hw'⟩;rw [hw'];clear hw')
  go_ret2
  exact ⟨_,_,_,5,rfl,by rw [HC.out];exact hc5.symm,Or.inl ⟨by decide,rfl,Below.refl _ _⟩⟩
 ·rw [hI] at FND
  have hC2:=hC
  unfold rfCode at hC2
  rw [hI,if_neg (by omega),Int.toNat_natCast] at hC2
  obtain ⟨rg,rcap',he⟩:=vown_some r2 (by omega)
  simp only [Value.slice.injEq,true_and] at he
  obtain ⟨rfl,rfl⟩:=he
  obtain ⟨z0,z1,z2⟩:=rfcells_at rl r hrl
  have d1:=(r2.cellAt (r * 3 + 1) (by omega)).trans z1
  have d2:=(r2.cellAt (r * 3 + 2) (by omega)).trans z2
  have hgr:rl.getD r rf0 = rl[r]:=by rw [List.getD_eq_getElem?_getD,List.getElem?_eq_getElem hrl];rfl
  have hrows:=h.rows r hrl
  have hn3:=hW.n3 r hrl
  have hwd:=hW.wid r hrl
  rw [hgr] at hrows hn3 hwd hC2
  obtain ⟨N,hN⟩:∃ N,rl[r].2.1 = N:=⟨_,rfl⟩
  rw [hN] at d1 hn3 hwd hC2
  obtain ⟨RV,hRV⟩:∃ RV,rl[r].2.2 = RV:=⟨_,rfl⟩
  rw [hRV] at d2 hrows
  have HROWS:Hid (RReadB B w RV (RR r)):=hrows
  obtain ⟨qa,qcap,rfl,_⟩:=hrows
  have HWD:Hid (WidL N (RR r)):=hwd
  have H:Hid (RVS B w vb qb base rbase nv head l rl RR):=h
  have HO:Hid (RefOk nv head l rl RR):=hO
  have HTN:Hid (∀ i,i < l.length -> relR l rl i = r -> (l.getD i ad0).ts.length = N):=fun i hi e => by rw [hW.tn i hi,e,hgr,hN]
  have hfew:=hO.few r
  have HI:Hid (fixOf rl name = (r:Int)):=hI
  have brl:(r:Int) < (rl.length:Int):=by omega
  have brn:¬ ((r:Int) < 0):=by omega
  have lrg:=World.block_lt_of_cell? _ _ d2
  clear hrd h hO hW r1 r2 r3 hI z0 z1 z2 hgr hN hRV hwd hC
  by_cases hsh:xs.length = N
  ·have hshb:((xs.length:Int) != (N:Int)) = false:=by simp;omega
   rw [if_neg (by omega)] at hC2
   have hx3:xs.length <= 3:=by omega
   have HSH:Hid (xs.length = N):=hsh
   clear hsh
   by_cases hy1:y < -9
   ·have hc8:C = 8:=by rw [← hC2,if_pos (Or.inl hy1)]
    clear hC2
    go_enter Tryz.func34,Tryz.ntmps34
    go_wp2_with (go_at_call 63;refine FND.mono ?_;rintro e w' ⟨rfl,hw'⟩;rw [hw'];clear hw')
    go_ret2
    exact ⟨_,_,_,8,rfl,by rw [HC.out];exact hc8.symm,Or.inl ⟨by decide,rfl,Below.refl _ _⟩⟩
   ·by_cases hy2:9 < y
    ·have hc8:C = 8:=by rw [← hC2,if_pos (Or.inr hy2)]
     clear hC2
     go_enter Tryz.func34,Tryz.ntmps34
     go_wp2_with (go_at_call 63;refine FND.mono ?_;rintro e w' ⟨rfl,hw'⟩;rw [hw'];clear hw')
     go_ret2
     exact ⟨_,_,_,8,rfl,by rw [HC.out];exact hc8.symm,Or.inl ⟨by decide,rfl,Below.refl _ _⟩⟩
    ·rw [if_neg (by omega)] at hC2
     have HC2:Hid _:=hC2
     obtain ⟨i0,hi,hz0,hz1,hz2⟩:=info_parts Tryz.info3
     have HI3:Hid _:=hi
     have HZ0:Hid _:=hz0
     have HZ1:Hid _:=hz1
     have HZ2:Hid _:=hz2
     clear hC2 hi hz0 hz1 hz2
     go_enter Tryz.func34,Tryz.ntmps34
     go_wp2_with (go_at_call 63;refine FND.mono ?_;rintro e w' ⟨rfl,hw'⟩;rw [hw'];clear hw')
     go_loop [11] (fun kv => ∃ k:Nat,k <= xs.length /\ kv = .int .i64 k /\ ∀ j,j < k -> okV (xs.getD j 0) = true) (fun kv => xs.length - (intOf kv).toNat)
     case atStart => exact ⟨0,Nat.zero_le _,rfl,fun j hj => absurd hj (Nat.not_lt_zero _)⟩
     case round =>
      obtain ⟨k,hk,rfl,hall⟩:=hrel
      have HALL:Hid (∀ j,j < k -> okV (xs.getD j 0) = true):=hall
      clear hall
      by_cases hlt:k < xs.length
      ·have bk:(k:Int) < (xs.length:Int):=by omega
       obtain ⟨g,off,rfl,q⟩:=HRD.out (by omega)
       have e0:=q k hlt
       have HBAD:Hid (okV (xs.getD k 0) = false -> C = 8):=fun hb => by
        rw [← HC2.out,if_pos]
        rw [Bool.eq_false_iff]
        intro ha
        have:=List.all_eq_true.1 ha (xs.getD k 0) (by rw [List.getD_eq_getElem?_getD,List.getElem?_eq_getElem hlt];exact List.getElem_mem hlt)
        rw [hb] at this;cases this
       have HNXT:Hid (okV (xs.getD k 0) = true -> ∀ j,j < k + 1 -> okV (xs.getD j 0) = true):=fun ho j hj => by
        by_cases e:j = k
        ·rw [e];exact ho
        ·exact HALL.out j (by omega)
       obtain ⟨X,hX⟩:∃ X,xs.getD k 0 = X:=⟨_,rfl⟩
       rw [hX] at e0 HBAD HNXT
       clear q hX
       by_cases h1:X < 0
       ·have hc8:C = 8:=HBAD.out (by unfold okV;rw [decide_eq_false (by omega)];rfl)
        go_wp2_with fail
        go_ret2
        exact ⟨_,_,_,8,rfl,by rw [HC.out];exact hc8.symm,Or.inl ⟨by decide,rfl,Below.refl _ _⟩⟩
       ·by_cases h2:999 < X
        ·have hc8:C = 8:=HBAD.out (by unfold okV;rw [decide_eq_false (show ¬ X <= 999 by omega),Bool.and_false])
         go_wp2_with fail
         go_ret2
         exact ⟨_,_,_,8,rfl,by rw [HC.out];exact hc8.symm,Or.inl ⟨by decide,rfl,Below.refl _ _⟩⟩
        ·go_wp2_with fail
         go_round
         case rel => exact ⟨k + 1,by omega,by go_num,HNXT.out (by unfold okV;rw [decide_eq_true (show 0 <= X by omega),decide_eq_true (show X <= 999 by omega)];rfl)⟩
         case measure => simp [intOf];omega
      ·have bk:¬ (k:Int) < (xs.length:Int):=by omega
       have hvs:xs.all okV = true:=by
        rw [List.all_eq_true]
        intro x hx
        obtain ⟨j,hj,rfl⟩:=List.getElem_of_mem hx
        have:=HALL.out j (by omega)
        rw [List.getD_eq_getElem?_getD,List.getElem?_eq_getElem hj] at this
        exact this
       have hC3:=HC2.out
       rw [if_neg (by rw [hvs];simp)] at hC3
       have HC3:Hid _:=hC3
       clear hC3 hvs HC2 HALL
       go_wp2_with fail
       go_loopw [12,13] (fun cv kv wx => ∃ k:Nat,k <= xs.length /\ kv = .int .i64 k /\ wx.ownsRow w.heap.size 3 1 cv k (i64s (xs.take k)) /\ Below w.heap.size w wx) (fun _ kv _ => xs.length - (intOf kv).toNat)
       case atStart => exact ⟨0,Nat.zero_le _,rfl,World.ownsRow_nil _ _ _ _,Below.refl _ _⟩
       case round =>
        clear bk hk
        obtain ⟨k,hk,rfl,hrow,hb⟩:=hrel
        obtain ⟨sa,scap,hsv⟩:=vown_form hrow
        subst hsv
        have hws:w.heap.size <= wr.heap.size:=hb.size
        have hfb:=Fr.of_below (M:=fun _ => False) hb
        by_cases hlt:k < xs.length
        ·have bk:(k:Int) < (xs.length:Int):=by omega
         obtain ⟨g,off,rfl,q⟩:=HRD.out (by omega)
         have e0:=hfb.cell (mps_none _) (q k hlt)
         have HTK:Hid (i64s (xs.take (k + 1)) = i64s (xs.take k) ++ [.int .i64 (xs.getD k 0)]):=by
          unfold Hid i64s
          rw [List.take_succ_eq_append_getElem hlt,List.map_append,List.getD_eq_getElem?_getD,List.getElem?_eq_getElem hlt];rfl
         obtain ⟨X,hX⟩:∃ X,xs.getD k 0 = X:=⟨_,rfl⟩
         rw [hX] at e0 HTK
         clear q hX hfb
         go_wp2_with (at_builtin;refine wpList_append_own _ rfl (.tmp 63) (.tmp 68) 28 rfl w.heap.size 3 i0 (.int .i64 0) 1 8 Tryz.underlying28 HI3.out HZ0.out HZ1.out HZ2.out rfl (by decide) (.slice sa k scap) _ _ rfl (hrow.alloc _) ⟨wr.heap.size,0,none⟩ 1 1 [.int .i64 X] rfl rfl (one_cell _ _ _) (by intro u hu;simp at hu;subst hu;rfl) (by unfold maxLen;omega) (by omega) (by simp;omega) ?_;intro v6 w6 hown6 hgrow6 hx6;clear hx6;obtain ⟨sa6,scap6,rfl⟩:=vown_form hown6)
         have hb6:Below w.heap.size w w6:=(hb.alloc hws _).grown hgrow6 (by simp;omega) (fun k hk => (hrow.lt k hk).1)
         clear hgrow6
         go_roundw
         case rel => exact ⟨k + 1,by omega,by go_num,by rw [HTK.out];exact hown6,hb6⟩
         case measure => simp [intOf];omega
        ·have bk:¬ (k:Int) < (xs.length:Int):=by omega
         have hkk:k = xs.length:=by omega
         have hrv:Reads wr (.slice sa k scap) xs:=by
          rw [hkk,List.take_length] at hrow
          rw [hkk];exact own_reads hrow
         have hub:UB B (.slice sa k scap):=fun a n c e _ => by
          simp only [Value.slice.injEq] at e
          obtain ⟨rfl,_,_⟩:=e
          rcases hrow.2 with ⟨h,_⟩ | ⟨g,cap',cur,h,h1,_⟩
          ·cases h
          ·simp only [Value.slice.injEq,Option.some.injEq] at h
           rw [h.1];exact Nat.le_trans H.out.sz h1
         have ADD:=add_step B (.slice qa (RR r).length qcap) (.slice sa k scap) (RR r) xs y wr (Nat.le_trans H.out.sz hb.size) (HROWS.out.below hb) hrv hub N (by omega) HSH.out HWD.out (by omega)
         have e1:=hfb.cell (mps_none _) c1
         have e2:=hfb.cell (mps_none _) d2
         have HAW:Hid (WidL N (addL (RR r) xs y)):=addL_wid HWD.out HSH.out y
         have hal:=addL_len (RR r) xs y
         obtain ⟨AL,hAL⟩:∃ AL,addL (RR r) xs y = AL:=⟨_,rfl⟩
         have HAL:Hid _:=hAL
         rw [hAL] at HC3 ADD HAW hal
         clear hrow hrv hub hkk hfb hAL
         go_wp2_with fail
         refine ADD.mono ?_
         rintro e w2 ⟨_,rfl,ta,tn,tc,rfl,hrt,hb2⟩
         have HRT:Hid (RReadB B w2 (.slice ta tn tc) AL):=hrt
         have hB2:Below w.heap.size w w2:=hb.trans (hb2.mono hb.size)
         obtain ⟨ta',tc',hte,htd⟩:=hrt
         simp only [Value.slice.injEq] at hte
         obtain ⟨rfl,rfl,rfl⟩:=hte
         have HTD:Hid _:=htd
         clear htd hb2
         go_wp2_with fail
         go_loop [15] (fun kv => ∃ k:Nat,k <= AL.length /\ kv = .int .i64 k /\ ∀ j,j < k -> badN (rAt AL j).2 = false) (fun kv => AL.length - (intOf kv).toNat)
         case atStart => exact ⟨0,Nat.zero_le _,rfl,fun j hj => absurd hj (Nat.not_lt_zero _)⟩
         case round =>
          clear bk hk
          obtain ⟨k,hk,rfl,hall⟩:=hrel
          have HALL:Hid (∀ j,j < k -> badN (rAt AL j).2 = false):=hall
          clear hall
          by_cases hlt:k < AL.length
          ·have bk:(k:Int) < (AL.length:Int):=by omega
           obtain ⟨g,off,rfl,_,q⟩:=HTD.out (by omega)
           have e0:=(q k hlt).2
           have HBAD:Hid (badN (rAt AL k).2 = true -> C = 8):=fun hb => by
            rw [← HC3.out,if_pos]
            refine List.any_eq_true.2 ⟨rAt AL k,?_,hb⟩
            have e:rAt AL k = AL[k]:=by unfold rAt;rw [List.getD_eq_getElem?_getD,List.getElem?_eq_getElem hlt];rfl
            rw [e];exact List.getElem_mem hlt
           have HNXT:Hid (badN (rAt AL k).2 = false -> ∀ j,j < k + 1 -> badN (rAt AL j).2 = false):=fun ho j hj => by
            by_cases e:j = k
            ·rw [e];exact ho
            ·exact HALL.out j (by omega)
           obtain ⟨X,hX⟩:∃ X,(rAt AL k).2 = X:=⟨_,rfl⟩
           rw [hX] at e0 HBAD HNXT
           clear q hX
           by_cases h1:X < -99
           ·have hc8:C = 8:=HBAD.out (by unfold badN;rw [decide_eq_true h1];rfl)
            go_wp2_with fail
            go_ret2
            exact ⟨_,_,_,8,rfl,by rw [HC.out];exact hc8.symm,Or.inl ⟨by decide,rfl,hB2⟩⟩
           ·by_cases h2:99 < X
            ·have hc8:C = 8:=HBAD.out (by unfold badN;rw [decide_eq_true h2,Bool.or_true])
             go_wp2_with fail
             go_ret2
             exact ⟨_,_,_,8,rfl,by rw [HC.out];exact hc8.symm,Or.inl ⟨by decide,rfl,hB2⟩⟩
            ·go_wp2_with fail
             go_round
             case rel => exact ⟨k + 1,by omega,by go_num,HNXT.out (by unfold badN;rw [decide_eq_false h1,decide_eq_false h2];rfl)⟩
             case measure => simp [intOf];omega
          ·have bk:¬ (k:Int) < (AL.length:Int):=by omega
           have hgood:rowsBad AL = false:=by
            unfold rowsBad
            rw [List.any_eq_false]
            intro x hx
            obtain ⟨j,hj,rfl⟩:=List.getElem_of_mem hx
            have:=HALL.out j (by omega)
            have e:rAt AL j = AL[j]:=by unfold rAt;rw [List.getD_eq_getElem?_getD,List.getElem?_eq_getElem hj];rfl
            rw [e] at this
            rw [this];simp
           have hC4:=HC3.out
           rw [hgood,if_neg (by simp)] at hC4
           clear hgood HC3 HALL HTD
           by_cases h12:12 < AL.length
           ·have hc3:C = 3:=by rw [← hC4,if_pos h12]
            have h12':(12:Int) < (AL.length:Int):=by omega
            clear hC4
            go_wp2_with fail
            go_ret2
            exact ⟨_,_,_,3,rfl,by rw [HC.out];exact hc3.symm,Or.inl ⟨by decide,rfl,hB2⟩⟩
           ·have hc0:C = 0:=by rw [← hC4,if_neg h12]
            have h12':¬ (12:Int) < (AL.length:Int):=by omega
            have HC0:Hid (C = 0):=hc0
            have RW:=RefRows_any (H.out.below hB2) HO.out
            have f1:=(hB2.cell (World.block_lt_of_cell? _ _ c1)).trans c1
            clear hC4 hc0
            go_wp2_with fail
            refine RW.mono ?_
            rintro e w3 ⟨wa,wn,wc',rfl,hrw,hb3⟩
            have hB3:Below w.heap.size w w3:=hB2.trans (hb3.mono hB2.size)
            have g1:=(hb3.cell (World.block_lt_of_cell? _ _ f1)).trans f1
            obtain ⟨p1,p2,p3,p4,px,p5⟩:=(H.out.below hB3).put hrl g1 (HRT.out.below hb3)
            have HPO:=HO.out.put (r:=r) (rows:=AL) (.slice ta AL.length tc) (by omega) (fun i hi e => by rw [HTN.out i hi e];exact HAW.out)
            have HP1:Hid _:=p1
            have HP2:Hid _:=p2
            have HP3:Hid _:=p3
            have HRW:Hid (RReadB B w3 (.slice wa wn wc') (refRows nv head l rl RR)):=hrw
            have HB3:Hid (Below w.heap.size w w3):=hB3
            have l3:=World.block_lt_of_cell? _ _ p5
            clear p1 p2 p3 hrw hb3 hB3 RW
            go_upto_region 28 with fail
            have RW2:=RefRows_any HP1.out HPO
            rw [refRows_put] at RW2
            have hBr:rg < B:=(HP3.out rg rfl).1
            have HWS:Hid _:=RReadB.set HRW.out (p:=⟨rg,r * 3 + 2,none⟩) hBr (.slice ta AL.length tc)
            have HFR:Hid (Fr (fun i => i = rg) w (w3.setCell ⟨rg,r * 3 + 2,none⟩ (.slice ta AL.length tc))):=(Fr.of_below (M:=fun i => i = rg) HB3.out).trans HP2.out (fun _ _ h => h)
            have HT:Hid (T140 B rbase w (fun i => i = rg)):=fun i hi => by
             obtain ⟨q1,q0,c,q2⟩:=HP3.out i hi
             refine ⟨q1,q0,c,?_⟩
             rw [← HB3.out.block i (Nat.lt_of_lt_of_le q1 H.out.sz)];exact q2
            obtain ⟨w4,hw4⟩:∃ w4,w3.setCell ⟨rg,r * 3 + 2,none⟩ (.slice ta AL.length tc) = w4:=⟨_,rfl⟩
            rw [hw4] at RW2 HWS HFR HP1 ⊢
            clear hw4 HP2 HP3 HRW HB3 p4 p5 l3 g1 f1 e1 e2
            go_wp2_with fail
            refine RW2.mono ?_
            rintro e w5 ⟨na,nn,nc,rfl,hrn,hb5⟩
            have CH:=change_ref B _ _ _ _ w5 (Nat.le_trans HP1.out.sz hb5.size) (RReadB.below HWS.out hb5) hrn head.length HO.out.h6 (refRows_wid _ _ _ _ _) (refRows_wid _ _ _ _ _) (by have:=refRows_len HO.out;omega) (by
             have:=refRows_len HPO
             rw [refRows_put] at this
             omega)
            go_wp2_with fail
            refine CH.mono ?_
            rintro e w6 ⟨ca,cn,cc,rfl,hrc,hb6⟩
            have b46:Below w4.heap.size w4 w6:=hb5.trans (hb6.mono hb5.size)
            go_wp2_with fail
            go_ret2
            refine ⟨ca,cn,cc,0,rfl,by rw [HC.out];exact HC0.out.symm,Or.inr ⟨rfl,r,.slice ta AL.length tc,fun i => i = rg,HI.out,hrl,?_,?_,?_,HFR.out.trans (Fr.of_below (M:=fun i => i = rg) b46) (fun _ _ h => h),HT.out⟩⟩
            ·rw [HAL.out];exact hrc
            ·rw [HAL.out];exact RVS.below HP1.out b46
            ·rw [HAL.out];exact HPO
  ·have hshb:((xs.length:Int) != (N:Int)) = true:=by simp;omega
   have hc6:C = 6:=by rw [← hC2,if_pos hsh]
   clear hC2 hsh
   go_enter Tryz.func34,Tryz.ntmps34
   go_wp2_with (go_at_call 63;refine FND.mono ?_;rintro e w' ⟨rfl,hw'⟩;rw [hw'];clear hw')
   go_ret2
   exact ⟨_,_,_,6,rfl,by rw [HC.out];exact hc6.symm,Or.inl ⟨by decide,rfl,Below.refl _ _⟩⟩
end Go.Proofs.YtondkinefmjpjaaGreat
