import Derived.Test.YtondkinefmjpjaaGreatI34
import Derived.Test.YtondkinefmjpjaaGreatI54
import Derived.Test.YtondkinefmjpjaaGreatI60
import Derived.Test.YtondkinefmjpjaaGreatI61
set_option maxHeartbeats 16000000
set_option maxRecDepth 100000
namespace Go.Proofs.YtondkinefmjpjaaGreat
open Go.RowKit
theorem fix_two (rl:List RfD) (t:ByteArray):fixOf rl t = -1 ∨ ∃ r:Nat,r < rl.length /\ fixOf rl t = (r:Int):=by
 unfold fixOf
 split
 ·rename_i h;exact Or.inr ⟨_,h,rfl⟩
 ·exact Or.inl rfl
def RfR (B:Nat) (w:World) (rl:List RfD) (RR:Nat -> Rws) (name:ByteArray) (e:Ending) (w':World):Prop :=
 ∃ a n c code,e = .returned (.tuple #[.slice a n c,.int .i64 code]) /\ w' = w /\ ((fixOf rl name = -1 /\ code = 5 /\ Value.slice a n c = .slice none 0 0) ∨ (code = 0 /\ ∃ r:Nat,fixOf rl name = (r:Int) /\ r < rl.length /\ RReadB B w (.slice a n c) (RR r)))
theorem RefRelation_any {B:Nat} {w:World} {vb qb base rbase nv:Nat} {head:List Nat} {l:List K.AD} {rl:List RfD} {RR:Nat -> Rws} (h:RVS B w vb qb base rbase nv head l rl RR) (hnr:rl.length <= 4) (name:ByteArray) :
  Calls Tryz.prog 37 #[.pointer (some ⟨vb,0,none⟩),.string name] w (RfR B w rl RR name):=by
 obtain ⟨rv,r1,r2,r3⟩:=h.blk
 obtain ⟨ra,rcap,rfl⟩:=vown_form r2
 have c1:w.cell? ⟨vb,1,none⟩ = some (.slice ra rl.length rcap):=by simp [World.cell?,r1]
 have FND:=find_any vb rbase rl _ name w c1 r2 (by omega)
 rcases fix_two rl name with hI | ⟨r,hrl,hI⟩
 ·rw [hI] at FND
  have HI:Hid (fixOf rl name = -1):=hI
  clear h r1 r2 r3 hI
  go_enter Tryz.func37,Tryz.ntmps37
  go_wp2_with (go_at_call 63;refine FND.mono ?_;rintro e w' ⟨rfl,hw'⟩;rw [hw'];clear hw')
  go_ret2
  exact ⟨_,_,_,5,rfl,rfl,Or.inl ⟨HI.out,rfl,rfl⟩⟩
 ·rw [hI] at FND
  have HI:Hid (fixOf rl name = (r:Int)):=hI
  obtain ⟨rg,rcap',he⟩:=vown_some r2 (by omega)
  simp only [Value.slice.injEq,true_and] at he
  obtain ⟨rfl,rfl⟩:=he
  obtain ⟨z0,z1,z2⟩:=rfcells_at rl r hrl
  have d2:=(r2.cellAt (r * 3 + 2) (by omega)).trans z2
  have hgr:rl.getD r rf0 = rl[r]:=by rw [List.getD_eq_getElem?_getD,List.getElem?_eq_getElem hrl];rfl
  have hrows:=h.rows r hrl
  rw [hgr] at hrows
  obtain ⟨RV,hRV⟩:∃ RV,rl[r].2.2 = RV:=⟨_,rfl⟩
  rw [hRV] at d2 hrows
  have HROWS:Hid (RReadB B w RV (RR r)):=hrows
  obtain ⟨qa,qcap,rfl,_⟩:=hrows
  have brl:(r:Int) < (rl.length:Int):=by omega
  have brn:¬ ((r:Int) < 0):=by omega
  clear h r1 r2 r3 hI z0 z1 z2 hgr hRV
  go_enter Tryz.func37,Tryz.ntmps37
  go_wp2_with (go_at_call 63;refine FND.mono ?_;rintro e w' ⟨rfl,hw'⟩;rw [hw'];clear hw')
  go_ret2
  exact ⟨_,_,_,0,rfl,rfl,Or.inr ⟨rfl,r,HI.out,hrl,HROWS.out⟩⟩
def rtot (L:Rws) (xs:List Int):Int:=Sg L fun x => if begL x.1 xs = true then x.2 else 0
theorem rtot_take (L:Rws) (xs:List Int) (k:Nat) (hk:k < L.length):rtot (L.take (k + 1)) xs = rtot (L.take k) xs + if begL (rAt L k).1 xs = true then (rAt L k).2 else 0:=by
 unfold rtot
 rw [take_at L k hk,S_append,S_cons,S_nil,Int.add_zero]
def bgK (ys xs:List Int) (k:Nat):Bool:=decide (ys.take k = xs.take k)
theorem bgK_step {ys xs:List Int} {k:Nat} (h1:k < ys.length) (h2:k < xs.length):bgK ys xs (k + 1) = (bgK ys xs k && (ys.getD k 0 == xs.getD k 0)):=by
 unfold bgK
 have e1:ys.getD k 0 = ys[k]:=by rw [List.getD_eq_getElem?_getD,List.getElem?_eq_getElem h1];rfl
 have e2:xs.getD k 0 = xs[k]:=by rw [List.getD_eq_getElem?_getD,List.getElem?_eq_getElem h2];rfl
 rw [List.take_succ_eq_append_getElem h1,List.take_succ_eq_append_getElem h2,e1,e2,Bool.eq_iff_iff,Bool.and_eq_true,decide_eq_true_iff,decide_eq_true_iff,beq_iff_eq]
 constructor
 ·intro h
  have:=List.append_inj h (by simp;omega)
  exact ⟨this.1,by simpa using this.2⟩
 ·rintro ⟨h3,h4⟩;rw [h3,h4]
theorem bgK_end (ys xs:List Int):bgK ys xs xs.length = begL ys xs:=by
 unfold bgK begL;rw [List.take_length]
theorem RefTotal_any {B:Nat} {w:World} {vb qb base rbase nv:Nat} {head:List Nat} {l:List K.AD} {rl:List RfD} {RR:Nat -> Rws} (h:RVS B w vb qb base rbase nv head l rl RR) (hO:RefOk nv head l rl RR) {xv:Value} {xs:List Int} (hr:Reads w xv xs) (hx:xs.length <= head.length) :
  Calls Tryz.prog 36 #[.pointer (some ⟨vb,0,none⟩),xv] w fun e w' => e = .returned (.tuple #[.int .i64 (wr (rtot (refRows nv head l rl RR) xs)),.int .i64 0]) /\ Below w.heap.size w w':=by
 obtain ⟨rv,r1,r2,r3⟩:=h.blk
 obtain ⟨va,vcap,hv,av,q1,q2,q3⟩:=h.q
 obtain ⟨ha,hcap,rfl⟩:=vown_form q2
 have c0:w.cell? ⟨vb,0,none⟩ = some (.pointer (some ⟨qb,0,none⟩)):=by simp [World.cell?,r1]
 have c1:w.cell? ⟨qb,1,none⟩ = some (.slice ha head.length hcap):=by simp [World.cell?,q1]
 have RW:=RefRows_any h hO
 have hwid:=refRows_wid nv head l rl RR
 have hlen:=refRows_len hO
 have hh6:=hO.h6
 obtain ⟨L,hL⟩:∃ L,refRows nv head l rl RR = L:=⟨_,rfl⟩
 rw [hL] at RW hwid hlen ⊢
 have HWD:Hid (WidL head.length L):=hwid
 obtain ⟨xa,xc,rfl,hrd⟩:=hr
 have HRD:Hid (0 < xs.length -> ∃ g off,xa = some ⟨g,off,none⟩ /\ ∀ j,j < xs.length -> w.cell? ⟨g,off + j,none⟩ = some (.int .i64 (xs.getD j 0))):=hrd
 obtain ⟨T,hT⟩:∃ T,wr (rtot L xs) = T:=⟨_,rfl⟩
 have HT:Hid _:=hT
 rw [hT]
 have hng:¬ (head.length:Int) < (xs.length:Int):=by omega
 clear h hO r1 r2 r3 q1 q2 q3 hL hwid hrd hT
 go_enter Tryz.func36,Tryz.ntmps36
 go_wp2_with fail
 refine RW.mono ?_
 rintro e w1 ⟨la,ln,lc,rfl,hrl,hb1⟩
 obtain ⟨la',lc',hle,hld⟩:=hrl
 simp only [Value.slice.injEq] at hle
 obtain ⟨rfl,rfl,rfl⟩:=hle
 have HLD:Hid _:=hld
 clear hld RW
 go_wp2_with fail
 go_loopw [6,8,9,10] (fun nv iv _ _ wx => ∃ (i:Nat) (z:Int),i <= L.length /\ iv = .int .i64 i /\ nv = .int .i64 z /\ z = Go.Proofs.YtondkinefmjpjaaGreat.wr (rtot (L.take i) xs) /\ Below w1.heap.size w1 wx) (fun _ iv _ _ _ => L.length - (intOf iv).toNat)
 case atStart => exact ⟨0,0,Nat.zero_le _,rfl,rfl,rfl,Below.refl _ _⟩
 case round =>
  obtain ⟨i,z,hi,rfl,rfl,hz,hb⟩:=hrel
  have HZ:Hid (z = Go.Proofs.YtondkinefmjpjaaGreat.wr (rtot (L.take i) xs)):=hz
  have HB:Hid (Below w1.heap.size w1 wr):=hb
  clear hz
  obtain ⟨w2,hw2⟩:∃ w2:World,w2 = wr:=⟨_,rfl⟩
  subst hw2
  by_cases hlt:i < L.length
  ·have bi:(i:Int) < (L.length:Int):=by omega
   obtain ⟨g,off,rfl,_,q⟩:=HLD.out (by omega)
   obtain ⟨⟨u,e1,e2,_⟩,e3⟩:=q i hlt
   have HST:Hid _:=rtot_take L xs i hlt
   have hkw:=HWD.out (rAt L i) (by
    have e:rAt L i = L[i]:=by unfold rAt;rw [List.getD_eq_getElem?_getD,List.getElem?_eq_getElem hlt];rfl
    rw [e];exact List.getElem_mem hlt)
   obtain ⟨KV,KX,hKK⟩:∃ KV KX,rAt L i = (KV,KX):=⟨_,_,rfl⟩
   rw [hKK] at e3 HST e2 hkw
   simp only at hkw
   have HE1:Hid _:=e1
   have HE3:Hid _:=e3
   have HKV:Hid (KV.length = head.length):=hkw
   have HKD:Hid (Reads w1 u KV):=e2
   obtain ⟨ua,uc,rfl,hud⟩:=e2
   have HUD:Hid _:=hud
   have HEN:Hid _:=bgK_end KV xs
   clear q hKK hud e1 e3 hkw hb
   go_wp2_with fail
   go_loopw [9,10] (fun bv kv wx => ∃ k:Nat,k <= xs.length /\ kv = .int .i64 k /\ bv = .bool (bgK KV xs k) /\ Below w1.heap.size w1 wx) (fun _ kv _ => xs.length - (intOf kv).toNat)
   case atStart => exact ⟨0,Nat.zero_le _,rfl,by unfold bgK;simp,HB.out⟩
   case round =>
    obtain ⟨k,hk,rfl,rfl,hb⟩:=hrel
    have hfb:=Fr.of_below (M:=fun _ => False) hb
    have f1:=hfb.cell (mps_none _) HE1.out
    have f3:=hfb.cell (mps_none _) HE3.out
    by_cases hkl:k < xs.length
    ·have bk:(k:Int) < (xs.length:Int):=by omega
     have hkv:k < KV.length:=by rw [HKV.out];omega
     have bkv:(k:Int) < (KV.length:Int):=by omega
     obtain ⟨ug,uo,rfl,uq⟩:=HUD.out (by omega)
     obtain ⟨xg,xo,rfl,xq⟩:=HRD.out (by omega)
     have f4:=hfb.cell (mps_none _) (uq k hkv)
     have f5:=hfb.cell (mps_none _) ((hb1.cell (World.block_lt_of_cell? _ _ (xq k hkl))).trans (xq k hkl))
     have HSTP:Hid _:=bgK_step hkv hkl
     obtain ⟨X,hX⟩:∃ X,KV.getD k 0 = X:=⟨_,rfl⟩
     obtain ⟨Y,hY⟩:∃ Y,xs.getD k 0 = Y:=⟨_,rfl⟩
     rw [hX] at f4 HSTP
     rw [hY] at f5 HSTP
     obtain ⟨b0,hb0⟩:∃ b0,bgK KV xs k = b0:=⟨_,rfl⟩
     rw [hb0] at HSTP ⊢
     clear uq xq hX hY hb0 hfb
     cases b0
     ·have HN:Hid (bgK KV xs (k + 1) = false):=by rw [Hid,HSTP.out];rfl
      go_wp2_with fail
      go_region
      all_goals go_wp2_with fail
      all_goals go_roundw
      all_goals first
       | (simp [intOf];omega)
       | exact ⟨k + 1,by omega,by go_num,by rw [HN.out],hb.drew⟩
     ·have HN:Hid (bgK KV xs (k + 1) = (X == Y)):=by rw [Hid,HSTP.out];rfl
      go_wp2_with fail
      go_region
      all_goals go_wp2_with fail
      all_goals go_roundw
      all_goals first
       | (simp [intOf];omega)
       | exact ⟨k + 1,by omega,by go_num,by rw [HN.out],hb.drew⟩
    ·have bk:¬ (k:Int) < (xs.length:Int):=by omega
     have hkk:k = xs.length:=by omega
     rw [hkk,HEN.out]
     clear hkk hfb
     cases hbg:begL KV xs
     ·have HN:Hid (Go.Proofs.YtondkinefmjpjaaGreat.wr (rtot (L.take (i + 1)) xs) = z):=by
       rw [Hid,HST.out,HZ.out];simp only [hbg];exact wr_of (by simp)
      go_wp2_with fail
      go_roundw
      case rel => exact ⟨i + 1,z,by omega,by go_num,rfl,HN.out.symm,hb⟩
      case measure => simp [intOf];omega
     ·have HN:Hid (Go.Proofs.YtondkinefmjpjaaGreat.wr (rtot (L.take (i + 1)) xs) = wrap64 (z + KX)):=by
       rw [Hid,HST.out,← wr_w64,HZ.out,wr_add_l];simp only [hbg];exact wr_of (by simp)
      go_wp2_with fail
      go_roundw
      case rel => exact ⟨i + 1,_,by omega,by go_num,rfl,HN.out.symm,hb⟩
      case measure => simp [intOf];omega
  ·have bi:¬ (i:Int) < (L.length:Int):=by omega
   have hii:i = L.length:=by omega
   have HZT:Hid (z = T):=by rw [Hid,HZ.out,hii,List.take_length];exact HT.out
   clear hii
   go_wp2_with fail
   go_ret2
   exact ⟨by rw [HZT.out];rfl,hb1.trans (hb.mono hb1.size)⟩
structure SameN (rl rl':List RfD):Prop where
 len:rl'.length = rl.length
 fix:∀ t,fixOf rl' t = fixOf rl t
 nam:∀ q,q < rl.length -> (rl'.getD q rf0).1 = (rl.getD q rf0).1 /\ (rl'.getD q rf0).2.1 = (rl.getD q rf0).2.1
theorem SameN.refl (rl:List RfD):SameN rl rl:=⟨rfl,fun _ => rfl,fun _ _ => ⟨rfl,rfl⟩⟩
theorem SameN.put {rl rl':List RfD} (h:SameN rl rl') (r:Nat) (v:Value):SameN rl (putV rl' r v) :=
 ⟨by rw [putV_len];exact h.len,fun t => by rw [fix_put];exact h.fix t,fun q hq => by
  obtain ⟨p1,p2,_⟩:=putV_at rl' r v q (by rw [h.len];exact hq)
  obtain ⟨n1,n2⟩:=h.nam q hq
  exact ⟨p1.trans n1,p2.trans n2⟩⟩
theorem SameN.relR {l:List K.AD} {rl rl':List RfD} (h:SameN rl rl'):relR l rl' = relR l rl:=by funext i;unfold YtondkinefmjpjaaGreat.relR;rw [h.fix]
def namR (rl:List RfD) (names:List ByteArray) (q:Nat):Bool:=names.isEmpty || names.any fun s => s.toList == (rl.getD q rf0).1.toList
def clrRR (S:Nat -> Bool) (k:Nat) (RR:Nat -> Rws):Nat -> Rws:=fun q => if q < k /\ S q = true then [] else RR q
theorem clrRR_zero (S:Nat -> Bool) (RR:Nat -> Rws):clrRR S 0 RR = RR:=by funext q;simp [clrRR]
theorem clrRR_yes {S:Nat -> Bool} {k:Nat} (h:S k = true) (RR:Nat -> Rws):putRR (clrRR S k RR) k [] = clrRR S (k + 1) RR:=by
 funext q
 unfold putRR clrRR
 by_cases e:q = k
 ·subst e;simp [h]
 ·by_cases c:q < k
  ·simp [e,c,show q < k + 1 by omega]
  ·simp [e,c,show ¬ q < k + 1 by omega]
theorem clrRR_no {S:Nat -> Bool} {k:Nat} (h:S k = false) (RR:Nat -> Rws):clrRR S k RR = clrRR S (k + 1) RR:=by
 funext q
 unfold clrRR
 by_cases e:q = k
 ·subst e;simp [h]
 ·by_cases c:q < k
  ·simp [c,show q < k + 1 by omega]
  ·simp [c,show ¬ q < k + 1 by omega]
def nmK (names:List ByteArray) (nm:ByteArray) (k:Nat):Bool:=names.isEmpty || (names.take k).any fun s => s.toList == nm.toList
theorem nmK_step {names:List ByteArray} {nm:ByteArray} {k:Nat} (hk:k < names.length):nmK names nm (k + 1) = (nmK names nm k || ((names.getD k ByteArray.empty).toList == nm.toList)):=by
 have e:names.getD k ByteArray.empty = names[k]:=by rw [List.getD_eq_getElem?_getD,List.getElem?_eq_getElem hk];rfl
 unfold nmK
 rw [List.take_succ_eq_append_getElem hk,List.any_append,e,Bool.or_assoc]
 simp
def RCl (B:Nat) (w wx:World) (vb qb base rbase nv:Nat) (head:List Nat) (l:List K.AD) (rl:List RfD) (RR:Nat -> Rws) (S:Nat -> Bool) (rg cap k:Nat):Prop :=
 ∃ rl',SameN rl rl' /\ RVS B wx vb qb base rbase nv head l rl' (clrRR S k RR) /\ RefOk nv head l rl' (clrRR S k RR) /\ Fr (fun i => i = rg) w wx /\ wx.cell? ⟨vb,1,none⟩ = some (.slice (some ⟨rg,0,none⟩) rl.length cap)
theorem RCl.below {B:Nat} {w wx wy:World} {vb qb base rbase nv:Nat} {head:List Nat} {l:List K.AD} {rl:List RfD} {RR:Nat -> Rws} {S:Nat -> Bool} {rg cap k:Nat} (h:RCl B w wx vb qb base rbase nv head l rl RR S rg cap k) (hb:Below wx.heap.size wx wy):RCl B w wy vb qb base rbase nv head l rl RR S rg cap k:=by
 obtain ⟨rl',h1,h2,h3,h4,h5⟩:=h
 exact ⟨rl',h1,h2.below hb,h3,h4.trans (Fr.of_below (M:=fun i => i = rg) hb) (fun _ _ h => h),(hb.cell (World.block_lt_of_cell? _ _ h5)).trans h5⟩
theorem RCl.yes {B:Nat} {w wx:World} {vb qb base rbase nv:Nat} {head:List Nat} {l:List K.AD} {rl:List RfD} {RR:Nat -> Rws} {S:Nat -> Bool} {rg cap k:Nat} (h:RCl B w wx vb qb base rbase nv head l rl RR S rg cap k) (hk:k < rl.length) (hs:S k = true) :
  RCl B w (wx.setCell ⟨rg,k * 3 + 2,none⟩ (.slice none 0 0)) vb qb base rbase nv head l rl RR S rg cap (k + 1) /\ T140 B rbase wx (fun i => i = rg) /\ wx.frozen? ⟨rg,k * 3 + 2,none⟩ = false /\ ∃ x,wx.cell? ⟨rg,k * 3 + 2,none⟩ = some x:=by
 obtain ⟨rl',h1,h2,h3,h4,h5⟩:=h
 obtain ⟨p1,p2,p3,p4,p5⟩:=h2.put (r:=k) (by rw [h1.len];exact hk) (by rw [h1.len];exact h5) (RReadB.nil B wx)
 refine ⟨⟨putV rl' k (.slice none 0 0),h1.put _ _,?_,?_,h4.trans p2 (fun _ _ h => h),?_⟩,p3,p4,p5⟩
 ·rw [clrRR_yes hs] at p1;exact p1
 ·have:=h3.put (r:=k) (rows:=[]) (.slice none 0 0) (by simp) (fun _ _ _ _ h => by cases h)
  rw [clrRR_yes hs] at this;exact this
 ·obtain ⟨c,hc⟩:=(p3 rg rfl).2.2
  refine cell_of_block h5 (Below.heap_setCell _ _ _ _ (show vb ≠ rg from fun e => ?_))
  obtain ⟨rv,r1,_⟩:=h2.blk
  rw [e,hc] at r1;simp at r1
theorem RCl.no {B:Nat} {w wx:World} {vb qb base rbase nv:Nat} {head:List Nat} {l:List K.AD} {rl:List RfD} {RR:Nat -> Rws} {S:Nat -> Bool} {rg cap k:Nat} (h:RCl B w wx vb qb base rbase nv head l rl RR S rg cap k) (hs:S k = false):RCl B w wx vb qb base rbase nv head l rl RR S rg cap (k + 1):=by
 obtain ⟨rl',h1,h2,h3,h4,h5⟩:=h
 exact ⟨rl',h1,by rw [← clrRR_no hs];exact h2,by rw [← clrRR_no hs];exact h3,h4,h5⟩
theorem RCl.name {B:Nat} {w wx:World} {vb qb base rbase nv:Nat} {head:List Nat} {l:List K.AD} {rl:List RfD} {RR:Nat -> Rws} {S:Nat -> Bool} {rg cap k:Nat} (h:RCl B w wx vb qb base rbase nv head l rl RR S rg cap k) {q:Nat} (hq:q < rl.length):wx.cell? ⟨rg,q * 3,none⟩ = some (.string (rl.getD q rf0).1):=by
 obtain ⟨rl',h1,h2,_,_,h5⟩:=h
 obtain ⟨rv,r1,r2,_⟩:=h2.blk
 have e:rv = .slice (some ⟨rg,0,none⟩) rl.length cap:=by
  have:wx.cell? ⟨vb,1,none⟩ = some rv:=by simp [World.cell?,r1]
  rw [this] at h5;exact Option.some.inj h5
 subst e
 rw [h1.len] at r2
 have hq':q < rl'.length:=by rw [h1.len];exact hq
 have:=(r2.cellAt (q * 3) (by omega)).trans (rfcells_at rl' q hq').1
 rw [this]
 congr 1
 have h3:=(h1.nam q hq).1
 rw [List.getD_eq_getElem?_getD,List.getElem?_eq_getElem hq'] at h3
 exact congrArg Value.string h3
def RfC (B:Nat) (w:World) (vb qb base rbase nv:Nat) (head:List Nat) (l:List K.AD) (rl:List RfD) (RR:Nat -> Rws) (names:List ByteArray) (e:Ending) (w':World):Prop :=
 ∃ a n c code,e = .returned (.tuple #[.slice a n c,.int .i64 code]) /\ ((code = 5 /\ Value.slice a n c = .slice none 0 0 /\ Below w.heap.size w w' /\ ∃ j,j < names.length /\ fixOf rl (names.getD j ByteArray.empty) = -1) ∨ (code = 0 /\ (∀ j,j < names.length -> fixOf rl (names.getD j ByteArray.empty) ≠ -1) /\ ∃ (rl':List RfD) (M:Nat -> Prop),SameN rl rl' /\ RReadB B w' (.slice a n c) (chL (refRows nv head l rl RR) (refRows nv head l rl (clrRR (namR rl names) rl.length RR))) /\ RVS B w' vb qb base rbase nv head l rl' (clrRR (namR rl names) rl.length RR) /\ RefOk nv head l rl' (clrRR (namR rl names) rl.length RR) /\ Fr M w w' /\ T140 B rbase w M))
theorem RefClear_any {B:Nat} {w:World} {vb qb base rbase nv:Nat} {head:List Nat} {l:List K.AD} {rl:List RfD} {RR:Nat -> Rws} (h:RVS B w vb qb base rbase nv head l rl RR) (hO:RefOk nv head l rl RR) (hr1:1 <= rl.length) (names:List ByteArray) {v:Value} (hv:SReads w v names) (hub:UB B v) (hl:names.length <= 1000) :
  Calls Tryz.prog 38 #[.pointer (some ⟨vb,0,none⟩),v] w (RfC B w vb qb base rbase nv head l rl RR names):=by
 obtain ⟨rv,r1,r2,r3⟩:=h.blk
 obtain ⟨rg,rcap,rfl⟩:=vown_some r2 (by omega)
 have c1:w.cell? ⟨vb,1,none⟩ = some (.slice (some ⟨rg,0,none⟩) rl.length rcap):=by simp [World.cell?,r1]
 have hnr:=hO.nr
 have HBr:Hid (rg < B):=r3 rg rfl
 have HT:Hid (T140 B rbase w (fun i => i = rg)):=fun i hi => by
  rw [hi]
  refine ⟨r3 rg rfl,(r2.lt rg rfl).1,?_⟩
  rcases r2.2 with ⟨h,_⟩ | ⟨g,cap',cur,h,_,h2,_⟩
  ·cases h
  ·simp only [Value.slice.injEq,Option.some.injEq,Addr.mk.injEq,and_true,true_and] at h
   rw [h.1];exact ⟨_,h2⟩
 have HF:Hid (∀ (u:World) (t:ByteArray),Below w.heap.size w u -> Calls Tryz.prog 63 #[.pointer (some ⟨vb,0,none⟩),.string t] u fun x w' => x = .returned (.int .i64 (fixOf rl t)) /\ w' = u):=fun u t hu => find_any vb rbase rl _ t u ((hu.cell (World.block_lt_of_cell? _ _ c1)).trans c1) ((Fr.of_below (M:=fun _ => False) hu).own (mps_none _) r2) (by omega)
 have H:Hid (RVS B w vb qb base rbase nv head l rl RR):=h
 have HO:Hid (RefOk nv head l rl RR):=hO
 have HSR:Hid (SReads w v names):=hv
 have HUB:Hid (UB B v):=hub
 obtain ⟨va,vc,rfl,hrd⟩:=hv
 have HRD:Hid (0 < names.length -> ∃ g off,va = some ⟨g,off,none⟩ /\ ∀ j,j < names.length -> w.cell? ⟨g,off + j,none⟩ = some (.string (names.getD j ByteArray.empty))):=hrd
 clear h hO r1 r2 r3 hrd hub
 go_enter Tryz.func38,Tryz.ntmps38
 go_wp2_with fail
 go_loop [6] (fun kv => ∃ k:Nat,k <= names.length /\ kv = .int .i64 k /\ ∀ j,j < k -> fixOf rl (names.getD j ByteArray.empty) ≠ -1) (fun kv => names.length - (intOf kv).toNat)
 case atStart => exact ⟨0,Nat.zero_le _,rfl,fun j hj => absurd hj (Nat.not_lt_zero _)⟩
 case round =>
  obtain ⟨k,hk,rfl,hall⟩:=hrel
  have HALL:Hid (∀ j,j < k -> fixOf rl (names.getD j ByteArray.empty) ≠ -1):=hall
  clear hall
  by_cases hlt:k < names.length
  ·have bk:(k:Int) < (names.length:Int):=by omega
   obtain ⟨g,off,rfl,q⟩:=HRD.out (by omega)
   have e0:=q k hlt
   have FND:=HF.out w (names.getD k ByteArray.empty) (Below.refl _ _)
   have HBAD:Hid (fixOf rl (names.getD k ByteArray.empty) = -1 -> ∃ j,j < names.length /\ fixOf rl (names.getD j ByteArray.empty) = -1):=fun e => ⟨k,hlt,e⟩
   have HNXT:Hid (fixOf rl (names.getD k ByteArray.empty) ≠ -1 -> ∀ j,j < k + 1 -> fixOf rl (names.getD j ByteArray.empty) ≠ -1):=fun ho j hj => by
    by_cases e:j = k
    ·rw [e];exact ho
    ·exact HALL.out j (by omega)
   have hcs:=fix_cases rl (names.getD k ByteArray.empty)
   obtain ⟨NM,hNM⟩:∃ NM,names.getD k ByteArray.empty = NM:=⟨_,rfl⟩
   rw [hNM] at e0 FND HBAD HNXT hcs
   clear q hNM
   rcases hcs with hI | ⟨r,_,hI⟩
   ·rw [hI] at FND
    have hbad:=HBAD.out hI
    have HB2:Hid _:=hbad
    clear hI hbad
    go_wp2_with (go_at_call 63;refine FND.mono ?_;rintro e w' ⟨rfl,hw'⟩;rw [hw'];clear hw')
    go_ret2
    exact ⟨_,_,_,5,rfl,Or.inl ⟨rfl,rfl,Below.refl _ _,HB2.out⟩⟩
   ·rw [hI] at FND
    have HNX2:Hid _:=HNXT.out (by rw [hI];omega)
    have brn:¬ ((r:Int) < 0):=by omega
    clear hI
    go_wp2_with (go_at_call 63;refine FND.mono ?_;rintro e w' ⟨rfl,hw'⟩;rw [hw'];clear hw')
    go_round
    case rel => exact ⟨k + 1,by omega,by go_num,HNX2.out⟩
    case measure => simp [intOf];omega
  ·have bk:¬ (k:Int) < (names.length:Int):=by omega
   have HGOOD:Hid (∀ j,j < names.length -> fixOf rl (names.getD j ByteArray.empty) ≠ -1):=fun j hj => HALL.out j (by omega)
   have RW:=RefRows_any H.out HO.out
   clear HALL
   go_wp2_with fail
   refine RW.mono ?_
   rintro e w1 ⟨wa,wn,wc',rfl,hrw,hb1⟩
   have HRW:Hid (RReadB B w1 (.slice wa wn wc') (refRows nv head l rl RR)):=hrw
   have d1:=(hb1.cell (World.block_lt_of_cell? _ _ c1)).trans c1
   have hS0:RCl B w w1 vb qb base rbase nv head l rl RR (namR rl names) rg rcap 0:=⟨rl,SameN.refl rl,by rw [clrRR_zero];exact H.out.below hb1,by rw [clrRR_zero];exact HO.out,Fr.of_below hb1,d1⟩
   have HSR1:Hid (SReads w1 (.slice va names.length vc) names):=SReads.fr HSR.out (Fr.of_below (M:=fun _ => False) hb1) (mps_none _)
   have HWS:Hid (RReadB B w1 (.slice wa wn wc') (refRows nv head l rl RR)):=hrw
   clear hrw RW
   go_wp2_with fail
   go_loopw [8,9,10] (fun iv _ _ wx => ∃ i:Nat,i <= rl.length /\ iv = .int .i64 i /\ RCl B w wx vb qb base rbase nv head l rl RR (namR rl names) rg rcap i /\ RReadB B wx (.slice wa wn wc') (refRows nv head l rl RR) /\ Fr (fun i => i = rg) w1 wx) (fun iv _ _ _ => rl.length - (intOf iv).toNat)
   case atStart => exact ⟨0,Nat.zero_le _,rfl,hS0,HWS.out,Fr.refl _ _⟩
   case round =>
    clear hS0 d1 bk hk
    obtain ⟨i,hi,rfl,hS,hws,hf1⟩:=hrel
    obtain ⟨w2,hw2⟩:∃ w2:World,w2 = wr:=⟨_,rfl⟩
    subst hw2
    have HS:Hid (RCl B w w2 vb qb base rbase nv head l rl RR (namR rl names) rg rcap i):=hS
    have HWS2:Hid (RReadB B w2 (.slice wa wn wc') (refRows nv head l rl RR)):=hws
    have HF1:Hid (Fr (fun i => i = rg) w1 w2):=hf1
    have e1:w2.cell? ⟨vb,1,none⟩ = some (.slice (some ⟨rg,0,none⟩) rl.length rcap):=by obtain ⟨_,_,_,_,_,h5⟩:=hS;exact h5
    by_cases hil:i < rl.length
    ·have bi:(i:Int) < (rl.length:Int):=by omega
     have hnm:=hS.name hil
     have hS1:SReads w2 (.slice va names.length vc) names:=by
      obtain ⟨a',c',ea,hq⟩:=HSR1.out
      simp only [Value.slice.injEq,true_and] at ea
      obtain ⟨rfl,rfl⟩:=ea
      refine ⟨_,_,rfl,fun hl0 => ?_⟩
      obtain ⟨g,off,rfl,q⟩:=hq hl0
      refine ⟨g,off,rfl,fun j hj => cell_of_block (q j hj) (hf1.block g (World.block_lt_of_cell? _ _ (q j hj)) (fun e => ?_))⟩
      have h1:B <= g:=HUB.out ⟨g,off,none⟩ _ _ rfl hl0
      have h2:=HBr.out
      omega
     have hend:nmK names (rl.getD i rf0).1 names.length = namR rl names i:=by unfold nmK namR;rw [List.take_length]
     have HEND:Hid _:=hend
     obtain ⟨NM,hNM⟩:∃ NM,(rl.getD i rf0).1 = NM:=⟨_,rfl⟩
     rw [hNM] at hnm HEND
     have hemp:((names.length:Int) == 0) = nmK names NM 0:=by
      unfold nmK
      cases names with
      | nil => rfl
      | cons => simp;omega
     have lrg:=World.block_lt_of_cell? _ _ hnm
     obtain ⟨a',c',ea,hq⟩:=hS1
     simp only [Value.slice.injEq,true_and] at ea
     obtain ⟨rfl,rfl⟩:=ea
     have HQ:Hid _:=hq
     clear hS hws hf1 hend hNM hq
     go_wp2_with fail
     go_loopw [9,10] (fun bv kv wx => ∃ k:Nat,k <= names.length /\ kv = .int .i64 k /\ bv = .bool (nmK names NM k) /\ Below w2.heap.size w2 wx) (fun _ kv _ => names.length - (intOf kv).toNat)
     case atStart => exact ⟨0,Nat.zero_le _,rfl,rfl,Below.refl _ _⟩
     case round =>
      obtain ⟨k,hk,rfl,rfl,hb⟩:=hrel
      have hfb:=Fr.of_below (M:=fun _ => False) hb
      have f1:=hfb.cell (mps_none _) e1
      have f2:=hfb.cell (mps_none _) hnm
      by_cases hkl:k < names.length
      ·have bk:(k:Int) < (names.length:Int):=by omega
       obtain ⟨g,off,rfl,q⟩:=HQ.out (by omega)
       have f3:=hfb.cell (mps_none _) (q k hkl)
       have HSTP:Hid _:=nmK_step (nm:=NM) hkl
       obtain ⟨NK,hNK⟩:∃ NK,names.getD k ByteArray.empty = NK:=⟨_,rfl⟩
       rw [hNK] at f3 HSTP
       obtain ⟨b0,hb0⟩:∃ b0,nmK names NM k = b0:=⟨_,rfl⟩
       rw [hb0] at HSTP ⊢
       clear q hNK hb0 hfb hemp
       cases b0
       ·have HN:Hid (nmK names NM (k + 1) = (NK.toList == NM.toList)):=by rw [Hid,HSTP.out];rfl
        go_wp2_with fail
        go_region
        all_goals go_wp2_with fail
        all_goals go_roundw
        all_goals first
         | (simp [intOf];omega)
         | exact ⟨k + 1,by omega,by go_num,by rw [HN.out],hb.drew⟩
       ·have HN:Hid (nmK names NM (k + 1) = true):=by rw [Hid,HSTP.out];rfl
        go_wp2_with fail
        go_region
        all_goals go_wp2_with fail
        all_goals go_roundw
        all_goals first
         | (simp [intOf];omega)
         | exact ⟨k + 1,by omega,by go_num,by rw [HN.out],hb.drew⟩
      ·have bk:¬ (k:Int) < (names.length:Int):=by omega
       have hkk:k = names.length:=by omega
       rw [hkk,HEND.out]
       have hSx:=HS.out.below hb
       have hwx:=RReadB.below HWS2.out hb
       have hfx:Fr (fun i => i = rg) w1 wr:=HF1.out.trans (Fr.of_below (M:=fun i => i = rg) hb) (fun _ _ h => h)
       clear hkk hfb hemp
       cases hnr':namR rl names i
       ·have hN:=hSx.no hnr'
        have HN:Hid _:=hN
        clear hN hSx
        go_wp2_with fail
        go_roundw
        case rel => exact ⟨i + 1,by omega,by go_num,HN.out,hwx,hfx⟩
        case measure => simp [intOf];omega
       ·obtain ⟨p1,p2,p3,px,p4⟩:=hSx.yes hil hnr'
        have HN:Hid _:=p1
        have HW3:Hid _:=hwx.set (p:=⟨rg,i * 3 + 2,none⟩) HBr.out (.slice none 0 0)
        have HF3:Hid (Fr (fun i => i = rg) w1 (wr.setCell ⟨rg,i * 3 + 2,none⟩ (.slice none 0 0))):=hfx.trans (Fr.setCell (M:=fun i => i = rg) ⟨rg,i * 3 + 2,none⟩ _ (fun _ => rfl)) (fun _ _ h => h)
        have l4:=World.block_lt_of_cell? _ _ p4
        clear p1 p2 hSx hwx hfx
        go_wp2_with fail
        go_roundw
        case rel => exact ⟨i + 1,by omega,by go_num,HN.out,HW3.out,HF3.out⟩
        case measure => simp [intOf];omega
    ·have bi:¬ (i:Int) < (rl.length:Int):=by omega
     have hii:i = rl.length:=by omega
     rw [hii] at hS
     obtain ⟨rl',s1,s2,s3,s4,s5⟩:=hS
     have RW2:=RefRows_any s2 s3
     have hrr:refRows nv head l rl' (clrRR (namR rl names) rl.length RR) = refRows nv head l rl (clrRR (namR rl names) rl.length RR):=by unfold refRows;rw [s1.relR]
     have hl3:=refRows_len s3
     rw [hrr] at RW2 hl3
     have HS1:Hid (SameN rl rl'):=s1
     have HS2:Hid _:=s2
     have HS3:Hid (RefOk nv head l rl' (clrRR (namR rl names) rl.length RR)):=s3
     have HS4:Hid _:=s4
     have hsz:=s2.sz
     clear s1 s2 s3 s4 s5 hrr hii hws hf1
     go_wp2_with fail
     refine RW2.mono ?_
     rintro e w3 ⟨na,nn,nc,rfl,hrn,hb3⟩
     have CH:=change_ref B _ _ _ _ w3 (Nat.le_trans hsz hb3.size) (RReadB.below HWS2.out hb3) hrn head.length HO.out.h6 (refRows_wid _ _ _ _ _) (refRows_wid _ _ _ _ _) (by have:=refRows_len HO.out;omega) (by omega)
     go_wp2_with fail
     refine CH.mono ?_
     rintro e w4 ⟨ca,cn,cc,rfl,hrc,hb4⟩
     have b24:Below w2.heap.size w2 w4:=hb3.trans (hb4.mono hb3.size)
     go_wp2_with fail
     go_ret2
     exact ⟨ca,cn,cc,0,rfl,Or.inr ⟨rfl,HGOOD.out,rl',fun i => i = rg,HS1.out,hrc,RVS.below HS2.out b24,HS3.out,Fr.trans HS4.out (Fr.of_below (M:=fun i => i = rg) b24) (fun _ _ h => h),HT.out⟩⟩
end Go.Proofs.YtondkinefmjpjaaGreat
