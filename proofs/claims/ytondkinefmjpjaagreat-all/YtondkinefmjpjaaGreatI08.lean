import Derived.Deep.QuietTactic
import Derived.BigQuiet
import Derived.Test.YtondkinefmjpjaaGreatI07
set_option maxHeartbeats 32000000
set_option maxRecDepth 100000
namespace Go.Proofs.YtondkinefmjpjaaGreat.K
open Go.RowKit
def cutE (s:ByteArray) (w:World) (hs:s.size <= maxLen) (h200:¬ 200 < s.size):Cut2 (cutC s w hs h200).g2:=by
 refine' Cut2.mk _ _ ?pf
 case pf =>
  intro V1 V2
  intro HS u16 u17 u18 u19 u20 u21 u22 u23 u24 u25 u26 u27 u28 u29 u30 u31 u32 u33 u34 u35 u36 u37 u38 u39 u40 u101 u102 u103 u104 u105 u106 u111 u112 u113 u114 u115 u116 u117 u118 u119 u120 u121 u122 u123 u124 u125 u126 u127 u128 u129 u130 u131 u132 u133 u134 u135 u136 u137 u138 u139 u140 u141 u142 u143 u144 u145 u146 u147 u148 u149 u150 u151 u152 u153 u154 u155 u156 u157 u158 u159 u160 u161 u162 u163 u164 u165 u166 u167 u168 u169 u170 u171 u172 u173 u174 u175 u176 u177 u178 u179 u180 u181 u182 u183 u184 u185 u186 u187 u188 u189 u190 u191 u192 u193 u194 u195 u196 u197 u198 u199 u200 u201 u202 u203 u204 u205 u206 u207 u208 u209 u210 u211 u212 u213 u214 u215 u216 u217 u218 u219 u220 THH HTH0 i3 HI3 HX0 HX1 HX2 u8 u9 u10 u11 u41 u42 u43 u44 u45 u46 u47 u48 u49 u50 u51 u52 u53 u54 u55 u56 u57 u58 u59 u60 u61 u62 u63 u64 u65 u66 u67 u68 u69 u70 u71 u72 u73 u74 u75 u76 u77 u78 u79 u80 u81 u82 u83 u84 u85 u86 u87 u88 u89 u90 u91 u92 u93 u94 u95 u96 u97 u98 u99 u100 r ns ps HF hok hnl na ncap pa pcap hsame hpl base TT HTT0 K a2 wc u107 u108 u109 u110 hcut
  unfold maxLen at hs
  obtain ⟨r6,vars6,l6,A6,hx6⟩:=hcut
  have HT6:Hid (TT = (r6,vars6,l6.map AD.pa)):=by
   have:=A6.tt
   have hl5:=A6.len
   rw [show 6 - l6.length = (5 - l6.length) + 1 by omega,al] at this
   rw [if_neg (by rw [hx6];decide)] at this
   exact this
  have hl5:=A6.len
  have ho6:=A6.one
  have hv6:=A6.vlen
  have hok6:=A6.ok
  have P6:=A6.st
  clear A6 hx6
  go_wp2_with fail
  refine (must_any (w.heap.size + 1) s r6 _ 46 46 _ P6.rd rfl HS.out hok6.1).mono ?_
  rintro e w7 ⟨rfl,hr7,hk7⟩
  have P7:=P6.kept hr7 hk7 (fun h => (must_good h).1)
  have hok7:=hok6.must 46
  clear P6 hr7 hk7
  generalize hr7:r6.must s 46 = r7 at P7 hok7
  have HR7:Hid (r6.must s 46 = r7):=hr7
  clear hr7
  have d5:=P7.rd.cell5
  have d2:=P7.rd.cell2
  go_upto_region 28 with fail
  go_cut [125] (fun c wx => c = .bool (decide (r7.bad = 0) && !(r7.g.k == 0)) /\ wx = w7)
  case first =>
   cases hb:((r7.bad:Int) == 0)
   ·have HB:Hid (decide (r7.bad = 0) = false):=decide_eq_false (by have:=beq_eq_false_iff_ne.1 hb;omega)
    go_wp2
    go_meet
    exact ⟨val_bool (by rw [HB.out];rfl),rfl⟩
   ·have HB:Hid (decide (r7.bad = 0) = true):=decide_eq_true (by have:=beq_iff_eq.1 hb;omega)
    go_wp2
    go_meet
    exact ⟨val_bool (by rw [HB.out,Bool.true_and];exact byte_ne r7.g.k 0),rfl⟩
  case rest =>
   obtain ⟨rfl,rfl⟩:=hcut
   obtain ⟨w7,hw7⟩:∃ w7:World,w7 = wc:=⟨_,rfl⟩
   subst hw7
   have HRE:Hid (rE s = if r7.bad = 0 /\ r7.g.k ≠ 0 then r7.fail 2 r7.g.a else r7):=by unfold Hid rE;rw [HTT0.out,HT6.out];simp only [HR7.out]
   have d4:=P7.rd.cell4
   go_upto_if 125 with fail
   go_cut [] (fun wx => PSt w wx w.heap.size base s (rE s) vars6 (.slice none 0 0) l6 ns ps (.slice na ns.length ncap) (.slice pa ps.length pcap))
   case first =>
    cases hb:(decide (r7.bad = 0) && !(r7.g.k == 0))
    ·have HE:Hid (rE s = r7):=by
      unfold Hid;rw [HRE.out,if_neg]
      intro hh;simp [hh.1,hh.2] at hb
     go_wp2
     go_meet
     rw [HE.out];exact P7
    ·have HE:Hid (rE s = r7.fail 2 r7.g.a):=by
      unfold Hid;rw [HRE.out,if_pos]
      simpa using hb
     go_wp2_with fail
     refine (fail_at (w.heap.size + 1) s r7 _ 2 2 r7.g.a _ P7.rd rfl).mono ?_
     rintro e w8 ⟨rfl,hr8,hk8⟩
     have P8:=P7.kept hr8 hk8 (fun h => (fail_good h (by decide)).elim)
     go_wp2
     go_meet
     rw [HE.out];exact P8
   case rest =>
    have P8:=hcut
    obtain ⟨w8,hw8⟩:∃ w8:World,w8 = wc:=⟨_,rfl⟩
    subst hw8
    clear hcut P7 d2 d4 d5
    generalize hr8:rE s = r8 at P8
    have HR8:Hid (rE s = r8):=hr8
    clear hr8
    obtain ⟨RN,hRN⟩:∃ t,rN s = t:=⟨_,rfl⟩
    have HRN:Hid (RN = nl vars6 ns ps r8):=by unfold Hid;rw [← hRN,rN,HTT0.out,HT6.out,HTH0.out,HF.out,HR8.out]
    have HRN0:Hid (rN s = RN):=hRN
    clear hRN
    obtain ⟨hb,hhb⟩:∃ b,w8.heap.size = b:=⟨_,rfl⟩
    have hbb:base <= hb:=by rw [← hhb];exact P8.bs
    have HHB:Hid (w8.heap.size = hb):=hhb
    clear hhb
    go_upto_block 6 with fail
    go_cut [12,13,14] (fun _ _ _ wx => ∃ hv' xs,PSt w wx w.heap.size base s RN vars6 hv' l6 ns ps (.slice na ns.length ncap) (.slice pa ps.length pcap) /\ wx.ownsRow hb 3 1 hv' xs.length xs /\ (RN.bad = 0 -> xs = ilist (ns.map (lix vars6))))
    case first =>
     rename_i K a2 J K' a1 a0
     clear a2 K HF HT6 HR7 HRE HR8 HRN0
     revert HS i3 HI3 HX0 HX1 HX2 u8 u9 u10 u11 ns ps hnl na ncap pa pcap hsame hpl base vars6 l6 hl5 ho6 hv6 u16 u17 u18 u19 u20 u21 u22 u23 u24 u25 u26 u27 u28 u29 u30 u31 u32 u33 u34 u35 u36 u37 u38 u39 u40 u41 u42 u43 u44 u45 u46 u47 u48 u49 u50 u51 u52 u53 u54 u55 u56 u57 u58 u59 u60 u61 u62 u63 u64 u65 u66 u67 u68 u69 u70 u71 u72 u73 u74 u75 u76 u77 u78 u79 u80 u81 u82 u83 u84 u85 u86 u87 u88 u89 u90 u91 u92 u93 u94 u95 u96 u97 u98 u99 u100 u101 u102 u103 u104 u105 u106 u107 u108 u109 u110 u111 u112 u113 u114 u115 u116 u117 u118 u119 u120 u121 u122 u123 u124 u125 u126 u127 u128 u129 u130 u131 u132 u133 u134 u135 u136 u137 u138 u139 u140 u141 u142 u143 u144 u145 u146 u147 u148 u149 u150 u151 u152 u153 u154 u155 u156 u157 u158 u159 u160 u161 u162 u163 u164 u165 u166 u167 u168 u169 u170 u171 u172 u173 u174 u175 u176 u177 u178 u179 u180 u181 u182 u183 u184 u185 u186 u187 u188 u189 u190 u191 u192 u193 u194 u195 u196 u197 u198 u199 u200 u201 u202 u203 u204 u205 u206 u207 u208 u209 u210 u211 u212 u213 u214 u215 u216 u217 u218 u219 u220 w8 r8 P8 RN HRN hb hbb HHB J K' a1 a0
     exact V1.out
    case rest =>
     rename_i K a2
     clear P8 HRN HR7 hok6 hok HHB
     revert HS u8 u9 u10 u11 THH HTH0 r ns ps HF hnl na ncap pa pcap hsame hpl base TT HTT0 r6 vars6 l6 HT6 hl5 ho6 hv6 u16 u17 u18 u19 u20 u21 u22 u23 u24 u25 u26 u27 u28 u29 u30 u31 u32 u33 u34 u35 u36 u37 u38 u39 u40 u41 u42 u43 u44 u45 u46 u47 u48 u49 u50 u51 u52 u53 u54 u55 u56 u57 u58 u59 u60 u61 u62 u63 u64 u65 u66 u67 u68 u69 u70 u71 u72 u73 u74 u75 u76 u77 u78 u79 u80 u81 u82 u83 u84 u85 u86 u87 u88 u89 u90 u91 u92 u93 u94 u95 u96 u97 u98 u99 u100 u101 u102 u103 u104 u105 u106 u107 u108 u109 u110 u111 u112 u113 u114 u115 u116 u117 u118 u119 u120 u121 u122 u123 u124 u125 u126 u127 u128 u129 u130 u131 u132 u198 u199 u200 u201 u202 u203 u204 u205 u206 u207 u208 u209 u210 u211 u212 u213 u214 u215 u216 u217 u218 u219 u220 RN HRN0 hb hbb K a2 wc u12 u13 u14 u133 u134 u135 u136 u137 u138 u139 u140 u141 u142 u143 u144 u145 u146 u147 u148 u149 u150 u151 u152 u153 u154 u155 u156 u157 u158 u159 u160 u161 u162 u163 u164 u165 u166 u167 u168 u169 u170 u171 u172 u173 u174 u175 u176 u177 u178 u179 u180 u181 u182 u183 u184 u185 u186 u187 u188 u189 u190 u191 u192 u193 u194 u195 u196 u197 hcut
     exact V2.out
theorem ilist_step (f:ByteArray -> Int) (ns:List ByteArray) (i:Nat) (h:i < ns.length):ilist ((ns.take (i + 1)).map f) = ilist ((ns.take i).map f) ++ [.int .i64 (f ns[i])]:=by
 rw [List.take_succ_eq_append_getElem h,List.map_append];unfold ilist;rw [List.map_append];rfl
theorem names_loop (s:ByteArray) (w:World) (hs:s.size <= maxLen) (h200:¬ 200 < s.size):(cutE s w hs h200).g1:=by
 intro HS i3 HI3 HX0 HX1 HX2 u8 u9 u10 u11 ns ps hnl na ncap pa pcap hsame hpl base vars6 l6 hl5 ho6 hv6 u16 u17 u18 u19 u20 u21 u22 u23 u24 u25 u26 u27 u28 u29 u30 u31 u32 u33 u34 u35 u36 u37 u38 u39 u40 u41 u42 u43 u44 u45 u46 u47 u48 u49 u50 u51 u52 u53 u54 u55 u56 u57 u58 u59 u60 u61 u62 u63 u64 u65 u66 u67 u68 u69 u70 u71 u72 u73 u74 u75 u76 u77 u78 u79 u80 u81 u82 u83 u84 u85 u86 u87 u88 u89 u90 u91 u92 u93 u94 u95 u96 u97 u98 u99 u100 u101 u102 u103 u104 u105 u106 u107 u108 u109 u110 u111 u112 u113 u114 u115 u116 u117 u118 u119 u120 u121 u122 u123 u124 u125 u126 u127 u128 u129 u130 u131 u132 u133 u134 u135 u136 u137 u138 u139 u140 u141 u142 u143 u144 u145 u146 u147 u148 u149 u150 u151 u152 u153 u154 u155 u156 u157 u158 u159 u160 u161 u162 u163 u164 u165 u166 u167 u168 u169 u170 u171 u172 u173 u174 u175 u176 u177 u178 u179 u180 u181 u182 u183 u184 u185 u186 u187 u188 u189 u190 u191 u192 u193 u194 u195 u196 u197 u198 u199 u200 u201 u202 u203 u204 u205 u206 u207 u208 u209 u210 u211 u212 u213 u214 u215 u216 u217 u218 u219 u220 w8 r8 P8 RN HRN hb hbb HHB J K' a1 a0
 unfold maxLen at hs
 go_wp2_with fail
 go_loopw [12,13,14] (fun iv _ _ wr => ∃ (i:Nat) (r':Est.Rd) (hv':Value) (xs:List Value),i <= ns.length /\ xs = ilist ((ns.take i).map (lix vars6)) /\ iv = .int .i64 i /\ PSt w wr w.heap.size base s r' vars6 hv' l6 ns ps (.slice na ns.length ncap) (.slice pa ps.length pcap) /\ wr.ownsRow hb 3 1 hv' xs.length xs /\ xs.length <= i /\ hb <= wr.heap.size /\ nl vars6 (ns.drop i) (ps.drop i) r' = RN) (fun iv _ _ _ => ns.length - (intOf iv).toNat)
 case atStart => exact ⟨0,r8,_,[],Nat.zero_le _,rfl,rfl,P8,World.ownsRow_nil _ _ _ _,Nat.le_refl _,by rw [HHB.out];exact Nat.le_refl _,HRN.out.symm⟩
 case round =>
  obtain ⟨i,r',hv',xs,hi,hxs,rfl,P,hrow,hxl,hbw,hnl'⟩:=hrel
  have HXS:Hid (xs = ilist ((ns.take i).map (lix vars6))):=hxs
  clear hxs
  have HNL:Hid (nl vars6 (ns.drop i) (ps.drop i) r' = RN):=hnl'
  clear hnl'
  have d5:=P.rd.cell5
  have d7:=P.rd.cell7
  by_cases hil:i < ns.length
  ·cases hbad:((r'.bad:Int) == 0)
   ·have HBAD:Hid (r'.bad ≠ 0):=by have:=beq_eq_false_iff_ne.1 hbad;unfold Hid;omega
    go_wp2_with fail
    go_meet
    rw [← HNL.out,nl_bad HBAD.out];exact ⟨_,_,P,hrow,fun h => absurd h HBAD.out⟩
   ·have HBAD:Hid (r'.bad = 0):=by have:=beq_iff_eq.1 hbad;unfold Hid;omega
    have hip:i < ps.length:=by rw [hsame.out];exact hil
    obtain ⟨pi,hpi⟩:∃ pi,ps[i] = pi:=⟨_,rfl⟩
    have HST:Hid (RN = if vars6.any (fun v => v.toList == ns[i].toList) then nl vars6 (ns.drop (i + 1)) (ps.drop (i + 1)) r' else r'.fail 5 pi):=by
     unfold Hid;rw [← HNL.out,nl_step HBAD.out hil hip,hpi]
    obtain ⟨ng,ncap',hne⟩:=own_some P.nrow (by omega)
    simp only [Value.slice.injEq,true_and] at hne
    obtain ⟨rfl,rfl⟩:=hne
    obtain ⟨pg,pcap',hpe⟩:=own_some P.prow (by omega)
    simp only [Value.slice.injEq,true_and] at hpe
    obtain ⟨rfl,rfl⟩:=hpe
    have nc:=P.nrow.cellAt i (by omega)
    simp only [strs,List.getElem?_map,List.getElem?_eq_getElem hil,Option.map_some] at nc
    have pc:=P.prow.cellAt i (by omega)
    simp only [ints,List.getElem?_map,List.getElem?_eq_getElem hip,Option.map_some] at pc
    rw [hpi] at pc
    clear hpi
    obtain ⟨av,hvst,_⟩:=P.ast.ex
    obtain ⟨vv,hq,hvr⟩:=hvst.q
    obtain ⟨va,vcap,rfl⟩:=own_form hvr
    have q0:wr.cell? ⟨w.heap.size,0,none⟩ = some (.slice va vars6.length vcap):=by simp [World.cell?,hq]
    obtain ⟨wi,hwi⟩:∃ wi:World,wi = wr:=⟨_,rfl⟩
    subst hwi
    have hv25:vars6.length <= 25:=by omega
    clear hvst hq
    go_upto_block 8 with fail
    go_cut [13,14] (fun nn _ wx => Keeps (fun _ _ => False) wi wx /\ ∃ m:Int,nn = .int .i64 m /\ m = lix vars6 ns[i])
    case first =>
     go_wp2_with fail
     go_loopw [13,14] (fun nn kv wx => ∃ k:Nat,k <= vars6.length /\ kv = .int .i64 k /\ Keeps (fun _ _ => False) wi wx /\ ∃ m:Int,nn = .int .i64 m /\ m = lixK vars6 ns[i] k) (fun _ kv _ => vars6.length - (intOf kv).toNat)
     case atStart => exact ⟨0,Nat.zero_le _,rfl,Keeps.refl _ _,-1,rfl,rfl⟩
     case round =>
      obtain ⟨k,hk,rfl,hK,m,rfl,hm⟩:=hrel
      have HM:Hid (m = lixK vars6 ns[i] k):=hm
      clear hm
      have e7:=(show wr.cell? ⟨w.heap.size + 1,7,none⟩ = _ from World.cell?_of_block (w:=wi) (hK.block (w.heap.size + 1) (World.block_lt_of_cell? _ _ d7) (fun x => x))).trans d7
      have e0:=(show wr.cell? ⟨w.heap.size,0,none⟩ = _ from World.cell?_of_block (w:=wi) (hK.block w.heap.size (World.block_lt_of_cell? _ _ q0) (fun x => x))).trans q0
      have en:=(show wr.cell? ⟨ng,i,none⟩ = _ from World.cell?_of_block (w:=wi) (hK.block ng (World.block_lt_of_cell? _ _ nc) (fun x => x))).trans nc
      by_cases hkl:k < vars6.length
      ·obtain ⟨vg,vcap',hve⟩:=own_some hvr (by omega)
       simp only [Value.slice.injEq,true_and] at hve
       obtain ⟨rfl,rfl⟩:=hve
       have vc:=hvr.cellAt k (by omega)
       simp only [strs,List.getElem?_map,List.getElem?_eq_getElem hkl,Option.map_some] at vc
       have ev:=(show wr.cell? ⟨vg,k,none⟩ = _ from World.cell?_of_block (w:=wi) (hK.block vg (World.block_lt_of_cell? _ _ vc) (fun x => x))).trans vc
       have HTK:Hid (lixK vars6 ns[i] (k + 1) = if vars6[k].toList == ns[i].toList then (k:Int) else lixK vars6 ns[i] k):=by unfold Hid;rw [lixK,dif_pos hkl]
       have b1:(k:Int) < (vars6.length:Int):=by omega
       have b2:(i:Int) < (ns.length:Int):=by omega
       cases hc:(vars6[k].toList == ns[i].toList)
       ·go_wp2_with fail
        go_quiet (fail)
        go_wp2
        go_roundw
        case rel =>
         refine ⟨k + 1,by omega,by go_num,?_,m,rfl,?_⟩
         ·exact ⟨hK.os,hK.tape,hK.output,hK.size,hK.block⟩
         ·rw [HTK.out,hc];exact HM.out
        case measure => simp [intOf];omega
       ·go_wp2_with fail
        go_quiet (fail)
        go_wp2
        go_roundw
        case rel =>
         refine ⟨k + 1,by omega,by go_num,?_,(k:Int),rfl,?_⟩
         ·exact ⟨hK.os,hK.tape,hK.output,hK.size,hK.block⟩
         ·rw [HTK.out,hc];rfl
        case measure => simp [intOf];omega
      ·go_wp2_with fail
       go_meet
       refine ⟨hK,m,rfl,?_⟩
       have hkk:k = vars6.length:=by omega
       rw [HM.out,hkk];rfl
    case rest =>
     obtain ⟨hK,m,rfl,hm0⟩:=hcut
     have HLX:Hid (m = lix vars6 ns[i]):=hm0
     have hm:decide (m < 0) = !(vars6.any (fun v => v.toList == ns[i].toList)):=by rw [hm0];have:=lixK_neg vars6 ns[i] vars6.length;rw [List.take_length] at this;exact this
     clear hm0
     have P1:PSt w wc w.heap.size base s r' vars6 hv' l6 ns ps (.slice (some ⟨ng,0,none⟩) ns.length ncap) (.slice (some ⟨pg,0,none⟩) ps.length pcap):=P.keeps hK (P.ast.keeps hK (fun x => x) (fun x => x) (fun _ _ _ x => x)) (fun _ _ x => x.elim) P.vs
     have hrow1:wc.ownsRow hb 3 1 hv' xs.length xs:=own_keeps hrow hK (fun _ _ _ _ _ x => x)
     have hbw1:hb <= wc.heap.size:=Nat.le_trans hbw hK.size
     have pc1:=(show wc.cell? ⟨pg,i,none⟩ = _ from World.cell?_of_block (w:=wi) (hK.block pg (World.block_lt_of_cell? _ _ pc) (fun x => x))).trans pc
     obtain ⟨w9,hw9⟩:∃ w9:World,w9 = wc:=⟨_,rfl⟩
     subst hw9
     clear hK P hrow hbw pc nc d7 q0 hvr d5 hbad
     obtain ⟨r10,hr10⟩:∃ r10,(if vars6.any (fun v => v.toList == ns[i].toList) then r' else r'.fail 5 pi) = r10:=⟨_,rfl⟩
     have HR10:Hid ((if vars6.any (fun v => v.toList == ns[i].toList) then r' else r'.fail 5 pi) = r10):=hr10
     clear hr10
     have HM0:Hid (decide (m < 0) = !(vars6.any (fun v => v.toList == ns[i].toList))):=hm
     clear hm
     go_upto_if 175 with fail
     go_cut [] (fun wx => PSt w wx w.heap.size base s r10 vars6 hv' l6 ns ps (.slice (some ⟨ng,0,none⟩) ns.length ncap) (.slice (some ⟨pg,0,none⟩) ps.length pcap) /\ wx.ownsRow hb 3 1 hv' xs.length xs /\ hb <= wx.heap.size)
     case first =>
      cases hmd:decide (m < 0)
      ·have HE:Hid (r10 = r'):=by
        have:=HM0.out
        rw [hmd] at this
        unfold Hid;rw [← HR10.out,if_pos (by simpa using this)]
       go_wp2
       go_meet
       rw [HE.out];exact ⟨P1,hrow1,hbw1⟩
      ·have HE:Hid (r10 = r'.fail 5 pi):=by
        have:=HM0.out
        rw [hmd] at this
        unfold Hid;rw [← HR10.out,if_neg (by simpa using this)]
       go_wp2_with fail
       refine (fail_at (w.heap.size + 1) s r' _ 5 5 pi _ P1.rd rfl).mono ?_
       rintro e w10 ⟨rfl,hr10,hk10⟩
       have P10:=P1.kept hr10 hk10 (fun h => (fail_good h (by decide)).elim)
       have hrow10:w10.ownsRow hb 3 1 hv' xs.length xs:=own_keeps hrow1 (Keeps.of (F:=fun j _ => j = w.heap.size + 1) hk10 (fun _ _ x => x)) (fun j hj _ _ _ e => by have e':j = w.heap.size + 1:=e;have:=P1.bb;omega)
       go_wp2
       go_meet
       rw [HE.out];exact ⟨P10,hrow10,Nat.le_trans hbw1 hk10.size⟩
     case rest =>
      obtain ⟨P2,hrow2,hbw2⟩:=hcut
      obtain ⟨w10,hw10⟩:∃ w10:World,w10 = wc:=⟨_,rfl⟩
      subst hw10
      clear P1 hrow1 hbw1 pc1
      have d7:=P2.rd.cell7
      obtain ⟨av,hvst,_⟩:=P2.ast.ex
      obtain ⟨vv,hq,_⟩:=hvst.q
      obtain ⟨ha,hcap,hhe⟩:=own_form hrow2
      subst hhe
      have q1:w10.cell? ⟨w.heap.size,1,none⟩ = some (.slice ha xs.length hcap):=by simp [World.cell?,hq]
      have l1:w.heap.size + 1 < w10.heap.size:=hvst.rd.lt
      have l2:w.heap.size < w10.heap.size:=lt_of_block hq
      clear hvst hq
      have HEND:Hid (nl vars6 (ns.drop (i + 1)) (ps.drop (i + 1)) r10 = RN):=by
       unfold Hid;rw [HST.out,← HR10.out]
       split
       ·rfl
       ·exact nl_bad (fail_ne (by decide))
      go_wp2_with fail
      go_region_law (refine step_append_own rfl (.tmp 192) (.tmp 194) 28 rfl hb 3 i3 (.int .i64 0) 1 8 Tryz.underlying28 HI3.out HX0.out HX1.out HX2.out rfl (by decide) (.slice ha xs.length hcap) _ _ rfl (by exact (hrow2.alloc _)) ⟨w10.heap.size,0,none⟩ 1 1 [.int .i64 m] rfl rfl (one_new _ _ _) (by intro u hu;simp at hu;subst hu;rfl) (by unfold maxLen;omega) (by omega) (by simp;omega) ?_;intro v11 w11 hown11 hgrow11;obtain ⟨va11,cap11,rfl⟩:=own_form hown11;have FH:=P2.headed hrow2 hbb (by exact ((Kept.refl (fun _ => False) w10).alloc _).drew) hgrow11 hown11;have z1:=FH.2.1;have z2:=FH.2.2.1;have z3:=FH.2.2.2;have z4:hb <= w11.heap.size:=Nat.le_trans hbw2 (Nat.le_trans (by simp) hgrow11.size);clear hown11 hgrow11)
      all_goals go_wp2
      all_goals go_roundw
      all_goals first
       | exact ⟨i + 1,r10,_,xs ++ [.int .i64 m],by omega,by rw [HXS.out,HLX.out,ilist_step _ _ _ hil],by go_num,FH.1.1,by simpa using FH.1.2,by simp;omega,by simpa [World.setCell] using z4,HEND.out⟩
       | (simp [intOf];omega)
  ·go_wp2_with fail
   go_meet
   have:=HNL.out
   rw [List.drop_of_length_le (by omega)] at this
   rw [← this]
   simp only [nl]
   refine ⟨_,_,P,hrow,fun _ => ?_⟩
   rw [HXS.out,List.take_of_length_le (by omega)]
theorem last_part (s:ByteArray) (w:World) (hs:s.size <= maxLen) (h200:¬ 200 < s.size):(cutE s w hs h200).g2:=by
 intro HS THH HTH0 u8 u9 u10 u11 r ns ps HF hnl na ncap pa pcap hsame hpl base TT HTT0 r6 vars6 l6 HT6 hl5 ho6 hv6 u16 u17 u18 u19 u20 u21 u22 u23 u24 u25 u26 u27 u28 u29 u30 u31 u32 u33 u34 u35 u36 u37 u38 u39 u40 u41 u42 u43 u44 u45 u46 u47 u48 u49 u50 u51 u52 u53 u54 u55 u56 u57 u58 u59 u60 u61 u62 u63 u64 u65 u66 u67 u68 u69 u70 u71 u72 u73 u74 u75 u76 u77 u78 u79 u80 u81 u82 u83 u84 u85 u86 u87 u88 u89 u90 u91 u92 u93 u94 u95 u96 u97 u98 u99 u100 u101 u102 u103 u104 u105 u106 u107 u108 u109 u110 u111 u112 u113 u114 u115 u116 u117 u118 u119 u120 u121 u122 u123 u124 u125 u126 u127 u128 u129 u130 u131 u132 u198 u199 u200 u201 u202 u203 u204 u205 u206 u207 u208 u209 u210 u211 u212 u213 u214 u215 u216 u217 u218 u219 u220 RN HRN0 hb hbb K a2 wc u12 u13 u14 u133 u134 u135 u136 u137 u138 u139 u140 u141 u142 u143 u144 u145 u146 u147 u148 u149 u150 u151 u152 u153 u154 u155 u156 u157 u158 u159 u160 u161 u162 u163 u164 u165 u166 u167 u168 u169 u170 u171 u172 u173 u174 u175 u176 u177 u178 u179 u180 u181 u182 u183 u184 u185 u186 u187 u188 u189 u190 u191 u192 u193 u194 u195 u196 u197 hcut
 unfold maxLen at hs
 obtain ⟨hv',xs,P,hrow,hxs⟩:=hcut
 obtain ⟨w12,hw12⟩:∃ w12:World,w12 = wc:=⟨_,rfl⟩
 subst hw12
 have d5:=P.rd.cell5
 have d6:=P.rd.cell6
 have d7:=P.rd.cell7
 cases hbad:((RN.bad:Int) == 0)
 ·have HBAD:Hid (RN.bad ≠ 0):=by have:=beq_eq_false_iff_ne.1 hbad;unfold Hid;omega
  have hne:((RN.bad:Int) != 0) = true:=by rw [bne_iff_ne];have:=HBAD.out;omega
  have HE:Hid (refE s = (RN.bad:Int)):=by unfold Hid refE;rw [if_neg h200,HRN0.out,if_pos HBAD.out]
  have HP:Hid (refP s = (RN.bat:Int)):=by unfold Hid refP;rw [if_neg h200,HRN0.out,if_pos HBAD.out]
  clear hbad
  go_wp2_with fail
  go_quiet (fail)
  go_wp2
  go_ret3
  refine ⟨⟨.pointer none,?_,fun h => by rw [HE.out] at h;exact absurd h (by have:=HBAD.out;omega)⟩,?_⟩
  ·rw [HE.out,HP.out];rfl
  exact ⟨P.below.os,P.below.tape,P.below.output,P.below.size,P.below.block⟩
 ·have HBAD:Hid (RN.bad = 0):=by have:=beq_iff_eq.1 hbad;unfold Hid;omega
  have hne:((RN.bad:Int) != 0) = false:=by rw [bne_eq_false_iff_eq];have:=HBAD.out;omega
  have HP:Hid (refP s = 0):=by unfold Hid refP;rw [if_neg h200,HRN0.out,if_neg (by simp [HBAD.out])]
  have HE:Hid (refE s = if cyc vars6.length l6 (l6.length - 1) (List.replicate l6.length true) then 7 else 0):=by
   unfold Hid refE;rw [if_neg h200,HRN0.out,if_neg (by simp [HBAD.out]),HTT0.out,HT6.out,cycP_eq];simp
  have hqst:QSt w12 w.heap.size base vars6.length l6:=by
   obtain ⟨av,hvst,har⟩:=P.ast.ex
   obtain ⟨vv,hq,hvr⟩:=hvst.q
   obtain ⟨va,vcap,rfl⟩:=own_form hvr
   exact ⟨⟨va,vcap,hv',av,hq,har⟩,P.ast.ts,P.vs HBAD.out⟩
  have HQ:Hid (QSt w12 w.heap.size base vars6.length l6):=hqst
  have hrq:∀ w13,Below w12.heap.size w12 w13 -> RQ s w13 (.pointer (some ⟨w.heap.size,0,none⟩)):=by
   intro w13 hb13
   obtain ⟨av,hvst,har⟩:=P.ast.ex
   obtain ⟨vv,hq,hvr⟩:=hvst.q
   obtain ⟨va,vcap,rfl⟩:=own_form hvr
   have e1:(TA s).2.1 = vars6:=by rw [HTT0.out,HT6.out]
   have e2:(TA s).2.2 = l6.map AD.pa:=by rw [HTT0.out,HT6.out]
   have e3:(TH s).2.1 = ns:=by rw [HTH0.out,HF.out]
   have hr2:=own_base (own_below hrow hb13) hbb
   rw [hxs HBAD.out] at hr2
   unfold RQ
   rw [e1,e2,e3]
   refine ⟨w.heap.size,base,l6,va,vcap,hv',av,rfl,HQ.out.below hb13,by omega,(hb13.block _ (lt_of_block hq)).trans hq,?_,own_below har hb13,rfl⟩
   rw [show (ilist (ns.map (lix vars6))).length = ns.length by simp [ilist]] at hr2
   exact hr2
  have HRQ:Hid (∀ w13,Below w12.heap.size w12 w13 -> RQ s w13 (.pointer (some ⟨w.heap.size,0,none⟩))):=hrq
  clear hrq
  have hbel:=P.below
  clear P hbad hrow hxs
  go_wp2_with fail
  refine (Cyclic_any w.heap.size base vars6.length l6 _ hqst (by omega) (by omega)).mono ?_
  rintro e w13 ⟨rfl,hb13⟩
  have hb0:Below w.heap.size w w13:=hbel.trans (hb13.mono hbel.size)
  have d7':=(hb13.cell (p:=⟨w.heap.size + 1,7,none⟩) (World.block_lt_of_cell? _ _ d7)).trans d7
  cases hc:cyc vars6.length l6 (l6.length - 1) (List.replicate l6.length true)
  ·have HE0:Hid (refE s = 0):=by unfold Hid;rw [HE.out,hc];rfl
   go_wp2_with fail
   go_ret3
   refine ⟨⟨.pointer (some ⟨w.heap.size,0,none⟩),?_,fun _ => HRQ.out _ hb13⟩,hb0⟩
   rw [HE0.out,HP.out];rfl
  ·have HE7:Hid (refE s = 7):=by unfold Hid;rw [HE.out,hc];rfl
   go_wp2_with fail
   go_ret3
   refine ⟨⟨.pointer none,?_,fun h => by rw [HE7.out] at h;cases h⟩,hb0⟩
   rw [HE7.out,HP.out];rfl
theorem Parse_any (s:ByteArray) (w:World) (hs:s.size <= maxLen) :
  Calls Tryz.prog 62 #[.string s] w fun x w' => (∃ q,x = .returned (.tuple #[q,.int .i64 (refE s),.int .i64 (refP s)]) /\ (refE s = 0 -> RQ s w' q)) /\ Below w.heap.size w w':=by
 by_cases h200:200 < s.size
 ·go_enter Tryz.func62,Tryz.ntmps62
  go_wp2_with fail
  go_ret3
  refine ⟨⟨.pointer none,?_,fun h => by rw [show refE s = 1 from by unfold refE;rw [if_pos h200]] at h;cases h⟩,Below.refl _ _⟩
  rw [show refE s = 1 from by unfold refE;rw [if_pos h200],show refP s = 0 from by unfold refP;rw [if_pos h200]]
  rfl
 ·exact (cutA s w hs h200).pf ⟨head_loop s w hs h200⟩ ⟨(cutC s w hs h200).pf ⟨atoms_loop s w hs h200⟩ ⟨(cutE s w hs h200).pf ⟨names_loop s w hs h200⟩ ⟨last_part s w hs h200⟩⟩⟩
end Go.Proofs.YtondkinefmjpjaaGreat.K
