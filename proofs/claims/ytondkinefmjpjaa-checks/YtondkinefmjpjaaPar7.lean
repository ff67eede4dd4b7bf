import Derived.Test.YtondkinefmjpjaaPar5
import Derived.Deep.QuietTactic
import Derived.BigQuiet
namespace Go.Proofs.Ytondkinefmjpjaa
open Go.RowKit

set_option maxHeartbeats 32000000 in
set_option maxRecDepth 100000 in
def cutC (s : ByteArray) (w : World) (hs : s.size ≤ maxLen) (h200 : ¬ 200 < s.size) : Cut2 (cutA s w hs h200).g2 := by
  refine' Cut2.mk _ _ ?pf
  case pf =>
    intro V1 V2
    intro HS u16 u17 u18 u19 u20 u21 u22 u23 u24 u25 u26 u27 u28 u29 u30 u31 u32 u33 u34 u35 u36 u37 u38 u39 u40 u101 u102 u103 u104 u105 u106 u107 u108 u109 u110 u111 u112 u113 u114 u115 u116 u117 u118 u119 u120 u121 u122 u123 u124 u125 u126 u127 u128 u129 u130 u131 u132 u133 u134 u135 u136 u137 u138 u139 u140 u141 u142 u143 u144 u145 u146 u147 u148 u149 u150 u151 u152 u153 u154 u155 u156 u157 u158 u159 u160 u161 u162 u163 u164 u165 u166 u167 u168 u169 u170 u171 u172 u173 u174 u175 u176 u177 u178 u179 u180 u181 u182 u183 u184 u185 u186 u187 u188 u189 u190 u191 u192 u193 u194 u195 u196 u197 u198 u199 u200 u201 u202 u203 u204 u205 u206 u207 u208 u209 u210 u211 u212 u213 u214 u215 u216 u217 u218 u219 u220 THH HTH0 i3 HI3 HX0 HX1 HX2 K a2 wc u6 u7 u8 u9 u10 u11 u41 u42 u43 u44 u45 u46 u47 u48 u49 u50 u51 u52 u53 u54 u55 u56 u57 u58 u59 u60 u61 u62 u63 u64 u65 u66 u67 u68 u69 u70 u71 u72 u73 u74 u75 u76 u77 u78 u79 u80 u81 u82 u83 u84 u85 u86 u87 u88 u89 u90 u91 u92 u93 u94 u95 u96 u97 u98 u99 u100 hcut
    unfold maxLen at hs
    obtain ⟨r, ns, ps, hI⟩ := hcut
    have HF : Hid (THH = (r, ns, ps)) := by have := hI.th; simpa [Hid] using this
    have P0 := hI.st.toP
    have hok := hI.ok
    have hnl := hI.len
    obtain ⟨na, ncap, hnv⟩ := own_form hI.st.nrow
    obtain ⟨pa, pcap, hpv⟩ := own_form hI.st.prow
    have hsame : Hid (ps.length = ns.length) := hI.same
    have hpl : ps.length ≤ 7 := by rw [hsame.out]; exact hnl
    obtain ⟨base, hbase⟩ : ∃ b, wc.heap.size = b := ⟨_, rfl⟩
    rw [hbase] at P0
    clear hbase hI
    subst hnv
    subst hpv
    go_wp2_with fail
    refine (must_any (w.heap.size + 1) s r _ 41 41 _ P0.rd rfl HS.out hok.1).mono ?_
    rintro e w3 ⟨rfl, hr3, hk3⟩
    have P3 := P0.kept hr3 hk3 (fun h => (must_good h).1)
    clear P0 hr3 hk3
    go_wp2_with fail
    refine (must_any (w.heap.size + 1) s _ _ 58 58 _ P3.rd rfl HS.out (hok.must 41).1).mono ?_
    rintro e w4 ⟨rfl, hr4, hk4⟩
    have P4 := P3.kept hr4 hk4 (fun h => (must_good h).1)
    have hok4 := (hok.must 41).must 58
    clear P3 hr4 hk4
    generalize hr4 : (r.must s 41).must s 58 = r4 at P4 hok4
    have HR4 : Hid ((r.must s 41).must s 58 = r4) := hr4
    clear hr4
    obtain ⟨TT, hTT⟩ : ∃ t, TA s = t := ⟨_, rfl⟩
    have HTT : Hid (TT = al s 5 (aStep s (r4, [], []))) := by unfold Hid; rw [← hTT, TA, HTH0.out, HF.out, ← HR4.out]
    have HTT0 : Hid (TA s = TT) := hTT
    clear hTT
    go_wp2_with fail
    refine (atom_any (w.heap.size + 1) w.heap.size base s r4 [] _ [] _ P4.ast (by simp) (by simp) P4.bs HS.out hok4).mono ?_
    rintro e w5 ⟨rfl, hap⟩
    obtain ⟨d, P5, hd⟩ := P4.atomed hap
    have hvl : (aT s r4 0 []).2.1.length ≤ 5 * (([] : List AD) ++ [d]).length := by
      have := tl_len s 5 (aR3 s r4 0) [] []; simpa [aT] using this
    have htt : TT = al s (6 - (([] : List AD) ++ [d]).length) (aFin s r4 [] [], (aT s r4 0 []).2.1, (([] : List AD) ++ [d]).map AD.pa) := by
      rw [HTT.out, aFin_eq]; simp [aStep, hd]
    have A5 := AInv.mk P5 (hok4.aFin [] []) (by simp) (by simp) (by simp) hvl htt
    clear hvl htt
    clear P4 hap P5 hd
    go_upto_block 4 with fail
    go_cut [] (fun wx => ∃ r vars l, AInv w wx w.heap.size base s TT r vars l ns ps (.slice na ns.length ncap) (.slice pa ps.length pcap) ∧ r.isB 44 = false)
    case first =>
      rename_i Q' K a2 J K' a1 a0
      clear a2 K HTT HR4 HTT0 HF HTH0
      revert HS u16 u17 u18 u19 u20 u21 u22 u23 u24 u25 u26 u27 u28 u29 u30 u31 u32 u33 u34 u35 u36 u37 u38 u39 u40 u101 u102 u103 u104 u105 u106 u107 u108 u109 u110 u111 u112 u113 u114 u115 u116 u117 u118 u119 u120 u121 u122 u123 u124 u125 u126 u127 u128 u129 u130 u131 u132 u133 u134 u135 u136 u137 u138 u139 u140 u141 u142 u143 u144 u145 u146 u147 u148 u149 u150 u151 u152 u153 u154 u155 u156 u157 u158 u159 u160 u161 u162 u163 u164 u165 u166 u167 u168 u169 u170 u171 u172 u173 u174 u175 u176 u177 u178 u179 u180 u181 u182 u183 u184 u185 u186 u187 u188 u189 u190 u191 u192 u193 u194 u195 u196 u197 u198 u199 u200 u201 u202 u203 u204 u205 u206 u207 u208 u209 u210 u211 u212 u213 u214 u215 u216 u217 u218 u219 u220 u8 u9 u10 u11 u41 u42 u43 u44 u45 u46 u47 u48 u49 u50 u51 u52 u53 u54 u55 u56 u57 u58 u59 u60 u61 u62 u63 u64 u65 u66 u67 u68 u69 u70 u71 u72 u73 u74 u75 u76 u77 u78 u79 u80 u81 u82 u83 u84 u85 u86 u87 u88 u89 u90 u91 u92 u93 u94 u95 u96 u97 u98 u99 u100 r ns ps hok hnl na ncap pa pcap hsame hpl base Q' r4 hok4 TT w5 d A5 J K' a1 a0
      exact V1.out
    case rest =>
      rename_i K a2
      clear HTT HR4 A5
      revert HS u16 u17 u18 u19 u20 u21 u22 u23 u24 u25 u26 u27 u28 u29 u30 u31 u32 u33 u34 u35 u36 u37 u38 u39 u40 u101 u102 u103 u104 u105 u106 u111 u112 u113 u114 u115 u116 u117 u118 u119 u120 u121 u122 u123 u124 u125 u126 u127 u128 u129 u130 u131 u132 u133 u134 u135 u136 u137 u138 u139 u140 u141 u142 u143 u144 u145 u146 u147 u148 u149 u150 u151 u152 u153 u154 u155 u156 u157 u158 u159 u160 u161 u162 u163 u164 u165 u166 u167 u168 u169 u170 u171 u172 u173 u174 u175 u176 u177 u178 u179 u180 u181 u182 u183 u184 u185 u186 u187 u188 u189 u190 u191 u192 u193 u194 u195 u196 u197 u198 u199 u200 u201 u202 u203 u204 u205 u206 u207 u208 u209 u210 u211 u212 u213 u214 u215 u216 u217 u218 u219 u220 THH HTH0 i3 HI3 HX0 HX1 HX2 u8 u9 u10 u11 u41 u42 u43 u44 u45 u46 u47 u48 u49 u50 u51 u52 u53 u54 u55 u56 u57 u58 u59 u60 u61 u62 u63 u64 u65 u66 u67 u68 u69 u70 u71 u72 u73 u74 u75 u76 u77 u78 u79 u80 u81 u82 u83 u84 u85 u86 u87 u88 u89 u90 u91 u92 u93 u94 u95 u96 u97 u98 u99 u100 r ns ps HF hok hnl na ncap pa pcap hsame hpl base TT HTT0 K a2 wc u107 u108 u109 u110 hcut
      exact V2.out

end Go.Proofs.Ytondkinefmjpjaa
