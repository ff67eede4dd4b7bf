import Derived.Test.YtondkinefmjpjaaPar7
import Derived.Deep.QuietTactic
import Derived.BigQuiet
namespace Go.Proofs.Ytondkinefmjpjaa
open Go.RowKit

set_option maxHeartbeats 32000000 in
set_option maxRecDepth 100000 in
def cutE (s : ByteArray) (w : World) (hs : s.size ≤ maxLen) (h200 : ¬ 200 < s.size) : Cut2 (cutC s w hs h200).g2 := by
  refine' Cut2.mk _ _ ?pf
  case pf =>
    intro V1 V2
    intro HS u16 u17 u18 u19 u20 u21 u22 u23 u24 u25 u26 u27 u28 u29 u30 u31 u32 u33 u34 u35 u36 u37 u38 u39 u40 u101 u102 u103 u104 u105 u106 u111 u112 u113 u114 u115 u116 u117 u118 u119 u120 u121 u122 u123 u124 u125 u126 u127 u128 u129 u130 u131 u132 u133 u134 u135 u136 u137 u138 u139 u140 u141 u142 u143 u144 u145 u146 u147 u148 u149 u150 u151 u152 u153 u154 u155 u156 u157 u158 u159 u160 u161 u162 u163 u164 u165 u166 u167 u168 u169 u170 u171 u172 u173 u174 u175 u176 u177 u178 u179 u180 u181 u182 u183 u184 u185 u186 u187 u188 u189 u190 u191 u192 u193 u194 u195 u196 u197 u198 u199 u200 u201 u202 u203 u204 u205 u206 u207 u208 u209 u210 u211 u212 u213 u214 u215 u216 u217 u218 u219 u220 THH HTH0 i3 HI3 HX0 HX1 HX2 u8 u9 u10 u11 u41 u42 u43 u44 u45 u46 u47 u48 u49 u50 u51 u52 u53 u54 u55 u56 u57 u58 u59 u60 u61 u62 u63 u64 u65 u66 u67 u68 u69 u70 u71 u72 u73 u74 u75 u76 u77 u78 u79 u80 u81 u82 u83 u84 u85 u86 u87 u88 u89 u90 u91 u92 u93 u94 u95 u96 u97 u98 u99 u100 r ns ps HF hok hnl na ncap pa pcap hsame hpl base TT HTT0 K a2 wc u107 u108 u109 u110 hcut
    unfold maxLen at hs
    obtain ⟨r6, vars6, l6, A6, hx6⟩ := hcut
    have HT6 : Hid (TT = (r6, vars6, l6.map AD.pa)) := by
      have := A6.tt
      have hl5 := A6.len
      rw [show 6 - l6.length = (5 - l6.length) + 1 by omega, al] at this
      rw [if_neg (by rw [hx6]; decide)] at this
      exact this
    have hl5 := A6.len
    have ho6 := A6.one
    have hv6 := A6.vlen
    have hok6 := A6.ok
    have P6 := A6.st
    clear A6 hx6
    go_wp2_with fail
    refine (must_any (w.heap.size + 1) s r6 _ 46 46 _ P6.rd rfl HS.out hok6.1).mono ?_
    rintro e w7 ⟨rfl, hr7, hk7⟩
    have P7 := P6.kept hr7 hk7 (fun h => (must_good h).1)
    have hok7 := hok6.must 46
    clear P6 hr7 hk7
    generalize hr7 : r6.must s 46 = r7 at P7 hok7
    have HR7 : Hid (r6.must s 46 = r7) := hr7
    clear hr7
    have d5 := P7.rd.cell5
    have d2 := P7.rd.cell2
    go_upto_region 28 with fail
    go_cut [125] (fun c wx => c = .bool (decide (r7.bad = 0) && !(r7.g.k == 0)) ∧ wx = w7)
    case first =>
      cases hb : ((r7.bad : Int) == 0)
      · have HB : Hid (decide (r7.bad = 0) = false) := decide_eq_false (by have := beq_eq_false_iff_ne.1 hb; omega)
        go_wp2
        go_meet
        exact ⟨val_bool (by rw [HB.out]; rfl), rfl⟩
      · have HB : Hid (decide (r7.bad = 0) = true) := decide_eq_true (by have := beq_iff_eq.1 hb; omega)
        go_wp2
        go_meet
        exact ⟨val_bool (by rw [HB.out, Bool.true_and]; exact byte_ne r7.g.k 0), rfl⟩
    case rest =>
      obtain ⟨rfl, rfl⟩ := hcut
      obtain ⟨w7, hw7⟩ : ∃ w7 : World, w7 = wc := ⟨_, rfl⟩
      subst hw7
      have HRE : Hid (rE s = if r7.bad = 0 ∧ r7.g.k ≠ 0 then r7.fail 2 r7.g.a else r7) := by unfold Hid rE; rw [HTT0.out, HT6.out]; simp only [HR7.out]
      have d4 := P7.rd.cell4
      go_upto_if 125 with fail
      go_cut [] (fun wx => PSt w wx w.heap.size base s (rE s) vars6 (.slice none 0 0) l6 ns ps (.slice na ns.length ncap) (.slice pa ps.length pcap))
      case first =>
        cases hb : (decide (r7.bad = 0) && !(r7.g.k == 0))
        · have HE : Hid (rE s = r7) := by
            unfold Hid; rw [HRE.out, if_neg]
            intro hh; simp [hh.1, hh.2] at hb
          go_wp2
          go_meet
          rw [HE.out]; exact P7
        · have HE : Hid (rE s = r7.fail 2 r7.g.a) := by
            unfold Hid; rw [HRE.out, if_pos]
            simpa using hb
          go_wp2_with fail
          refine (fail_at (w.heap.size + 1) s r7 _ 2 2 r7.g.a _ P7.rd rfl).mono ?_
          rintro e w8 ⟨rfl, hr8, hk8⟩
          have P8 := P7.kept hr8 hk8 (fun h => (fail_good h (by decide)).elim)
          go_wp2
          go_meet
          rw [HE.out]; exact P8
      case rest =>
        have P8 := hcut
        obtain ⟨w8, hw8⟩ : ∃ w8 : World, w8 = wc := ⟨_, rfl⟩
        subst hw8
        clear hcut P7 d2 d4 d5
        generalize hr8 : rE s = r8 at P8
        have HR8 : Hid (rE s = r8) := hr8
        clear hr8
        obtain ⟨RN, hRN⟩ : ∃ t, rN s = t := ⟨_, rfl⟩
        have HRN : Hid (RN = nl vars6 ns ps r8) := by unfold Hid; rw [← hRN, rN, HTT0.out, HT6.out, HTH0.out, HF.out, HR8.out]
        have HRN0 : Hid (rN s = RN) := hRN
        clear hRN
        obtain ⟨hb, hhb⟩ : ∃ b, w8.heap.size = b := ⟨_, rfl⟩
        have hbb : base ≤ hb := by rw [← hhb]; exact P8.bs
        have HHB : Hid (w8.heap.size = hb) := hhb
        clear hhb
        go_upto_block 6 with fail
        go_cut [12, 13, 14] (fun _ _ _ wx => ∃ hv', PSt w wx w.heap.size base s RN vars6 hv' l6 ns ps (.slice na ns.length ncap) (.slice pa ps.length pcap))
        case first =>
          rename_i K a2 J K' a1 a0
          clear a2 K HF HT6 HR7 HRE HR8 HRN0
          revert HS i3 HI3 HX0 HX1 HX2 u8 u9 u10 u11 ns ps hnl na ncap pa pcap hsame hpl base vars6 l6 hl5 ho6 hv6 u16 u17 u18 u19 u20 u21 u22 u23 u24 u25 u26 u27 u28 u29 u30 u31 u32 u33 u34 u35 u36 u37 u38 u39 u40 u41 u42 u43 u44 u45 u46 u47 u48 u49 u50 u51 u52 u53 u54 u55 u56 u57 u58 u59 u60 u61 u62 u63 u64 u65 u66 u67 u68 u69 u70 u71 u72 u73 u74 u75 u76 u77 u78 u79 u80 u81 u82 u83 u84 u85 u86 u87 u88 u89 u90 u91 u92 u93 u94 u95 u96 u97 u98 u99 u100 u101 u102 u103 u104 u105 u106 u107 u108 u109 u110 u111 u112 u113 u114 u115 u116 u117 u118 u119 u120 u121 u122 u123 u124 u125 u126 u127 u128 u129 u130 u131 u132 u133 u134 u135 u136 u137 u138 u139 u140 u141 u142 u143 u144 u145 u146 u147 u148 u149 u150 u151 u152 u153 u154 u155 u156 u157 u158 u159 u160 u161 u162 u163 u164 u165 u166 u167 u168 u169 u170 u171 u172 u173 u174 u175 u176 u177 u178 u179 u180 u181 u182 u183 u184 u185 u186 u187 u188 u189 u190 u191 u192 u193 u194 u195 u196 u197 u198 u199 u200 u201 u202 u203 u204 u205 u206 u207 u208 u209 u210 u211 u212 u213 u214 u215 u216 u217 u218 u219 u220 w8 r8 P8 RN HRN hb hbb HHB J K' a1 a0
          exact V1.out
        case rest =>
          rename_i K a2
          clear P8 HRN HF HR7 hbb hok6
          revert HS u8 u9 u10 u11 ns ps hnl na ncap pa pcap hsame hpl base TT HTT0 r6 vars6 l6 HT6 hl5 ho6 hv6 u16 u17 u18 u19 u20 u21 u22 u23 u24 u25 u26 u27 u28 u29 u30 u31 u32 u33 u34 u35 u36 u37 u38 u39 u40 u41 u42 u43 u44 u45 u46 u47 u48 u49 u50 u51 u52 u53 u54 u55 u56 u57 u58 u59 u60 u61 u62 u63 u64 u65 u66 u67 u68 u69 u70 u71 u72 u73 u74 u75 u76 u77 u78 u79 u80 u81 u82 u83 u84 u85 u86 u87 u88 u89 u90 u91 u92 u93 u94 u95 u96 u97 u98 u99 u100 u101 u102 u103 u104 u105 u106 u107 u108 u109 u110 u111 u112 u113 u114 u115 u116 u117 u118 u119 u120 u121 u122 u123 u124 u125 u126 u127 u128 u129 u130 u131 u132 u198 u199 u200 u201 u202 u203 u204 u205 u206 u207 u208 u209 u210 u211 u212 u213 u214 u215 u216 u217 u218 u219 u220 RN HRN0 K a2 wc u12 u13 u14 u133 u134 u135 u136 u137 u138 u139 u140 u141 u142 u143 u144 u145 u146 u147 u148 u149 u150 u151 u152 u153 u154 u155 u156 u157 u158 u159 u160 u161 u162 u163 u164 u165 u166 u167 u168 u169 u170 u171 u172 u173 u174 u175 u176 u177 u178 u179 u180 u181 u182 u183 u184 u185 u186 u187 u188 u189 u190 u191 u192 u193 u194 u195 u196 u197 hcut
          exact V2.out

end Go.Proofs.Ytondkinefmjpjaa
