import Derived.Deep.QuietTactic
import Derived.BigQuiet
import Derived.Test.YtondkinefmjpjaaGreatW07
import Derived.Test.YtondkinefmjpjaaGreatW08
namespace Go.Proofs.YtondkinefmjpjaaGreat.K
open Go.RowKit

set_option maxHeartbeats 32000000 in
set_option maxRecDepth 100000 in
theorem last_part (s : ByteArray) (w : World) (hs : s.size ≤ maxLen) (h200 : ¬ 200 < s.size) : (cutE s w hs h200).g2 := by
  intro HS u8 u9 u10 u11 ns ps hnl na ncap pa pcap hsame hpl base TT HTT0 r6 vars6 l6 HT6 hl5 ho6 hv6 u16 u17 u18 u19 u20 u21 u22 u23 u24 u25 u26 u27 u28 u29 u30 u31 u32 u33 u34 u35 u36 u37 u38 u39 u40 u41 u42 u43 u44 u45 u46 u47 u48 u49 u50 u51 u52 u53 u54 u55 u56 u57 u58 u59 u60 u61 u62 u63 u64 u65 u66 u67 u68 u69 u70 u71 u72 u73 u74 u75 u76 u77 u78 u79 u80 u81 u82 u83 u84 u85 u86 u87 u88 u89 u90 u91 u92 u93 u94 u95 u96 u97 u98 u99 u100 u101 u102 u103 u104 u105 u106 u107 u108 u109 u110 u111 u112 u113 u114 u115 u116 u117 u118 u119 u120 u121 u122 u123 u124 u125 u126 u127 u128 u129 u130 u131 u132 u198 u199 u200 u201 u202 u203 u204 u205 u206 u207 u208 u209 u210 u211 u212 u213 u214 u215 u216 u217 u218 u219 u220 RN HRN0 K a2 wc u12 u13 u14 u133 u134 u135 u136 u137 u138 u139 u140 u141 u142 u143 u144 u145 u146 u147 u148 u149 u150 u151 u152 u153 u154 u155 u156 u157 u158 u159 u160 u161 u162 u163 u164 u165 u166 u167 u168 u169 u170 u171 u172 u173 u174 u175 u176 u177 u178 u179 u180 u181 u182 u183 u184 u185 u186 u187 u188 u189 u190 u191 u192 u193 u194 u195 u196 u197 hcut
  unfold maxLen at hs
  obtain ⟨hv', P⟩ := hcut
  obtain ⟨w12, hw12⟩ : ∃ w12 : World, w12 = wc := ⟨_, rfl⟩
  subst hw12
  have d5 := P.rd.cell5
  have d6 := P.rd.cell6
  have d7 := P.rd.cell7
  cases hbad : ((RN.bad : Int) == 0)
  · have HBAD : Hid (RN.bad ≠ 0) := by have := beq_eq_false_iff_ne.1 hbad; unfold Hid; omega
    have hne : ((RN.bad : Int) != 0) = true := by rw [bne_iff_ne]; have := HBAD.out; omega
    have HE : Hid (refE s = (RN.bad : Int)) := by unfold Hid refE; rw [if_neg h200, HRN0.out, if_pos HBAD.out]
    have HP : Hid (refP s = (RN.bat : Int)) := by unfold Hid refP; rw [if_neg h200, HRN0.out, if_pos HBAD.out]
    clear hbad
    go_wp2_with fail
    go_quiet (fail)
    go_wp2
    go_ret3
    refine ⟨⟨.pointer none, ?_, fun h => by rw [HE.out] at h; exact absurd h (by have := HBAD.out; omega)⟩, ?_⟩
    · rw [HE.out, HP.out]; rfl
    exact ⟨P.below.os, P.below.tape, P.below.output, P.below.size, P.below.block⟩
  · have HBAD : Hid (RN.bad = 0) := by have := beq_iff_eq.1 hbad; unfold Hid; omega
    have hne : ((RN.bad : Int) != 0) = false := by rw [bne_eq_false_iff_eq]; have := HBAD.out; omega
    have HP : Hid (refP s = 0) := by unfold Hid refP; rw [if_neg h200, HRN0.out, if_neg (by simp [HBAD.out])]
    have HE : Hid (refE s = if cyc vars6.length l6 (l6.length - 1) (List.replicate l6.length true) then 7 else 0) := by
      unfold Hid refE; rw [if_neg h200, HRN0.out, if_neg (by simp [HBAD.out]), HTT0.out, HT6.out, cycP_eq]; simp
    have hqst : QSt w12 w.heap.size base vars6.length l6 := by
      obtain ⟨av, hvst, har⟩ := P.ast.ex
      obtain ⟨vv, hq, hvr⟩ := hvst.q
      obtain ⟨va, vcap, rfl⟩ := own_form hvr
      exact ⟨⟨va, vcap, hv', av, hq, har⟩, P.ast.ts, P.vs HBAD.out⟩
    have HQ : Hid (QSt w12 w.heap.size base vars6.length l6) := hqst
    have hbel := P.below
    clear P hbad
    go_wp2_with fail
    refine (Cyclic_any w.heap.size base vars6.length l6 _ hqst (by omega) (by omega)).mono ?_
    rintro e w13 ⟨rfl, hb13⟩
    have hb0 : Below w.heap.size w w13 := hbel.trans (hb13.mono hbel.size)
    have d7' := (hb13.cell (p := ⟨w.heap.size + 1, 7, none⟩) (World.block_lt_of_cell? _ _ d7)).trans d7
    cases hc : cyc vars6.length l6 (l6.length - 1) (List.replicate l6.length true)
    · have HE0 : Hid (refE s = 0) := by unfold Hid; rw [HE.out, hc]; rfl
      go_wp2_with fail
      go_ret3
      refine ⟨⟨.pointer (some ⟨w.heap.size, 0, none⟩), ?_, fun _ => ⟨_, _, _, _, rfl, HQ.out.below hb13, by omega⟩⟩, hb0⟩
      rw [HE0.out, HP.out]; rfl
    · have HE7 : Hid (refE s = 7) := by unfold Hid; rw [HE.out, hc]; rfl
      go_wp2_with fail
      go_ret3
      refine ⟨⟨.pointer none, ?_, fun h => by rw [HE7.out] at h; cases h⟩, hb0⟩
      rw [HE7.out, HP.out]; rfl


end Go.Proofs.YtondkinefmjpjaaGreat.K
namespace Go.Proofs.YtondkinefmjpjaaGreat.K
open Go.RowKit

set_option maxHeartbeats 32000000 in
set_option maxRecDepth 100000 in
theorem Parse_any (s : ByteArray) (w : World) (hs : s.size ≤ maxLen) :
    Calls Tryz.prog 62 #[.string s] w fun x w' => (∃ q, x = .returned (.tuple #[q, .int .i64 (refE s), .int .i64 (refP s)]) ∧ (refE s = 0 → RQ w' q)) ∧ Below w.heap.size w w' := by
  by_cases h200 : 200 < s.size
  · go_enter Tryz.func62, Tryz.ntmps62
    go_wp2_with fail
    go_ret3
    refine ⟨⟨.pointer none, ?_, fun h => by rw [show refE s = 1 from by unfold refE; rw [if_pos h200]] at h; cases h⟩, Below.refl _ _⟩
    rw [show refE s = 1 from by unfold refE; rw [if_pos h200], show refP s = 0 from by unfold refP; rw [if_pos h200]]
    rfl
  · exact (cutA s w hs h200).pf ⟨head_loop s w hs h200⟩ ⟨(cutC s w hs h200).pf ⟨atoms_loop s w hs h200⟩ ⟨(cutE s w hs h200).pf ⟨names_loop s w hs h200⟩ ⟨last_part s w hs h200⟩⟩⟩

end Go.Proofs.YtondkinefmjpjaaGreat.K
