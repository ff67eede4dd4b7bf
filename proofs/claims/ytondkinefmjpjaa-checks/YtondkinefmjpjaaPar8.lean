import Derived.Test.YtondkinefmjpjaaPar7
import Derived.Deep.QuietTactic
import Derived.BigQuiet
namespace Go.Proofs.Ytondkinefmjpjaa
open Go.RowKit

set_option maxHeartbeats 32000000 in
set_option maxRecDepth 100000 in
theorem atoms_loop (s : ByteArray) (w : World) (hs : s.size ≤ maxLen) (h200 : ¬ 200 < s.size) : (cutC s w hs h200).g1 := by
  intro HS u16 u17 u18 u19 u20 u21 u22 u23 u24 u25 u26 u27 u28 u29 u30 u31 u32 u33 u34 u35 u36 u37 u38 u39 u40 u101 u102 u103 u104 u105 u106 u107 u108 u109 u110 u111 u112 u113 u114 u115 u116 u117 u118 u119 u120 u121 u122 u123 u124 u125 u126 u127 u128 u129 u130 u131 u132 u133 u134 u135 u136 u137 u138 u139 u140 u141 u142 u143 u144 u145 u146 u147 u148 u149 u150 u151 u152 u153 u154 u155 u156 u157 u158 u159 u160 u161 u162 u163 u164 u165 u166 u167 u168 u169 u170 u171 u172 u173 u174 u175 u176 u177 u178 u179 u180 u181 u182 u183 u184 u185 u186 u187 u188 u189 u190 u191 u192 u193 u194 u195 u196 u197 u198 u199 u200 u201 u202 u203 u204 u205 u206 u207 u208 u209 u210 u211 u212 u213 u214 u215 u216 u217 u218 u219 u220 u8 u9 u10 u11 u41 u42 u43 u44 u45 u46 u47 u48 u49 u50 u51 u52 u53 u54 u55 u56 u57 u58 u59 u60 u61 u62 u63 u64 u65 u66 u67 u68 u69 u70 u71 u72 u73 u74 u75 u76 u77 u78 u79 u80 u81 u82 u83 u84 u85 u86 u87 u88 u89 u90 u91 u92 u93 u94 u95 u96 u97 u98 u99 u100 r ns ps hok hnl na ncap pa pcap hsame hpl base Q' r4 hok4 TT w5 d A5 J K' a1 a0
  unfold maxLen at hs
  go_wp2_with fail
  go_loopw [] (fun wr => ∃ r vars l, AInv w wr w.heap.size base s TT r vars l ns ps (.slice na ns.length ncap) (.slice pa ps.length pcap)) (fun wr => 6 - slen (wr.cell? ⟨w.heap.size, 2, none⟩))
  case atStart => exact ⟨_, _, _, A5⟩
  case round =>
    obtain ⟨r6, vars6, l6, A6⟩ := hrel
    go_wp2_with fail
    refine (is_any (w.heap.size + 1) s r6 _ 44 44 _ A6.st.rd rfl HS.out A6.ok.1).mono ?_
    rintro e w7 ⟨rfl, hr7, hk7⟩
    cases hx : r6.isB 44
    · have e7 : r6.is s 44 = r6 := by unfold Est.Rd.is; rw [hx]; rfl
      rw [e7] at hr7
      have P7 := A6.st.kept hr7 hk7 (fun h => h)
      have A7 := AInv.mk P7 A6.ok A6.one A6.len A6.full A6.vlen A6.tt
      have HX : Hid (r6.isB 44 = false) := hx
      clear A6 P7 hr7 hk7
      go_wp2_with fail
      go_meet
      exact ⟨r6, vars6, l6, A7, HX.out⟩
    · have e7 : r6.is s 44 = r6.next s := by unfold Est.Rd.is; rw [hx]; rfl
      rw [e7] at hr7
      have h0 : r6.bad = 0 := by
        by_cases h0 : r6.bad = 0
        · exact h0
        · rw [isB_bad h0] at hx; cases hx
      have hl4 : l6.length ≤ 4 := by
        rcases Nat.lt_or_ge l6.length 5 with h | h
        · omega
        · exact absurd h0 (A6.full (by have := A6.len; omega))
      have P7 := A6.st.kept hr7 hk7 (fun _ => h0)
      have hok7 := A6.ok.next
      have hv6 := A6.vlen
      have ho6 := A6.one
      have HT6 : Hid (TT = al s (6 - (l6.length + 1)) (aStep s (r6.next s, vars6, l6.map AD.pa))) := by
        have := A6.tt
        rw [show 6 - l6.length = (6 - (l6.length + 1)) + 1 by omega, al] at this
        rw [if_pos hx] at this
        exact this
      have HM : Hid (slen (wr.cell? ⟨w.heap.size, 2, none⟩) = l6.length) := by
        obtain ⟨av, hv1, hv2⟩ := A6.st.ast.ex
        obtain ⟨vv, hq, _⟩ := hv1.q
        obtain ⟨aa, acap, rfl⟩ := own_form hv2
        unfold Hid; simp [World.cell?, hq, slen]
      clear A6 hr7 hk7 h0 e7
      go_wp2_with fail
      refine (atom_any (w.heap.size + 1) w.heap.size base s (r6.next s) vars6 _ l6 _ P7.ast (by omega) (by omega) P7.bs HS.out hok7).mono ?_
      rintro e w8 ⟨rfl, hap⟩
      obtain ⟨d, P8, hd⟩ := P7.atomed hap
      have hvl : (aT s (r6.next s) l6.length vars6).2.1.length ≤ 5 * (l6 ++ [d]).length := by
        have := tl_len s 5 (aR3 s (r6.next s) l6.length) vars6 []
        have h2 : (aT s (r6.next s) l6.length vars6).2.1.length ≤ vars6.length + 5 := this
        simp; omega
      have htt : TT = al s (6 - (l6 ++ [d]).length) (aFin s (r6.next s) l6 vars6, (aT s (r6.next s) l6.length vars6).2.1, (l6 ++ [d]).map AD.pa) := by
        rw [HT6.out, aFin_eq]; simp [aStep, hd]
      have hful : (l6 ++ [d]).length = 5 → (aFin s (r6.next s) l6 vars6).bad ≠ 0 := fun h5 => aFin_four (by simp at h5; omega)
      have A8 := AInv.mk P8 (hok7.aFin l6 vars6) (by simp) (by simp; omega) hful hvl htt
      have HM8 : Hid (slen (w8.cell? ⟨w.heap.size, 2, none⟩) = l6.length + 1) := by
        obtain ⟨av, hv1, hv2⟩ := A8.st.ast.ex
        obtain ⟨vv, hq, _⟩ := hv1.q
        obtain ⟨aa, acap, rfl⟩ := own_form hv2
        unfold Hid; simp [World.cell?, hq, slen]
      clear hvl htt hful P7 P8 hap hd hx
      go_wp2
      go_roundw
      case rel => exact ⟨_, _, _, A8⟩
      case measure => rw [HM.out, HM8.out]; omega

end Go.Proofs.Ytondkinefmjpjaa
