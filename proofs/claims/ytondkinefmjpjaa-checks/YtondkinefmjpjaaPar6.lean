import Derived.Test.YtondkinefmjpjaaPar5
import Derived.Deep.QuietTactic
import Derived.BigQuiet
namespace Go.Proofs.Ytondkinefmjpjaa
open Go.RowKit

set_option maxHeartbeats 32000000 in
set_option maxRecDepth 100000 in
theorem head_loop (s : ByteArray) (w : World) (hs : s.size ≤ maxLen) (h200 : ¬ 200 < s.size) : (cutA s w hs h200).g1 := by
  intro HS Q' h2 rr1 hok1 HR1 u16 u17 u18 u19 u20 u21 u22 u23 u24 u25 u26 u27 u28 u29 u30 u31 u32 u33 u34 u35 u36 u37 u38 u39 u40 u41 u42 u43 u44 u45 u46 u47 u48 u49 u50 u51 u52 u53 u54 u55 u56 u57 u58 u59 u60 u61 u62 u63 u64 u65 u66 u67 u68 u69 u70 u71 u72 u73 u74 u75 u76 u77 u78 u79 u80 u81 u82 u83 u84 u85 u86 u87 u88 u89 u90 u91 u92 u93 u94 u95 u96 u97 u98 u99 u100 u101 u102 u103 u104 u105 u106 u107 u108 u109 u110 u111 u112 u113 u114 u115 u116 u117 u118 u119 u120 u121 u122 u123 u124 u125 u126 u127 u128 u129 u130 u131 u132 u133 u134 u135 u136 u137 u138 u139 u140 u141 u142 u143 u144 u145 u146 u147 u148 u149 u150 u151 u152 u153 u154 u155 u156 u157 u158 u159 u160 u161 u162 u163 u164 u165 u166 u167 u168 u169 u170 u171 u172 u173 u174 u175 u176 u177 u178 u179 u180 u181 u182 u183 u184 u185 u186 u187 u188 u189 u190 u191 u192 u193 u194 u195 u196 u197 u198 u199 u200 u201 u202 u203 u204 u205 u206 u207 u208 u209 u210 u211 u212 u213 u214 u215 u216 u217 u218 u219 u220 w2 H2 THH HTH HTH0 i9 HI9 HY0 HY1 HY2 i3 HI3 HX0 HX1 HX2 J K' a1 a0
  unfold maxLen at hs
  go_wp2_with fail
  go_loopw [6, 7, 8, 9, 10, 11] (fun nv pv mv _ _ _ wr => ∃ m r ns ps, mv = .bool m ∧ HInv w wr w.heap.size s THH m r ns ps nv pv) (fun nv _ _ _ _ _ _ => 8 - slen (some nv))
  case atStart => exact ⟨_, _, [], [], rfl, H2, hok1, rfl, by simp, by simp, by simpa using HTH.out⟩
  case round =>
    obtain ⟨m, r, ns, ps, rfl, hI⟩ := hrel
    have H := hI.st
    have d5 := H.rd.cell5
    cases m
    · go_wp2_with fail
      go_meet
      exact ⟨r, ns, ps, hI⟩
    · cases hbad : ((r.bad : Int) == 0)
      · have HBAD : Hid (r.bad ≠ 0) := by have := beq_eq_false_iff_ne.1 hbad; unfold Hid; omega
        go_wp2_with fail
        go_meet
        exact ⟨r, ns, ps, ⟨hI.st, hI.ok, hI.same, hI.len, hI.full, by rw [hI.th]; simp [hl_done _ _ _ _ _ HBAD.out]⟩⟩
      · have HBAD : Hid (r.bad = 0) := by have := beq_iff_eq.1 hbad; unfold Hid; omega
        have hlen : ns.length ≤ 6 := by
          rcases Nat.lt_or_ge ns.length 7 with h | h
          · omega
          · exact absurd HBAD.out (hI.full (by have := hI.len; omega))
        have hsame : Hid (ps.length = ns.length) := hI.same
        have hps6 : ps.length ≤ 6 := by rw [hI.same]; exact hlen
        have HTL : Hid (THH = if (hR s r ns).isB 44 then hl s (7 - ns.length) ((hR s r ns).is s 44) (ns ++ [r.g.t]) (ps ++ [r.g.a]) else (hR s r ns, ns ++ [r.g.t], ps ++ [r.g.a])) := by
          have := hI.th
          rw [if_pos rfl, show 8 - ns.length = (7 - ns.length) + 1 by omega, hl_step s _ r _ _ HBAD.out] at this
          exact this
        have hok := hI.ok
        obtain ⟨na, ncap, hnv⟩ := own_form H.nrow
        obtain ⟨pa, pcap, hpv⟩ := own_form H.prow
        subst hnv
        subst hpv
        have d4 := H.rd.cell4
        clear hI
        go_wp2_with fail
        refine (must_any (w.heap.size + 1) s r _ 118 118 _ H.rd rfl HS.out hok.1).mono ?_
        rintro e w3 ⟨rfl, hr3, hk3⟩
        have H3 := H.kept hr3 hk3
        have hok3 := hok.must 118
        clear d4 d5 H hr3 hk3 hbad
        generalize hr3' : r.must s 118 = r3 at H3 hok3
        have HR3 : Hid (r.must s 118 = r3) := hr3'
        clear hr3'
        go_upto_block 2 with fail
        go_cut [11] (fun _ wx => HSt w wx w.heap.size s (nShape r3 ns r.g.t r.g.a ns.length) ns ps (.slice na ns.length ncap) (.slice pa ps.length pcap))
        case first =>
          go_wp2_with fail
          go_loopw [11] (fun iv wr => ∃ k : Nat, k ≤ ns.length ∧ iv = .int .i64 k ∧ HSt w wr w.heap.size s (nShape r3 ns r.g.t r.g.a k) ns ps (.slice na ns.length ncap) (.slice pa ps.length pcap)) (fun iv _ => ns.length - (intOf iv).toNat)
          case atStart => exact ⟨0, Nat.zero_le _, rfl, H3⟩
          case round =>
            obtain ⟨k, hk, rfl, H⟩ := hrel
            have d5 := H.rd.cell5
            generalize hr6 : nShape r3 ns r.g.t r.g.a k = r6 at H d5
            have HR6 : Hid (nShape r3 ns r.g.t r.g.a k = r6) := hr6
            clear hr6
            by_cases hlt : k < ns.length
            · cases hbad : ((r6.bad : Int) == 0)
              · have HBAD6 : Hid (r6.bad ≠ 0) := by have := beq_eq_false_iff_ne.1 hbad; unfold Hid; omega
                go_wp2_with fail
                go_meet
                rw [nShape_done (k := k) (by rw [HR6.out]; exact HBAD6.out), HR6.out]; exact H
              · have HBAD6 : Hid (r6.bad = 0) := by have := beq_iff_eq.1 hbad; unfold Hid; omega
                obtain ⟨g, cap', he⟩ := own_some H.nrow (by omega)
                simp only [Value.slice.injEq, true_and] at he
                obtain ⟨rfl, rfl⟩ := he
                have hc := H.nrow.cellAt k (by omega)
                simp only [strs, List.getElem?_map, List.getElem?_eq_getElem hlt, Option.map_some] at hc
                have HST : Hid (nShape r3 ns r.g.t r.g.a (k + 1) = if (ns[k].toList == r.g.t.toList) then r6.fail 4 r.g.a else r6) := by
                  unfold Hid; rw [nShape_step hlt (by rw [HR6.out]; exact HBAD6.out), HR6.out]
                cases hc1 : (ns[k].toList == r.g.t.toList)
                · go_wp2_with fail
                  go_roundw
                  case rel => exact ⟨k + 1, by omega, by go_num, by rw [HST.out, hc1]; exact H⟩
                  case measure => simp [intOf]; omega
                · go_wp2_with fail
                  refine (fail_at (w.heap.size + 1) s r6 _ 4 4 r.g.a _ H.rd rfl).mono ?_
                  rintro e w8 ⟨rfl, hr8, hk8⟩
                  have H8 := H.kept hr8 hk8
                  go_wp2
                  go_roundw
                  case rel => exact ⟨k + 1, by omega, by go_num, by rw [HST.out, hc1]; exact H8⟩
                  case measure => simp [intOf]; omega
            · go_wp2_with fail
              go_meet
              have e : nShape r3 ns r.g.t r.g.a ns.length = r6 := by
                have hkk : ns.length = k := by omega
                rw [hkk]; exact HR6.out
              rw [e]; exact H
        case rest =>
          have H4 := hcut
          obtain ⟨w4, hw4⟩ : ∃ w4 : World, w4 = wc := ⟨_, rfl⟩
          subst hw4
          clear hcut H3
          have hok4 : Ok s (nShape r3 ns r.g.t r.g.a ns.length) := hok3.nShape _ _ _ _
          generalize hr4 : nShape r3 ns r.g.t r.g.a ns.length = r4 at H4 hok4
          have HR4 : Hid (nShape r3 ns r.g.t r.g.a ns.length = r4) := hr4
          clear hr4
          have HHR : Hid (hR s r ns = if 6 ≤ ns.length then r4.fail 3 r.g.a else r4) := by unfold Hid hR; rw [HR3.out, HR4.out]
          have d5 := H4.rd.cell5
          go_upto_region 17 with fail
          go_cut [87] (fun c wx => c = .bool (decide (r4.bad = 0) && decide (6 ≤ ns.length)) ∧ wx = w4)
          case first =>
            cases hb : ((r4.bad : Int) == 0)
            · have HB : Hid (decide (r4.bad = 0) = false) := decide_eq_false (by have := beq_eq_false_iff_ne.1 hb; omega)
              go_wp2
              go_meet
              exact ⟨val_bool (by rw [HB.out]; rfl), rfl⟩
            · have HB : Hid (decide (r4.bad = 0) = true) := decide_eq_true (by have := beq_iff_eq.1 hb; omega)
              go_wp2
              go_meet
              exact ⟨val_bool (by rw [HB.out, Bool.true_and]; exact decide_eq_decide.2 (by omega)), rfl⟩
          case rest =>
            obtain ⟨rfl, rfl⟩ := hcut
            go_upto_if 87 with fail
            go_cut [] (fun wx => HSt w wx w.heap.size s (hR s r ns) ns ps (.slice na ns.length ncap) (.slice pa ps.length pcap))
            case first =>
              cases hb : (decide (r4.bad = 0) && decide (6 ≤ ns.length))
              · have HE : Hid (hR s r ns = r4) := by
                  unfold Hid; rw [HHR.out]
                  by_cases h6 : 6 ≤ ns.length
                  · have : ¬ r4.bad = 0 := by intro h0; simp [h0, h6] at hb
                    rw [if_pos h6, fail_bad this]
                  · rw [if_neg h6]
                go_wp2
                go_meet
                rw [HE.out]; exact H4
              · have HE : Hid (hR s r ns = r4.fail 3 r.g.a) := by
                  unfold Hid; rw [HHR.out]
                  simp only [Bool.and_eq_true, decide_eq_true_eq] at hb
                  rw [if_pos hb.2]
                go_wp2_with fail
                refine (fail_at (w.heap.size + 1) s r4 _ 3 3 r.g.a _ H4.rd rfl).mono ?_
                rintro e w8 ⟨rfl, hr8, hk8⟩
                have H8 := H4.kept hr8 hk8
                go_wp2
                go_meet
                rw [HE.out]; exact H8
            case rest =>
              have H5 := hcut
              obtain ⟨w5, hw5⟩ : ∃ w5 : World, w5 = wc := ⟨_, rfl⟩
              subst hw5
              have hok5 := hok.hR ns
              have hl5 := H5.lt
              clear hcut H4 d5
              go_wp2_with (first | (at_builtin; refine wpList_append_own _ rfl (.tmp 91) (.tmp 93) 35 rfl (w.heap.size + 2) 9 i9 (.string ⟨#[]⟩) 1 16 Try.underlying35 HI9.out HY0.out HY1.out HY2.out rfl (by decide) (.slice na ns.length ncap) _ _ rfl (H5.nrow.alloc _) ⟨w5.heap.size, 0, none⟩ 1 1 [.string r.g.t] rfl rfl (one_new _ _ _) (by intro u hu; simp at hu; subst hu; rfl) (by unfold maxLen; omega) (by omega) (by simp; omega) ?_; intro v6 w6 hown6 hgrow6 _; obtain ⟨na6, ncap6, rfl⟩ := own_form hown6; have H6 := H5.named (v := r.g.t) ((Kept.refl (fun _ => False) w5).alloc _) hgrow6 hown6; have hl6 := H6.lt; clear hown6 hgrow6) | (at_builtin; refine wpList_append_own _ rfl (.tmp 95) (.tmp 97) 23 rfl (w.heap.size + 2) 3 i3 (.int .i64 0) 1 8 Try.underlying23 HI3.out HX0.out HX1.out HX2.out rfl (by decide) (.slice pa ps.length pcap) _ _ rfl (H6.prow.alloc _) ⟨w6.heap.size, 0, none⟩ 1 1 [.int .i64 r.g.a] rfl rfl (one_new _ _ _) (by intro u hu; simp at hu; subst hu; rfl) (by unfold maxLen; omega) (by omega) (by simp; omega) ?_; intro v7 w7 hown7 hgrow7 _; obtain ⟨pa7, pcap7, rfl⟩ := own_form hown7; have H7 := H6.placed (v := r.g.a) ((Kept.refl (fun _ => False) w6).alloc _) hgrow7 hown7; clear hown7 hgrow7))
              go_wp2_with fail
              refine (is_any (w.heap.size + 1) s _ _ 44 44 _ H7.rd rfl HS.out hok5.1).mono ?_
              rintro e w8 ⟨rfl, hr8, hk8⟩
              have H8 := H7.kept hr8 hk8
              go_wp2
              go_roundw
              case rel =>
                refine ⟨_, _, ns ++ [r.g.t], ps ++ [r.g.a], rfl, H8, hok5.is 44, by rw [List.length_append, List.length_append, hsame.out]; rfl, by simp; omega, ?_, ?_⟩
                · intro h7
                  have h6 : 6 ≤ ns.length := by simp at h7; omega
                  have hb5 : (hR s r ns).bad ≠ 0 := by rw [HHR.out, if_pos h6]; exact fail_ne (by decide)
                  unfold Est.Rd.is; rw [isB_bad hb5]; exact hb5
                · rw [HTL.out]
                  cases hx : (hR s r ns).isB 44
                  · simp [Est.Rd.is, hx]
                  · simp [show 8 - (ns.length + 1) = 7 - ns.length by omega]
              case measure => simp [slen]; omega

end Go.Proofs.Ytondkinefmjpjaa
