import Derived.Test.YtondkinefmjpjaaPar4
namespace Go.Proofs.Ytondkinefmjpjaa
open Go.RowKit

set_option maxHeartbeats 32000000 in
set_option maxRecDepth 100000 in
def cutA (s : ByteArray) (w : World) (hs : s.size ≤ maxLen) (h200 : ¬ 200 < s.size) : Cut2 (Calls Try.prog 5 #[.string s] w fun x w' => (∃ q, x = .returned (.tuple #[q, .int .i64 (refE s), .int .i64 (refP s)])) ∧ Below w.heap.size w w') := by
  refine' Cut2.mk _ _ ?pf
  case pf =>
    intro V1 V2
    have HS : Hid (s.size ≤ maxLen) := hs
    unfold maxLen at hs
    have R0 : Rdr ((w.alloc (.cells #[.slice none 0 0, .slice none 0 0, .slice none 0 0] 47)).alloc (.cells #[.string s, .int .i64 0, .int .u8 0, .string ⟨#[]⟩, .int .i64 0, .int .i64 0, .int .i64 0, .pointer (some ⟨w.heap.size, 0, none⟩)] 51)) (w.heap.size + 1) s r00 (.pointer (some ⟨w.heap.size, 0, none⟩)) := by
      refine ⟨?_⟩
      have := heap_alloc_new (w.alloc (.cells #[.slice none 0 0, .slice none 0 0, .slice none 0 0] 47)) (.cells #[.string s, .int .i64 0, .int .u8 0, .string ⟨#[]⟩, .int .i64 0, .int .i64 0, .int .i64 0, .pointer (some ⟨w.heap.size, 0, none⟩)] 51)
      simp only [World.size_alloc] at this
      exact this
    have H0 : HSt w ((w.alloc (.cells #[.slice none 0 0, .slice none 0 0, .slice none 0 0] 47)).alloc (.cells #[.string s, .int .i64 0, .int .u8 0, .string ⟨#[]⟩, .int .i64 0, .int .i64 0, .int .i64 0, .pointer (some ⟨w.heap.size, 0, none⟩)] 51)) w.heap.size s r00 [] [] (.slice none 0 0) (.slice none 0 0) :=
      ⟨R0, (Below.heap_alloc _ _ _ (by simp)).trans (heap_alloc_new _ _), World.ownsRow_nil _ _ _ _, World.ownsRow_nil _ _ _ _, ((Below.refl _ _).alloc (Nat.le_refl _) _).alloc (by simp) _⟩
    go_enter Try.func5, Try.ntmps5
    go_wp2_with fail
    refine (next_any (w.heap.size + 1) s r00 _ _ R0 HS.out (Nat.zero_le _)).mono ?_
    rintro e w1 ⟨rfl, hr1, hk1⟩
    have H1 := H0.kept hr1 hk1
    clear H0 R0 hr1 hk1
    have hok0 : Ok s (r00.next s) := Ok.next (Ok.r00 s)
    go_wp2_with fail
    refine (must_any (w.heap.size + 1) s _ _ 40 40 _ H1.rd rfl HS.out hok0.1).mono ?_
    rintro e w2 ⟨rfl, hr2, hk2⟩
    have H2 := H1.kept hr2 hk2
    have hok1 := Ok.r1 s
    change HSt w w2 w.heap.size s (r1 s) [] [] (.slice none 0 0) (.slice none 0 0) at H2
    clear H1 hr2 hk2 hok0
    generalize hR1 : r1 s = rr1 at H2 hok1
    have HR1 : Hid (r1 s = rr1) := hR1
    clear hR1
    have d5 := H2.rd.cell5
    have d2 := H2.rd.cell2
    go_upto_region 8 with fail
    go_cut [8] (fun m wx => m = .bool (decide (rr1.bad = 0) && !(rr1.g.k == 41)) ∧ wx = w2)
    case first =>
      cases hb : ((rr1.bad : Int) == 0)
      · have HB : Hid (decide (rr1.bad = 0) = false) := decide_eq_false (by have := beq_eq_false_iff_ne.1 hb; omega)
        go_wp2
        go_meet
        exact ⟨val_bool (by rw [HB.out]; rfl), rfl⟩
      · have HB : Hid (decide (rr1.bad = 0) = true) := decide_eq_true (by have := beq_iff_eq.1 hb; omega)
        go_wp2
        go_meet
        exact ⟨val_bool (by rw [HB.out, Bool.true_and]; exact byte_ne rr1.g.k 41), rfl⟩
    case rest =>
      obtain ⟨rfl, rfl⟩ := hcut
      obtain ⟨w2, hw2⟩ : ∃ w2 : World, w2 = wc := ⟨_, rfl⟩
      subst hw2
      obtain ⟨THH, hTH⟩ : ∃ t, TH s = t := ⟨_, rfl⟩
      have HTH : Hid (THH = if (decide (rr1.bad = 0) && !(rr1.g.k == 41)) = true then hl s 8 rr1 [] [] else (rr1, [], [])) := by
        unfold Hid; rw [← hTH, TH, HR1.out]
        by_cases h1 : rr1.bad = 0 <;> by_cases h2 : rr1.g.k = 41 <;> simp [h1, h2]
      have HTH0 : Hid (TH s = THH) := hTH
      clear hTH d5 d2
      obtain ⟨i9, hi9, hy0, hy1, hy2⟩ := info_parts Try.info9
      have HI9 : Hid _ := hi9
      have HY0 : Hid _ := hy0
      have HY1 : Hid _ := hy1
      have HY2 : Hid _ := hy2
      obtain ⟨i3, hi3, hx0, hx1, hx2⟩ := info_parts Try.info3
      have HI3 : Hid _ := hi3
      have HX0 : Hid _ := hx0
      have HX1 : Hid _ := hx1
      have HX2 : Hid _ := hx2
      clear hi9 hy0 hy1 hy2 hi3 hx0 hx1 hx2
      go_upto_block 0 with fail
      go_cut [6, 7, 8, 9, 10, 11] (fun nv pv _ _ _ _ wx => ∃ r ns ps, HInv w wx w.heap.size s THH false r ns ps nv pv)
      case first =>
        rename_i Q' h2 K a2 J K' a1 a0
        clear a2 K
        revert HS Q' h2 rr1 hok1 HR1 u16 u17 u18 u19 u20 u21 u22 u23 u24 u25 u26 u27 u28 u29 u30 u31 u32 u33 u34 u35 u36 u37 u38 u39 u40 u41 u42 u43 u44 u45 u46 u47 u48 u49 u50 u51 u52 u53 u54 u55 u56 u57 u58 u59 u60 u61 u62 u63 u64 u65 u66 u67 u68 u69 u70 u71 u72 u73 u74 u75 u76 u77 u78 u79 u80 u81 u82 u83 u84 u85 u86 u87 u88 u89 u90 u91 u92 u93 u94 u95 u96 u97 u98 u99 u100 u101 u102 u103 u104 u105 u106 u107 u108 u109 u110 u111 u112 u113 u114 u115 u116 u117 u118 u119 u120 u121 u122 u123 u124 u125 u126 u127 u128 u129 u130 u131 u132 u133 u134 u135 u136 u137 u138 u139 u140 u141 u142 u143 u144 u145 u146 u147 u148 u149 u150 u151 u152 u153 u154 u155 u156 u157 u158 u159 u160 u161 u162 u163 u164 u165 u166 u167 u168 u169 u170 u171 u172 u173 u174 u175 u176 u177 u178 u179 u180 u181 u182 u183 u184 u185 u186 u187 u188 u189 u190 u191 u192 u193 u194 u195 u196 u197 u198 u199 u200 u201 u202 u203 u204 u205 u206 u207 u208 u209 u210 u211 u212 u213 u214 u215 u216 u217 u218 u219 u220 w2 H2 THH HTH HTH0 i9 HI9 HY0 HY1 HY2 i3 HI3 HX0 HX1 HX2 J K' a1 a0
        exact V1.out
      case rest =>
        rename_i K a2
        clear HTH
        revert HS u16 u17 u18 u19 u20 u21 u22 u23 u24 u25 u26 u27 u28 u29 u30 u31 u32 u33 u34 u35 u36 u37 u38 u39 u40 u101 u102 u103 u104 u105 u106 u107 u108 u109 u110 u111 u112 u113 u114 u115 u116 u117 u118 u119 u120 u121 u122 u123 u124 u125 u126 u127 u128 u129 u130 u131 u132 u133 u134 u135 u136 u137 u138 u139 u140 u141 u142 u143 u144 u145 u146 u147 u148 u149 u150 u151 u152 u153 u154 u155 u156 u157 u158 u159 u160 u161 u162 u163 u164 u165 u166 u167 u168 u169 u170 u171 u172 u173 u174 u175 u176 u177 u178 u179 u180 u181 u182 u183 u184 u185 u186 u187 u188 u189 u190 u191 u192 u193 u194 u195 u196 u197 u198 u199 u200 u201 u202 u203 u204 u205 u206 u207 u208 u209 u210 u211 u212 u213 u214 u215 u216 u217 u218 u219 u220 THH HTH0 i3 HI3 HX0 HX1 HX2 K a2 wc u6 u7 u8 u9 u10 u11 u41 u42 u43 u44 u45 u46 u47 u48 u49 u50 u51 u52 u53 u54 u55 u56 u57 u58 u59 u60 u61 u62 u63 u64 u65 u66 u67 u68 u69 u70 u71 u72 u73 u74 u75 u76 u77 u78 u79 u80 u81 u82 u83 u84 u85 u86 u87 u88 u89 u90 u91 u92 u93 u94 u95 u96 u97 u98 u99 u100 hcut
        exact V2.out

end Go.Proofs.Ytondkinefmjpjaa
