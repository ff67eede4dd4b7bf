import Derived.Test.YtondkinefmjpjaaRef1
import Derived.Test.YtondkinefmjpjaaModel3
import Derived.Deep.RegionWith
namespace Go.Proofs.Ytondkinefmjpjaa
open Go.RowKit

theorem blank_iff' (c : UInt8) : Est.blank c = (((c.toNat : Int) == 32) || ((c.toNat : Int) == 10)) := by
  unfold Est.blank; rw [Bool.eq_iff_iff]; simp [← UInt8.toNat_inj]; omega
theorem ret_i64 {a b : Int} (h : a = b) : Ending.returned (.int .i64 a) = .returned (.int .i64 b) := by rw [h]
theorem byte_eq (c n : UInt8) : ((c.toNat : Int) == (n.toNat : Int)) = (c == n) := by
  rw [Bool.eq_iff_iff]; simp [← UInt8.toNat_inj]; omega

set_option maxHeartbeats 400000 in
theorem isLower_any (c : UInt8) (w : World) :
    Calls Try.prog 40 #[.int .u8 (c.toNat : Int)] w fun e w' => e = .returned (.bool (Est.low c)) ∧ w' = w := by
  go_enter Try.func40, Try.ntmps40
  go_wp2
  all_goals go_ret
  · exact ⟨ret_bool (by rw [low_iff, decide_eq_true ‹97 ≤ (c.toNat : Int)›]; rfl), rfl⟩
  · exact ⟨ret_bool (by rw [low_iff, decide_eq_false (by omega)]; rfl), rfl⟩
set_option maxHeartbeats 400000 in
theorem isUpper_any (c : UInt8) (w : World) :
    Calls Try.prog 41 #[.int .u8 (c.toNat : Int)] w fun e w' => e = .returned (.bool (Est.upp c)) ∧ w' = w := by
  go_enter Try.func41, Try.ntmps41
  go_wp2
  all_goals go_ret
  · exact ⟨ret_bool (by rw [upp_iff, decide_eq_true ‹65 ≤ (c.toNat : Int)›]; rfl), rfl⟩
  · exact ⟨ret_bool (by rw [upp_iff, decide_eq_false (by omega)]; rfl), rfl⟩
set_option maxHeartbeats 400000 in
theorem isDigit_any (c : UInt8) (w : World) :
    Calls Try.prog 42 #[.int .u8 (c.toNat : Int)] w fun e w' => e = .returned (.bool (Est.dig c)) ∧ w' = w := by
  go_enter Try.func42, Try.ntmps42
  go_wp2
  all_goals go_ret
  · exact ⟨ret_bool (by rw [dig_iff, decide_eq_true ‹48 ≤ (c.toNat : Int)›]; rfl), rfl⟩
  · exact ⟨ret_bool (by rw [dig_iff, decide_eq_false (by omega)]; rfl), rfl⟩

set_option maxHeartbeats 1000000 in
theorem skipBlanks_any (s : ByteArray) (i : Nat) (w : World) (hs : s.size ≤ maxLen) (hi : i ≤ s.size) :
    Calls Try.prog 22 #[.string s, .int .i64 i] w fun e w' => e = .returned (.int .i64 (Est.skip s i)) ∧ w' = w := by
  unfold maxLen at hs
  go_enter Try.func22, Try.ntmps22
  go_wp2
  go_loop [1] (fun v => ∃ k : Nat, k ≤ s.size ∧ v = .int .i64 k ∧ Est.skip s k = Est.skip s i) (fun v => s.size - (intOf v).toNat)
  case atStart => exact ⟨i, hi, rfl, rfl⟩
  case round =>
    obtain ⟨k, hk, rfl, hd⟩ := hrel
    have HD : Hid (Est.skip s k = Est.skip s i) := hd
    clear hd
    by_cases hlt : k < s.size
    · by_cases hb : Est.blank s[k] = true
      · have HB : Hid (Est.blank s[k] = true) := hb
        rw [blank_iff', Bool.or_eq_true] at hb
        have hb' : ((s[k].toNat : Int) == 32) = true ∨ (((s[k].toNat : Int) == 32) = false ∧ ((s[k].toNat : Int) == 10) = true) := by
          cases h1 : ((s[k].toNat : Int) == 32)
          · exact Or.inr ⟨rfl, by simpa [h1] using hb⟩
          · exact Or.inl rfl
        clear hb
        rcases hb' with hb | ⟨hb1, hb2⟩
        all_goals
          go_wp2
          go_round
          case rel => exact ⟨k + 1, by omega, by go_num, by rw [Est.skip_step s k hlt HB.out]; exact HD.out⟩
          case measure => simp [intOf]; omega
      · have HB : Hid (Est.blank s[k] = false) := by simpa [Hid] using hb
        have hb1 : ((s[k].toNat : Int) == 32) = false := by have := HB.out; rw [blank_iff', Bool.or_eq_false_iff] at this; exact this.1
        have hb2 : ((s[k].toNat : Int) == 10) = false := by have := HB.out; rw [blank_iff', Bool.or_eq_false_iff] at this; exact this.2
        clear hb
        go_wp2
        go_ret
        exact ⟨ret_i64 (by rw [← HD.out, Est.skip_stop s k hlt HB.out]), rfl⟩
    · go_wp2
      go_ret
      exact ⟨ret_i64 (by rw [← HD.out, Est.skip_end s k hlt]), rfl⟩

set_option maxHeartbeats 1000000 in
theorem wordEnd_any (s : ByteArray) (i : Nat) (w : World) (hs : s.size ≤ maxLen) (hi : i ≤ s.size) :
    Calls Try.prog 23 #[.string s, .int .i64 i] w fun e w' => e = .returned (.int .i64 (Est.wend s i)) ∧ w' = w := by
  unfold maxLen at hs
  go_enter Try.func23, Try.ntmps23
  go_wp2
  go_loop [1] (fun v => ∃ k : Nat, k ≤ s.size ∧ v = .int .i64 k ∧ Est.wend s k = Est.wend s i) (fun v => s.size - (intOf v).toNat)
  case atStart => exact ⟨i, hi, rfl, rfl⟩
  case round =>
    obtain ⟨k, hk, rfl, hd⟩ := hrel
    have HD : Hid (Est.wend s k = Est.wend s i) := hd
    clear hd
    by_cases hlt : k < s.size
    · by_cases hb : Est.wrd s[k] = true
      · have HB : Hid (Est.wrd s[k] = true) := hb
        have hb' : Est.low s[k] = true ∨ (Est.low s[k] = false ∧ Est.upp s[k] = true) ∨ (Est.low s[k] = false ∧ Est.upp s[k] = false ∧ Est.dig s[k] = true) := by
          unfold Est.wrd at hb
          cases h1 : Est.low s[k] <;> cases h2 : Est.upp s[k] <;> simp_all
        clear hb
        rcases hb' with hb | ⟨hb1, hb2⟩ | ⟨hb1, hb2, hb3⟩
        all_goals
          go_wp2_with (first | (go_at_call 40; refine (isLower_any _ _).mono ?_; rintro e w' ⟨rfl, rfl⟩) | (go_at_call 41; refine (isUpper_any _ _).mono ?_; rintro e w' ⟨rfl, rfl⟩) | (go_at_call 42; refine (isDigit_any _ _).mono ?_; rintro e w' ⟨rfl, rfl⟩))
          go_round
          case rel => exact ⟨k + 1, by omega, by go_num, by rw [Est.wend_step s k hlt HB.out]; exact HD.out⟩
          case measure => simp [intOf]; omega
      · have HB : Hid (Est.wrd s[k] = false) := by simpa [Hid] using hb
        have hcc : Est.wrd s[k] = false := HB.out
        unfold Est.wrd at hcc
        rw [Bool.or_eq_false_iff, Bool.or_eq_false_iff] at hcc
        obtain ⟨⟨c1, c2⟩, c3⟩ := hcc
        clear hb
        go_wp2_with (first | (go_at_call 40; refine (isLower_any _ _).mono ?_; rintro e w' ⟨rfl, rfl⟩) | (go_at_call 41; refine (isUpper_any _ _).mono ?_; rintro e w' ⟨rfl, rfl⟩) | (go_at_call 42; refine (isDigit_any _ _).mono ?_; rintro e w' ⟨rfl, rfl⟩))
        go_ret
        exact ⟨ret_i64 (by rw [← HD.out, Est.wend_stop s k hlt HB.out]), rfl⟩
    · go_wp2
      go_ret
      exact ⟨ret_i64 (by rw [← HD.out, Est.wend_end s k hlt]), rfl⟩

theorem fairN_no (t : ByteArray) (h0 : 0 < t.size) (h : 3 < t.size ∨ (t[0] = 48 ∧ 1 < t.size)) : Est.fairN t = false := by
  unfold Est.fairN
  rw [fst_eq t h0]
  rcases h with h | ⟨h, h'⟩
  · rw [decide_eq_false (show ¬ t.size ≤ 3 by omega)]; simp
  · rw [h, decide_eq_false (show ¬ t.size = 1 by omega)]; simp
theorem fairN_yes (t : ByteArray) (h0 : 0 < t.size) (h : t.size ≤ 3) (h' : ¬ (t[0] = 48 ∧ 1 < t.size)) : Est.fairN t = Est.digs t 0 := by
  unfold Est.fairN
  rw [fst_eq t h0, decide_eq_true h]
  by_cases h1 : t.size = 1
  · rw [decide_eq_true h1]; simp
  · rw [decide_eq_false h1]
    have : t[0] ≠ 48 := fun e => h' ⟨e, by omega⟩
    simp [this]

set_option maxHeartbeats 1000000 in
theorem isNumber_any (t : ByteArray) (w : World) (h0 : 0 < t.size) (ht : t.size ≤ maxLen) :
    Calls Try.prog 43 #[.string t] w fun e w' => e = .returned (.bool (Est.fairN t)) ∧ w' = w := by
  unfold maxLen at ht
  by_cases h3 : 3 < t.size
  · go_enter Try.func43, Try.ntmps43
    go_wp2
    go_ret
    exact ⟨ret_bool (fairN_no t h0 (Or.inl h3)).symm, rfl⟩
  · have HQ : Hid (¬ (t[0] = 48 ∧ 1 < t.size) ∨ (t[0] = 48 ∧ 1 < t.size)) := (Classical.em _).symm
    have h48 : (((t[0].toNat : Int) == 48) = (t[0] == 48)) := byte_eq t[0] 48
    have H48 : Hid (((t[0].toNat : Int) == 48) = (t[0] == 48)) := h48
    clear h48
    rcases HQ.out with hq | ⟨hq, h1⟩
    · have HQ2 : Hid (Est.fairN t = Est.digs t 0) := fairN_yes t h0 (by omega) hq
      have hqq : ((t[0].toNat : Int) == 48) = false ∨ (((t[0].toNat : Int) == 48) = true ∧ t.size = 1) := by
        rw [H48.out]
        by_cases e : t[0] = 48
        · exact Or.inr ⟨by simp [e], by have : ¬ 1 < t.size := fun h => hq ⟨e, h⟩; omega⟩
        · exact Or.inl (by simp [e])
      clear hq HQ H48
      rcases hqq with hqq | ⟨hqq, hone⟩
      all_goals
        try have hone' : ¬ (1 : Int) < (t.size : Int) := by omega
        try clear hone
        go_enter Try.func43, Try.ntmps43
        go_wp2
        go_loop [19] (fun i => ∃ k : Nat, k ≤ t.size ∧ i = .int .i64 k ∧ Est.digs t k = Est.digs t 0) (fun i => t.size - (intOf i).toNat)
        case atStart => exact ⟨0, Nat.zero_le _, rfl, rfl⟩
        case round =>
          obtain ⟨k, hk, rfl, hd⟩ := hrel
          have HD : Hid (Est.digs t k = Est.digs t 0) := hd
          clear hd
          by_cases hlt : k < t.size
          · by_cases hb : Est.dig t[k] = true
            · go_wp2_with ((go_at_call 42; refine (isDigit_any _ _).mono ?_; rintro e w' ⟨rfl, rfl⟩))
              go_round
              case rel => exact ⟨k + 1, by omega, by go_num, by rw [Est.digs_step t k hlt hb]; exact HD.out⟩
              case measure => simp [intOf]; omega
            · have hb' : Est.dig t[k] = false := by simpa using hb
              clear hb
              go_wp2_with ((go_at_call 42; refine (isDigit_any _ _).mono ?_; rintro e w' ⟨rfl, rfl⟩))
              go_ret
              exact ⟨ret_bool (by rw [HQ2.out, ← HD.out, Est.digs_stop t k hlt hb']), rfl⟩
          · go_wp2
            go_ret
            exact ⟨ret_bool (by rw [HQ2.out, ← HD.out, Est.digs_end t k hlt]), rfl⟩
    · have HQ2 : Hid (Est.fairN t = false) := fairN_no t h0 (Or.inr ⟨hq, h1⟩)
      have hqq : ((t[0].toNat : Int) == 48) = true := by rw [H48.out]; simp [hq]
      clear hq HQ H48
      go_enter Try.func43, Try.ntmps43
      go_wp2
      go_ret
      exact ⟨ret_bool HQ2.out.symm, rfl⟩

set_option maxHeartbeats 1000000 in
theorem isName_any (t : ByteArray) (w : World) (h0 : 0 < t.size) (ht : t.size ≤ maxLen) :
    Calls Try.prog 44 #[.string t] w fun e w' => e = .returned (.bool (Est.nameB t)) ∧ w' = w := by
  unfold maxLen at ht
  by_cases h4 : 4 < t.size
  · go_enter Try.func44, Try.ntmps44
    go_wp2
    go_ret
    exact ⟨ret_bool (by unfold Est.nameB; rw [decide_eq_false (show ¬ t.size ≤ 4 by omega)]; rfl), rfl⟩
  · cases hd0 : Est.dig t[0]
    · have HQ : Hid (Est.nameB t = Est.noUp t 1) := by unfold Hid Est.nameB; rw [decide_eq_true (show t.size ≤ 4 by omega), fst_eq t h0, hd0]; rfl
      go_enter Try.func44, Try.ntmps44
      go_wp2_with (first | (go_at_call 40; refine (isLower_any _ _).mono ?_; rintro e w' ⟨rfl, rfl⟩) | (go_at_call 41; refine (isUpper_any _ _).mono ?_; rintro e w' ⟨rfl, rfl⟩) | (go_at_call 42; refine (isDigit_any _ _).mono ?_; rintro e w' ⟨rfl, rfl⟩))
      go_loop [3] (fun i => ∃ k : Nat, 1 ≤ k ∧ i = .int .i64 k ∧ Est.noUp t k = Est.noUp t 1) (fun i => t.size - (intOf i).toNat)
      case atStart => exact ⟨1, by omega, rfl, rfl⟩
      case round =>
        obtain ⟨k, hk, rfl, hd⟩ := hrel
        have HD : Hid (Est.noUp t k = Est.noUp t 1) := hd
        clear hd
        by_cases hlt : k < t.size
        · cases hb : Est.upp t[k]
          · go_wp2_with (first | (go_at_call 40; refine (isLower_any _ _).mono ?_; rintro e w' ⟨rfl, rfl⟩) | (go_at_call 41; refine (isUpper_any _ _).mono ?_; rintro e w' ⟨rfl, rfl⟩) | (go_at_call 42; refine (isDigit_any _ _).mono ?_; rintro e w' ⟨rfl, rfl⟩))
            go_round
            case rel => exact ⟨k + 1, by omega, by go_num, by rw [Est.noUp_step t k hlt hb]; exact HD.out⟩
            case measure => simp [intOf]; omega
          · go_wp2_with (first | (go_at_call 40; refine (isLower_any _ _).mono ?_; rintro e w' ⟨rfl, rfl⟩) | (go_at_call 41; refine (isUpper_any _ _).mono ?_; rintro e w' ⟨rfl, rfl⟩) | (go_at_call 42; refine (isDigit_any _ _).mono ?_; rintro e w' ⟨rfl, rfl⟩))
            go_ret
            exact ⟨ret_bool (by rw [HQ.out, ← HD.out, Est.noUp_stop t k hlt hb]), rfl⟩
        · go_wp2
          go_ret
          exact ⟨ret_bool (by rw [HQ.out, ← HD.out, Est.noUp_end t k hlt]), rfl⟩
    · go_enter Try.func44, Try.ntmps44
      go_wp2_with (first | (go_at_call 40; refine (isLower_any _ _).mono ?_; rintro e w' ⟨rfl, rfl⟩) | (go_at_call 41; refine (isUpper_any _ _).mono ?_; rintro e w' ⟨rfl, rfl⟩) | (go_at_call 42; refine (isDigit_any _ _).mono ?_; rintro e w' ⟨rfl, rfl⟩))
      go_ret
      exact ⟨ret_bool (by unfold Est.nameB; rw [fst_eq t h0, hd0]; simp), rfl⟩

end Go.Proofs.Ytondkinefmjpjaa
