import Derived.Test.YtondkinefmjpjaaProg
import Derived.Test.YtondkinefmjpjaaModel
import Derived.WalkKit
import Derived.WalkSpells
import Derived.WalkLawsBesides
namespace Go.Proofs.Ytondkinefmjpjaa
open Go.RowKit

theorem low_iff (c : UInt8) : Est.low c = (decide (97 ≤ (c.toNat : Int)) && decide ((c.toNat : Int) ≤ 122)) := by
  unfold Est.low; rw [Bool.eq_iff_iff]; simp [UInt8.le_iff_toNat_le]; omega
theorem upp_iff (c : UInt8) : Est.upp c = (decide (65 ≤ (c.toNat : Int)) && decide ((c.toNat : Int) ≤ 90)) := by
  unfold Est.upp; rw [Bool.eq_iff_iff]; simp [UInt8.le_iff_toNat_le]; omega
theorem dig_iff (c : UInt8) : Est.dig c = (decide (48 ≤ (c.toNat : Int)) && decide ((c.toNat : Int) ≤ 57)) := by
  unfold Est.dig; rw [Bool.eq_iff_iff]; simp [UInt8.le_iff_toNat_le]; omega
theorem ret_bool {a b : Bool} (h : a = b) : Ending.returned (.bool a) = .returned (.bool b) := by rw [h]

set_option maxHeartbeats 400000 in
theorem lower_any (c : UInt8) (w : World) :
    Calls Try.prog 34 #[.int .u8 (c.toNat : Int)] w fun e w' => e = .returned (.bool (Est.low c)) ∧ w' = w := by
  go_enter Try.func34, Try.ntmps34
  go_wp2
  all_goals go_ret
  · exact ⟨ret_bool (by rw [low_iff, decide_eq_true ‹97 ≤ (c.toNat : Int)›]; rfl), rfl⟩
  · exact ⟨ret_bool (by rw [low_iff, decide_eq_false (by omega)]; rfl), rfl⟩
set_option maxHeartbeats 400000 in
theorem upper_any (c : UInt8) (w : World) :
    Calls Try.prog 35 #[.int .u8 (c.toNat : Int)] w fun e w' => e = .returned (.bool (Est.upp c)) ∧ w' = w := by
  go_enter Try.func35, Try.ntmps35
  go_wp2
  all_goals go_ret
  · exact ⟨ret_bool (by rw [upp_iff, decide_eq_true ‹65 ≤ (c.toNat : Int)›]; rfl), rfl⟩
  · exact ⟨ret_bool (by rw [upp_iff, decide_eq_false (by omega)]; rfl), rfl⟩
set_option maxHeartbeats 400000 in
theorem digit_any (c : UInt8) (w : World) :
    Calls Try.prog 36 #[.int .u8 (c.toNat : Int)] w fun e w' => e = .returned (.bool (Est.dig c)) ∧ w' = w := by
  go_enter Try.func36, Try.ntmps36
  go_wp2
  all_goals go_ret
  · exact ⟨ret_bool (by rw [dig_iff, decide_eq_true ‹48 ≤ (c.toNat : Int)›]; rfl), rfl⟩
  · exact ⟨ret_bool (by rw [dig_iff, decide_eq_false (by omega)]; rfl), rfl⟩

theorem byte_ne (c : UInt8) (n : UInt8) : (!((c.toNat : Int) == (n.toNat : Int))) = (c != n) := by
  rw [Bool.eq_iff_iff]; simp [← UInt8.toNat_inj]; omega

theorem fst_eq (t : ByteArray) (h : 0 < t.size) : Est.fst t = t[0] := by unfold Est.fst; rw [dif_pos h]

set_option maxHeartbeats 800000 in
theorem fair_num (t : ByteArray) (w : World) (h0 : 0 < t.size) (ht : t.size ≤ maxLen) :
    Calls Try.prog 37 #[.int .u8 110, .string t] w fun e w' => e = .returned (.bool (Est.fairN t)) ∧ w' = w := by
  unfold maxLen at ht
  go_enter Try.func37, Try.ntmps37
  go_wp2
  go_loop [5] (fun i => ∃ k : Nat, k ≤ t.size ∧ i = .int .i64 k ∧ Est.digs t k = Est.digs t 0) (fun i => t.size - (intOf i).toNat)
  case atStart => exact ⟨0, Nat.zero_le _, rfl, rfl⟩
  case round =>
    obtain ⟨k, hk, rfl, hd⟩ := hrel
    have HD : Hid (Est.digs t k = Est.digs t 0) := hd
    clear hd
    by_cases hlt : k < t.size
    · by_cases hb : Est.dig t[k] = true
      · go_wp2_with (go_at_call 36; refine (digit_any _ _).mono ?_; rintro e w' ⟨rfl, rfl⟩)
        go_round
        case rel => exact ⟨k + 1, by omega, by go_num, by rw [Est.digs_step t k hlt hb]; exact HD.out⟩
        case measure => simp [intOf]; omega
      · have hb' : Est.dig t[k] = false := by simpa using hb
        clear hb
        go_wp2_with (go_at_call 36; refine (digit_any _ _).mono ?_; rintro e w' ⟨rfl, rfl⟩)
        go_ret
        exact ⟨ret_bool (by unfold Est.fairN; rw [← HD.out, Est.digs_stop t k hlt hb']; rfl), rfl⟩
    · have HF : Hid (Est.digs t 0 = true) := by rw [Hid, ← HD.out, Est.digs_end t k hlt]
      go_wp2
      all_goals go_ret
      · exact ⟨ret_bool (by unfold Est.fairN; rw [HF.out, decide_eq_true (by omega), decide_eq_true (by omega)]; rfl), rfl⟩
      · refine ⟨ret_bool ?_, rfl⟩
        have hz : ¬ t.size = 1 := by omega
        unfold Est.fairN
        rw [HF.out, decide_eq_true (show t.size ≤ 3 by omega), decide_eq_false hz, fst_eq t h0, ← byte_ne, beq_eq_false_iff_ne.2 (show ¬ (t.size : Int) = 1 by omega)]
        simp only [Bool.false_or, Bool.true_and, bne]
        rfl
      · exact ⟨ret_bool (by unfold Est.fairN; rw [HF.out, decide_eq_false (show ¬ t.size ≤ 3 by omega)]; rfl), rfl⟩

set_option maxHeartbeats 800000 in
theorem fair_word (c : Int) (t : ByteArray) (w : World) (hc : (c == 110) = false) (ht : t.size ≤ maxLen) :
    Calls Try.prog 37 #[.int .u8 c, .string t] w fun e w' => e = .returned (.bool (Est.fairW t)) ∧ w' = w := by
  unfold maxLen at ht
  by_cases h4 : t.size ≤ 4
  · go_enter Try.func37, Try.ntmps37
    go_wp2
    go_loop [6] (fun i => ∃ k : Nat, 1 ≤ k ∧ i = .int .i64 k ∧ Est.tail t k = Est.tail t 1) (fun i => t.size - (intOf i).toNat)
    case atStart => exact ⟨1, by omega, rfl, rfl⟩
    case round =>
      obtain ⟨k, hk, rfl, hd⟩ := hrel
      have HD : Hid (Est.tail t k = Est.tail t 1) := hd
      clear hd
      by_cases hlt : k < t.size
      · by_cases hb : (Est.low t[k] || Est.dig t[k]) = true
        · have HB : Hid ((Est.low t[k] || Est.dig t[k]) = true) := hb
          rw [Bool.or_eq_true] at hb
          rcases hb with hb | hb
          · go_wp2_with (first | (go_at_call 34; refine (lower_any _ _).mono ?_; rintro e w' ⟨rfl, rfl⟩) | (go_at_call 36; refine (digit_any _ _).mono ?_; rintro e w' ⟨rfl, rfl⟩))
            go_round
            case rel => exact ⟨k + 1, by omega, by go_num, by rw [Est.tail_step t k hlt HB.out]; exact HD.out⟩
            case measure => simp [intOf]; omega
          · by_cases hl : Est.low t[k] = true
            · go_wp2_with (first | (go_at_call 34; refine (lower_any _ _).mono ?_; rintro e w' ⟨rfl, rfl⟩) | (go_at_call 36; refine (digit_any _ _).mono ?_; rintro e w' ⟨rfl, rfl⟩))
              go_round
              case rel => exact ⟨k + 1, by omega, by go_num, by rw [Est.tail_step t k hlt HB.out]; exact HD.out⟩
              case measure => simp [intOf]; omega
            · have hl' : Est.low t[k] = false := by simpa using hl
              clear hl
              go_wp2_with (first | (go_at_call 34; refine (lower_any _ _).mono ?_; rintro e w' ⟨rfl, rfl⟩) | (go_at_call 36; refine (digit_any _ _).mono ?_; rintro e w' ⟨rfl, rfl⟩))
              go_round
              case rel => exact ⟨k + 1, by omega, by go_num, by rw [Est.tail_step t k hlt HB.out]; exact HD.out⟩
              case measure => simp [intOf]; omega
        · have HB : Hid ((Est.low t[k] || Est.dig t[k]) = false) := by simpa [Hid] using hb
          have hb1 : Est.low t[k] = false := by have := HB.out; rw [Bool.or_eq_false_iff] at this; exact this.1
          have hb2 : Est.dig t[k] = false := by have := HB.out; rw [Bool.or_eq_false_iff] at this; exact this.2
          clear hb
          go_wp2_with (first | (go_at_call 34; refine (lower_any _ _).mono ?_; rintro e w' ⟨rfl, rfl⟩) | (go_at_call 36; refine (digit_any _ _).mono ?_; rintro e w' ⟨rfl, rfl⟩))
          go_ret
          exact ⟨ret_bool (by unfold Est.fairW; rw [← HD.out, Est.tail_stop t k hlt HB.out, Bool.and_false]), rfl⟩
      · go_wp2
        go_ret
        exact ⟨ret_bool (by unfold Est.fairW; rw [← HD.out, Est.tail_end t k hlt, decide_eq_true h4]; rfl), rfl⟩
  · go_enter Try.func37, Try.ntmps37
    go_wp2
    go_ret
    exact ⟨ret_bool (by unfold Est.fairW; rw [decide_eq_false h4]; rfl), rfl⟩

end Go.Proofs.Ytondkinefmjpjaa
