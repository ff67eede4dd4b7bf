import Derived.Test.YtondkinefmjpjaaCode1
namespace Go.Proofs.Ytondkinefmjpjaa
open Go.RowKit

set_option maxHeartbeats 1000000 in
theorem wordKind_any (t : ByteArray) (w : World) (h0 : 0 < t.size) (ht : t.size ≤ maxLen) :
    Calls Try.prog 24 #[.string t] w fun e w' => e = .returned (.int .i64 (Est.wordK t)) ∧ w' = w := by
  have ht' : t.size ≤ maxLen := ht
  have HT : Hid (t.size ≤ maxLen) := ht'
  unfold maxLen at ht
  clear ht'
  cases h1 : Est.fairN t
  · cases h2 : Est.nameB t
    · have HW : Hid (Est.wordK t = 0) := by unfold Hid Est.wordK; simp [h1, h2]
      go_enter Try.func24, Try.ntmps24
      go_wp2_with (first | (go_at_call 43; refine (isNumber_any _ _ h0 HT.out).mono ?_; rintro e w' ⟨rfl, rfl⟩) | (go_at_call 44; refine (isName_any _ _ h0 HT.out).mono ?_; rintro e w' ⟨rfl, rfl⟩))
      go_ret
      exact ⟨ret_i64 (by rw [HW.out]; rfl), rfl⟩
    · cases h3 : Est.low t[0]
      · have HW : Hid (Est.wordK t = 3) := by unfold Hid Est.wordK; rw [fst_eq t h0]; simp [h1, h2, h3]
        go_enter Try.func24, Try.ntmps24
        go_wp2_with (first | (go_at_call 43; refine (isNumber_any _ _ h0 HT.out).mono ?_; rintro e w' ⟨rfl, rfl⟩) | (go_at_call 44; refine (isName_any _ _ h0 HT.out).mono ?_; rintro e w' ⟨rfl, rfl⟩) | (go_at_call 40; refine (isLower_any _ _).mono ?_; rintro e w' ⟨rfl, rfl⟩))
        go_ret
        exact ⟨ret_i64 (by rw [HW.out]; rfl), rfl⟩
      · have HW : Hid (Est.wordK t = 2) := by unfold Hid Est.wordK; rw [fst_eq t h0]; simp [h1, h2, h3]
        go_enter Try.func24, Try.ntmps24
        go_wp2_with (first | (go_at_call 43; refine (isNumber_any _ _ h0 HT.out).mono ?_; rintro e w' ⟨rfl, rfl⟩) | (go_at_call 44; refine (isName_any _ _ h0 HT.out).mono ?_; rintro e w' ⟨rfl, rfl⟩) | (go_at_call 40; refine (isLower_any _ _).mono ?_; rintro e w' ⟨rfl, rfl⟩))
        go_ret
        exact ⟨ret_i64 (by rw [HW.out]; rfl), rfl⟩
  · have HW : Hid (Est.wordK t = 4) := by unfold Hid Est.wordK; simp [h1]
    go_enter Try.func24, Try.ntmps24
    go_wp2_with (first | (go_at_call 43; refine (isNumber_any _ _ h0 HT.out).mono ?_; rintro e w' ⟨rfl, rfl⟩) | (go_at_call 44; refine (isName_any _ _ h0 HT.out).mono ?_; rintro e w' ⟨rfl, rfl⟩))
    go_ret
    exact ⟨ret_i64 (by rw [HW.out]; rfl), rfl⟩

theorem signK_at (c : UInt8) : (Est.signK c : Int) = if ((c.toNat : Int) == 40) then 5 else if ((c.toNat : Int) == 41) then 6 else if ((c.toNat : Int) == 44) then 7 else if ((c.toNat : Int) == 58) then 8 else if ((c.toNat : Int) == 46) then 9 else 0 := by
  rw [show ((c.toNat : Int) == 40) = (c == 40) from byte_eq c 40, show ((c.toNat : Int) == 41) = (c == 41) from byte_eq c 41, show ((c.toNat : Int) == 44) = (c == 44) from byte_eq c 44, show ((c.toNat : Int) == 58) = (c == 58) from byte_eq c 58, show ((c.toNat : Int) == 46) = (c == 46) from byte_eq c 46]
  unfold Est.signK
  repeat' split
  all_goals rfl

set_option maxHeartbeats 1000000 in
theorem signKind_any (c : UInt8) (w : World) :
    Calls Try.prog 25 #[.int .u8 (c.toNat : Int)] w fun e w' => e = .returned (.int .i64 (Est.signK c)) ∧ w' = w := by
  have HS : Hid _ := signK_at c
  cases h1 : ((c.toNat : Int) == 40)
  · cases h2 : ((c.toNat : Int) == 41)
    · cases h3 : ((c.toNat : Int) == 44)
      · cases h4 : ((c.toNat : Int) == 58)
        · cases h5 : ((c.toNat : Int) == 46)
          all_goals
            go_enter Try.func25, Try.ntmps25
            go_wp2
            go_ret
            exact ⟨ret_i64 (by rw [HS.out, h1, h2, h3, h4, h5]; rfl), rfl⟩
        · go_enter Try.func25, Try.ntmps25
          go_wp2
          go_ret
          exact ⟨ret_i64 (by rw [HS.out, h1, h2, h3, h4]; rfl), rfl⟩
      · go_enter Try.func25, Try.ntmps25
        go_wp2
        go_ret
        exact ⟨ret_i64 (by rw [HS.out, h1, h2, h3]; rfl), rfl⟩
    · go_enter Try.func25, Try.ntmps25
      go_wp2
      go_ret
      exact ⟨ret_i64 (by rw [HS.out, h1, h2]; rfl), rfl⟩
  · go_enter Try.func25, Try.ntmps25
    go_wp2
    go_ret
    exact ⟨ret_i64 (by rw [HS.out, h1]; rfl), rfl⟩

set_option maxHeartbeats 1000000 in
theorem nextPiece_any (s : ByteArray) (i : Nat) (w : World) (hs : s.size ≤ maxLen) (hi : i ≤ s.size) :
    Calls Try.prog 14 #[.string s, .int .i64 i] w fun e w' => e = .returned (.agg #[.int .i64 (Est.piece s i).k, .string (Est.piece s i).t, .int .i64 (Est.piece s i).a]) ∧ Below w.heap.size w w' := by
  have HS : Hid (s.size ≤ maxLen) := hs
  unfold maxLen at hs
  obtain ⟨k, hk⟩ : ∃ k, Est.skip s i = k := ⟨_, rfl⟩
  have hkl : k ≤ s.size := by rw [← hk]; exact Est.skip_le s i hi
  have HK : Hid (Est.skip s i = k) := hk
  clear hk
  by_cases hlt : k < s.size
  · obtain ⟨j, hj⟩ : ∃ j, Est.wend s k = j := ⟨_, rfl⟩
    have hjl : j ≤ s.size := by rw [← hj]; exact Est.wend_le s k hkl
    have hkj : k ≤ j := by rw [← hj]; exact Est.wend_ge s k
    have HJ : Hid (Est.wend s k = j) := hj
    clear hj
    have hne : ((k : Int) == (s.size : Int)) = false := beq_eq_false_iff_ne.2 (by omega)
    by_cases hw : k < j
    · have HP : Hid (Est.piece s i = ⟨Est.wordK (s.extract k j), s.extract k j, k⟩) := by
        unfold Hid Est.piece
        rw [HK.out, dif_pos hlt, HJ.out, if_pos hw]
      have hz : 0 < (s.extract k j).size := by simp; omega
      have hzl : (s.extract k j).size ≤ maxLen := by simp [maxLen]; omega
      have HZ : Hid (0 < (s.extract k j).size ∧ (s.extract k j).size ≤ maxLen) := ⟨hz, hzl⟩
      clear hz hzl
      go_enter Try.func14, Try.ntmps14
      go_wp2_with (first | (go_at_call 22; refine (skipBlanks_any s i _ HS.out hi).mono ?_; rintro e w' ⟨rfl, rfl⟩; rw [HK.out]) | (go_at_call 23; refine (wordEnd_any s k _ HS.out hkl).mono ?_; rintro e w' ⟨rfl, rfl⟩; rw [HJ.out]) | (go_at_call 24; refine (wordKind_any _ _ HZ.out.1 HZ.out.2).mono ?_; rintro e w' ⟨rfl, rfl⟩))
      refine bodyPost_ret (v := .agg #[.int .i64 (Est.wordK (s.extract k j)), .string (s.extract k j), .int .i64 k]) (by simp [results, Try.results14, go_sem]) rfl ⟨?_, (Below.refl _ _).alloc (Nat.le_refl _) _⟩
      rw [HP.out]
    · have hjk : j = k := by omega
      subst hjk
      have HP : Hid (Est.piece s i = ⟨Est.signK s[j], s.extract j (j + 1), j⟩) := by
        unfold Hid Est.piece
        simp only [HK.out]
        rw [dif_pos hlt, HJ.out, if_neg hw]
      have h1 : (j : Int) < (s.size : Int) := by omega
      have h2 : ((j : Int) + 1) ≤ (s.size : Int) := by omega
      have hw1 : IntKind.i64.wrap ((j : Int) + 1) = (j : Int) + 1 := by rw [IntKind.wrap_i64]; omega
      have h3 : (0 : Int) ≤ (j : Int) + 1 := by omega
      have h4 : (j : Int) ≤ (j : Int) + 1 := by omega
      have hsl : ∀ W, (Instr.slice 9 (.string s) (some (.int .i64 (j : Int))) (some (.int .i64 ((j : Int) + 1))) none).run Try.prog W = .ok (.string (s.extract j (j + 1))) W := fun W => by
        have := run_slice_string (P := Try.prog) W 9 s .i64 .i64 (j : Int) ((j : Int) + 1) Try.underlying9 (by omega) (by omega) (by omega)
        simpa using this
      go_enter Try.func14, Try.ntmps14
      go_wp2_with (first | (go_at_call 22; refine (skipBlanks_any s i _ HS.out hi).mono ?_; rintro e w' ⟨rfl, rfl⟩; rw [HK.out]) | (go_at_call 23; refine (wordEnd_any s j _ HS.out hkl).mono ?_; rintro e w' ⟨rfl, rfl⟩; rw [HJ.out]))
      go_region_with (go_at_call 25; refine (signKind_any _ _).mono ?_; rintro e w' ⟨rfl, rfl⟩)
      all_goals go_wp2
      all_goals
        refine bodyPost_ret (v := .agg #[.int .i64 (Est.signK s[j]), .string (s.extract j (j + 1)), .int .i64 j]) (by simp [results, Try.results14, go_sem]) rfl ⟨?_, ?_⟩
        · rw [HP.out]
        · first | exact ((Below.refl _ _).alloc (Nat.le_refl _) _).drew | exact (Below.refl _ _).drew.alloc (Nat.le_refl _) _
  · have hne : ((k : Int) == (s.size : Int)) = true := beq_iff_eq.2 (by omega)
    have HP : Hid (Est.piece s i = ⟨1, ByteArray.empty, k⟩) := by
      unfold Hid Est.piece
      rw [HK.out, dif_neg hlt]
    go_enter Try.func14, Try.ntmps14
    go_wp2_with (go_at_call 22; refine (skipBlanks_any s i _ HS.out hi).mono ?_; rintro e w' ⟨rfl, rfl⟩; rw [HK.out])
    refine bodyPost_ret (v := .agg #[.int .i64 1, .string ⟨#[]⟩, .int .i64 k]) (by simp [results, Try.results14, go_sem]) rfl ⟨?_, (Below.refl _ _).alloc (Nat.le_refl _) _⟩
    rw [HP.out]; rfl

end Go.Proofs.Ytondkinefmjpjaa
