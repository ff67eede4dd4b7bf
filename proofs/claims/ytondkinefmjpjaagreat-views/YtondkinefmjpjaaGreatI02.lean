import Derived.Test.YtondkinefmjpjaaGreatI01
set_option maxHeartbeats 4000000
namespace Go.Proofs.YtondkinefmjpjaaGreat.K
open Go.RowKit
theorem blank_iff (c:UInt8):Est.blank c = (((c.toNat:Int) == 32) || ((c.toNat:Int) == 10)):=by
 unfold Est.blank;rw [Bool.eq_iff_iff];simp [← UInt8.toNat_inj];omega
theorem punct_iff (c:UInt8):Est.punct c = (((((c.toNat:Int) == 40) || ((c.toNat:Int) == 41)) || ((c.toNat:Int) == 44)) || ((c.toNat:Int) == 58) || ((c.toNat:Int) == 46)):=by
 unfold Est.punct;rw [Bool.eq_iff_iff];simp [← UInt8.toNat_inj];omega
theorem sign_bad (s:ByteArray) (i k j:Nat) (hk:Est.skip s i = k) (hlt:k < s.size) (he:Est.wend s k = j) (h:k < j) (hf:Est.fair (Est.wkind (s.extract k j)) (s.extract k j) = false):Est.sign s i = ⟨63,ByteArray.empty,k,k⟩:=by
 subst hk;subst he
 unfold Est.sign;rw [dif_pos hlt,if_pos h,hf];rfl
theorem sign_word (s:ByteArray) (i k j:Nat) (hk:Est.skip s i = k) (hlt:k < s.size) (he:Est.wend s k = j) (h:k < j) (hf:Est.fair (Est.wkind (s.extract k j)) (s.extract k j) = true):Est.sign s i = ⟨Est.wkind (s.extract k j),s.extract k j,k,j⟩:=by
 subst hk;subst he
 unfold Est.sign;rw [dif_pos hlt,if_pos h,hf];rfl
theorem sign_punct (s:ByteArray) (i k:Nat) (hk:Est.skip s i = k) (hlt:k < s.size) (he:Est.wend s k = k) (hp:Est.punct s[k] = true):Est.sign s i = ⟨s[k],s.extract k (k + 1),k,k + 1⟩:=by
 subst hk
 unfold Est.sign;rw [dif_pos hlt,if_neg (by omega),if_pos hp]
theorem sign_none (s:ByteArray) (i k:Nat) (hk:Est.skip s i = k) (hlt:k < s.size) (he:Est.wend s k = k) (hp:Est.punct s[k] = false):Est.sign s i = ⟨63,ByteArray.empty,k,k⟩:=by
 subst hk
 unfold Est.sign;rw [dif_pos hlt,if_neg (by omega),if_neg (by simp [hp])]
theorem sign_any (s : ByteArray) (i : Nat) (w : World) (hs : s.size ≤ maxLen) (hi : i ≤ s.size) :
    Calls Tryz.prog 127 #[.string s, .int .i64 i] w fun e w' => e = .returned (.tuple #[.agg #[.int .u8 ((Est.sign s i).k.toNat : Int), .string (Est.sign s i).t, .int .i64 (Est.sign s i).a], .int .i64 (Est.sign s i).n]) ∧ Below w.heap.size w w' := by
  unfold maxLen at hs
  go_enter Tryz.func127, Tryz.ntmps127
  go_wp2
  go_loop [1] (fun v => ∃ k : Nat, k ≤ s.size ∧ v = .int .i64 k ∧ Est.skip s k = Est.skip s i) (fun v => s.size - (intOf v).toNat)
  case atStart => exact ⟨i, hi, rfl, rfl⟩
  case round =>
    obtain ⟨k, hk, rfl, hd⟩ := hrel
    have HD : Hid (Est.skip s k = Est.skip s i) := hd
    clear hd
    by_cases hlt : k < s.size
    · by_cases hb : Est.blank s[k] = true
      · have HB : Hid (Est.blank s[k] = true) := hb
        rw [blank_iff, Bool.or_eq_true] at hb
        rcases hb with hb | hb
        · go_wp2
          go_round
          case rel => exact ⟨k + 1, by omega, by go_num, by rw [Est.skip_step s k hlt HB.out]; exact HD.out⟩
          case measure => simp [intOf]; omega
        · by_cases hb2 : ((s[k].toNat : Int) == 32) = true
          · go_wp2
            go_round
            case rel => exact ⟨k + 1, by omega, by go_num, by rw [Est.skip_step s k hlt HB.out]; exact HD.out⟩
            case measure => simp [intOf]; omega
          · have hb3 : ((s[k].toNat : Int) == 32) = false := by simpa using hb2
            clear hb2
            go_wp2
            go_round
            case rel => exact ⟨k + 1, by omega, by go_num, by rw [Est.skip_step s k hlt HB.out]; exact HD.out⟩
            case measure => simp [intOf]; omega
      · have HB : Hid (Est.blank s[k] = false) := by simpa [Hid] using hb
        have hb1 : ((s[k].toNat : Int) == 32) = false := by have := HB.out; rw [blank_iff, Bool.or_eq_false_iff] at this; exact this.1
        have hb2 : ((s[k].toNat : Int) == 10) = false := by have := HB.out; rw [blank_iff, Bool.or_eq_false_iff] at this; exact this.2
        clear hb
        have HK : Hid (Est.skip s i = k) := by rw [Hid, ← HD.out, Est.skip_stop s k hlt HB.out]
        clear HD HB
        go_wp2
        go_loop [6] (fun v => ∃ j : Nat, k ≤ j ∧ j ≤ s.size ∧ v = .int .i64 j ∧ Est.wend s j = Est.wend s k) (fun v => s.size - (intOf v).toNat)
        case atStart => exact ⟨k, by omega, by omega, rfl, rfl⟩
        case round =>
          obtain ⟨j, hkj, hj, rfl, hd⟩ := hrel
          have HJ : Hid (Est.wend s j = Est.wend s k) := hd
          clear hd
          by_cases hjl : j < s.size
          · by_cases hc : Est.wrd s[j] = true
            · have HW : Hid (Est.wrd s[j] = true) := hc
              unfold Est.wrd at hc
              cases c1 : Est.low s[j]
              · cases c2 : Est.upp s[j]
                · have c3 : Est.dig s[j] = true := by simpa [c1, c2] using hc
                  clear hc
                  go_wp2_with (first | (go_at_call 162; refine (lower_any _ _).mono ?_; rintro e w' ⟨rfl, rfl⟩) | (go_at_call 163; refine (upper_any _ _).mono ?_; rintro e w' ⟨rfl, rfl⟩) | (go_at_call 164; refine (digit_any _ _).mono ?_; rintro e w' ⟨rfl, rfl⟩))
                  go_round
                  case rel => exact ⟨j + 1, by omega, by omega, by go_num, by rw [Est.wend_step s j hjl HW.out]; exact HJ.out⟩
                  case measure => simp [intOf]; omega
                · clear hc
                  go_wp2_with (first | (go_at_call 162; refine (lower_any _ _).mono ?_; rintro e w' ⟨rfl, rfl⟩) | (go_at_call 163; refine (upper_any _ _).mono ?_; rintro e w' ⟨rfl, rfl⟩) | (go_at_call 164; refine (digit_any _ _).mono ?_; rintro e w' ⟨rfl, rfl⟩))
                  go_round
                  case rel => exact ⟨j + 1, by omega, by omega, by go_num, by rw [Est.wend_step s j hjl HW.out]; exact HJ.out⟩
                  case measure => simp [intOf]; omega
              · clear hc
                go_wp2_with (first | (go_at_call 162; refine (lower_any _ _).mono ?_; rintro e w' ⟨rfl, rfl⟩) | (go_at_call 163; refine (upper_any _ _).mono ?_; rintro e w' ⟨rfl, rfl⟩) | (go_at_call 164; refine (digit_any _ _).mono ?_; rintro e w' ⟨rfl, rfl⟩))
                go_round
                case rel => exact ⟨j + 1, by omega, by omega, by go_num, by rw [Est.wend_step s j hjl HW.out]; exact HJ.out⟩
                case measure => simp [intOf]; omega
            · have HW : Hid (Est.wrd s[j] = false) := by simpa [Hid] using hc
              have hcc : Est.wrd s[j] = false := HW.out
              unfold Est.wrd at hcc
              rw [Bool.or_eq_false_iff, Bool.or_eq_false_iff] at hcc
              obtain ⟨⟨c1, c2⟩, c3⟩ := hcc
              have HE : Hid (Est.wend s k = j) := by rw [Hid, ← HJ.out, Est.wend_stop s j hjl HW.out]
              clear hc HJ HW
              by_cases hkj2 : k < j
              · have hz : 0 < (s.extract k j).size := by simp; omega
                have hzl : (s.extract k j).size ≤ maxLen := by simp [maxLen]; omega
                cases hu : Est.upp (s.extract k j)[0]
                · cases hd : Est.dig (s.extract k j)[0]
                  · skip
                    have hwk : Est.wkind (s.extract k j) = 118 := by unfold Est.wkind; rw [fst_eq _ hz]; simp [hu, hd]
                    have HWK := hwk; clear hwk; have HWK : Hid (Est.wkind (s.extract k j) = 118) := HWK
                    cases hf : Est.fairW (s.extract k j)
                    · go_wp2_with (first | (go_at_call 162; refine (lower_any _ _).mono ?_; rintro e w' ⟨rfl, rfl⟩) | (go_at_call 163; refine (upper_any _ _).mono ?_; rintro e w' ⟨rfl, rfl⟩) | (go_at_call 164; refine (digit_any _ _).mono ?_; rintro e w' ⟨rfl, rfl⟩) | (go_at_call 165; refine (fair_word 118 _ _ (by decide) hzl).mono ?_; rintro e w' ⟨rfl, rfl⟩))
                      refine bodyPost_ret (v := .tuple #[.agg #[.int .u8 63, .string ⟨#[]⟩, .int .i64 k], .int .i64 k]) (by simp [results, Tryz.results127, go_sem]) rfl ⟨?_, (Below.refl _ _).alloc (Nat.le_refl _) _⟩
                      have e1 := sign_bad s i k j HK.out hlt HE.out hkj2 (by rw [HWK.out]; exact hf)
                      rw [e1]; rfl
                    · go_wp2_with (first | (go_at_call 162; refine (lower_any _ _).mono ?_; rintro e w' ⟨rfl, rfl⟩) | (go_at_call 163; refine (upper_any _ _).mono ?_; rintro e w' ⟨rfl, rfl⟩) | (go_at_call 164; refine (digit_any _ _).mono ?_; rintro e w' ⟨rfl, rfl⟩) | (go_at_call 165; refine (fair_word 118 _ _ (by decide) hzl).mono ?_; rintro e w' ⟨rfl, rfl⟩))
                      refine bodyPost_ret (v := .tuple #[.agg #[.int .u8 118, .string (s.extract k j), .int .i64 k], .int .i64 j]) (by simp [results, Tryz.results127, go_sem]) rfl ⟨?_, (Below.refl _ _).alloc (Nat.le_refl _) _⟩
                      have e1 := sign_word s i k j HK.out hlt HE.out hkj2 (by rw [HWK.out]; exact hf)
                      rw [e1, HWK.out]; rfl
                  · skip
                    have hwk : Est.wkind (s.extract k j) = 110 := by unfold Est.wkind; rw [fst_eq _ hz]; simp [hu, hd]
                    have HWK := hwk; clear hwk; have HWK : Hid (Est.wkind (s.extract k j) = 110) := HWK
                    cases hf : Est.fairN (s.extract k j)
                    · go_wp2_with (first | (go_at_call 162; refine (lower_any _ _).mono ?_; rintro e w' ⟨rfl, rfl⟩) | (go_at_call 163; refine (upper_any _ _).mono ?_; rintro e w' ⟨rfl, rfl⟩) | (go_at_call 164; refine (digit_any _ _).mono ?_; rintro e w' ⟨rfl, rfl⟩) | (go_at_call 165; refine (fair_num _ _ hz hzl).mono ?_; rintro e w' ⟨rfl, rfl⟩))
                      refine bodyPost_ret (v := .tuple #[.agg #[.int .u8 63, .string ⟨#[]⟩, .int .i64 k], .int .i64 k]) (by simp [results, Tryz.results127, go_sem]) rfl ⟨?_, (Below.refl _ _).alloc (Nat.le_refl _) _⟩
                      have e1 := sign_bad s i k j HK.out hlt HE.out hkj2 (by rw [HWK.out]; exact hf)
                      rw [e1]; rfl
                    · go_wp2_with (first | (go_at_call 162; refine (lower_any _ _).mono ?_; rintro e w' ⟨rfl, rfl⟩) | (go_at_call 163; refine (upper_any _ _).mono ?_; rintro e w' ⟨rfl, rfl⟩) | (go_at_call 164; refine (digit_any _ _).mono ?_; rintro e w' ⟨rfl, rfl⟩) | (go_at_call 165; refine (fair_num _ _ hz hzl).mono ?_; rintro e w' ⟨rfl, rfl⟩))
                      refine bodyPost_ret (v := .tuple #[.agg #[.int .u8 110, .string (s.extract k j), .int .i64 k], .int .i64 j]) (by simp [results, Tryz.results127, go_sem]) rfl ⟨?_, (Below.refl _ _).alloc (Nat.le_refl _) _⟩
                      have e1 := sign_word s i k j HK.out hlt HE.out hkj2 (by rw [HWK.out]; exact hf)
                      rw [e1, HWK.out]; rfl
                · skip
                  have hwk : Est.wkind (s.extract k j) = 114 := by unfold Est.wkind; rw [fst_eq _ hz]; simp [hu]
                  have HWK := hwk; clear hwk; have HWK : Hid (Est.wkind (s.extract k j) = 114) := HWK
                  cases hf : Est.fairW (s.extract k j)
                  · go_wp2_with (first | (go_at_call 162; refine (lower_any _ _).mono ?_; rintro e w' ⟨rfl, rfl⟩) | (go_at_call 163; refine (upper_any _ _).mono ?_; rintro e w' ⟨rfl, rfl⟩) | (go_at_call 164; refine (digit_any _ _).mono ?_; rintro e w' ⟨rfl, rfl⟩) | (go_at_call 165; refine (fair_word 114 _ _ (by decide) hzl).mono ?_; rintro e w' ⟨rfl, rfl⟩))
                    refine bodyPost_ret (v := .tuple #[.agg #[.int .u8 63, .string ⟨#[]⟩, .int .i64 k], .int .i64 k]) (by simp [results, Tryz.results127, go_sem]) rfl ⟨?_, (Below.refl _ _).alloc (Nat.le_refl _) _⟩
                    have e1 := sign_bad s i k j HK.out hlt HE.out hkj2 (by rw [HWK.out]; exact hf)
                    rw [e1]; rfl
                  · go_wp2_with (first | (go_at_call 162; refine (lower_any _ _).mono ?_; rintro e w' ⟨rfl, rfl⟩) | (go_at_call 163; refine (upper_any _ _).mono ?_; rintro e w' ⟨rfl, rfl⟩) | (go_at_call 164; refine (digit_any _ _).mono ?_; rintro e w' ⟨rfl, rfl⟩) | (go_at_call 165; refine (fair_word 114 _ _ (by decide) hzl).mono ?_; rintro e w' ⟨rfl, rfl⟩))
                    refine bodyPost_ret (v := .tuple #[.agg #[.int .u8 114, .string (s.extract k j), .int .i64 k], .int .i64 j]) (by simp [results, Tryz.results127, go_sem]) rfl ⟨?_, (Below.refl _ _).alloc (Nat.le_refl _) _⟩
                    have e1 := sign_word s i k j HK.out hlt HE.out hkj2 (by rw [HWK.out]; exact hf)
                    rw [e1, HWK.out]; rfl
              · have hkj3 : j = k := by omega
                subst hkj3
                cases hp : Est.punct s[j]
                · have hq := hp
                  rw [punct_iff] at hq
                  simp only [Bool.or_eq_false_iff] at hq
                  obtain ⟨⟨⟨⟨q1, q2⟩, q3⟩, q4⟩, q5⟩ := hq
                  have HP : Hid (Est.punct s[j] = false) := hp
                  clear hp
                  go_wp2_with (first | (go_at_call 162; refine (lower_any _ _).mono ?_; rintro e w' ⟨rfl, rfl⟩) | (go_at_call 163; refine (upper_any _ _).mono ?_; rintro e w' ⟨rfl, rfl⟩) | (go_at_call 164; refine (digit_any _ _).mono ?_; rintro e w' ⟨rfl, rfl⟩))
                  refine bodyPost_ret (v := .tuple #[.agg #[.int .u8 63, .string ⟨#[]⟩, .int .i64 j], .int .i64 j]) (by simp [results, Tryz.results127, go_sem]) rfl ⟨?_, (Below.refl _ _).alloc (Nat.le_refl _) _⟩
                  rw [sign_none s i j HK.out hlt HE.out HP.out]; rfl
                · have hq := hp
                  rw [punct_iff] at hq
                  have HP : Hid (Est.punct s[j] = true) := hp
                  have HQ : Hid ((((((s[j].toNat : Int) == 40) || ((s[j].toNat : Int) == 41)) || ((s[j].toNat : Int) == 44)) || ((s[j].toNat : Int) == 58) || ((s[j].toNat : Int) == 46)) = true) := hq
                  clear hp hq
                  go_wp2_with (first | (go_at_call 162; refine (lower_any _ _).mono ?_; rintro e w' ⟨rfl, rfl⟩) | (go_at_call 163; refine (upper_any _ _).mono ?_; rintro e w' ⟨rfl, rfl⟩) | (go_at_call 164; refine (digit_any _ _).mono ?_; rintro e w' ⟨rfl, rfl⟩))
                  all_goals first
                    | (exfalso; have hn : (((((s[j].toNat : Int) == 40) = false ∧ ((s[j].toNat : Int) == 41) = false) ∧ ((s[j].toNat : Int) == 44) = false) ∧ ((s[j].toNat : Int) == 58) = false) ∧ ((s[j].toNat : Int) == 46) = false := by assumption
                       have hq := HQ.out; rw [hn.1.1.1.1, hn.1.1.1.2, hn.1.1.2, hn.1.2, hn.2] at hq; cases hq)
                    | (refine bodyPost_ret (v := .tuple #[.agg #[.int .u8 (s[j].toNat : Int), .string (s.extract j (j + 1)), .int .i64 j], .int .i64 ((j : Int) + 1)]) (by simp [results, Tryz.results127, go_sem, *]) rfl ⟨?_, (Below.refl _ _).alloc (Nat.le_refl _) _⟩
                       rw [sign_punct s i j HK.out hlt HE.out HP.out]; simp)
          · have HE : Hid (Est.wend s k = j) := by rw [Hid, ← HJ.out, Est.wend_end s j hjl]
            clear HJ
            by_cases hkj2 : k < j
            · have hz : 0 < (s.extract k j).size := by simp; omega
              have hzl : (s.extract k j).size ≤ maxLen := by simp [maxLen]; omega
              cases hu : Est.upp (s.extract k j)[0]
              · cases hd : Est.dig (s.extract k j)[0]
                · skip
                  have hwk : Est.wkind (s.extract k j) = 118 := by unfold Est.wkind; rw [fst_eq _ hz]; simp [hu, hd]
                  have HWK := hwk; clear hwk; have HWK : Hid (Est.wkind (s.extract k j) = 118) := HWK
                  cases hf : Est.fairW (s.extract k j)
                  · go_wp2_with (first | (go_at_call 162; refine (lower_any _ _).mono ?_; rintro e w' ⟨rfl, rfl⟩) | (go_at_call 163; refine (upper_any _ _).mono ?_; rintro e w' ⟨rfl, rfl⟩) | (go_at_call 164; refine (digit_any _ _).mono ?_; rintro e w' ⟨rfl, rfl⟩) | (go_at_call 165; refine (fair_word 118 _ _ (by decide) hzl).mono ?_; rintro e w' ⟨rfl, rfl⟩))
                    refine bodyPost_ret (v := .tuple #[.agg #[.int .u8 63, .string ⟨#[]⟩, .int .i64 k], .int .i64 k]) (by simp [results, Tryz.results127, go_sem]) rfl ⟨?_, (Below.refl _ _).alloc (Nat.le_refl _) _⟩
                    have e1 := sign_bad s i k j HK.out hlt HE.out hkj2 (by rw [HWK.out]; exact hf)
                    rw [e1]; rfl
                  · go_wp2_with (first | (go_at_call 162; refine (lower_any _ _).mono ?_; rintro e w' ⟨rfl, rfl⟩) | (go_at_call 163; refine (upper_any _ _).mono ?_; rintro e w' ⟨rfl, rfl⟩) | (go_at_call 164; refine (digit_any _ _).mono ?_; rintro e w' ⟨rfl, rfl⟩) | (go_at_call 165; refine (fair_word 118 _ _ (by decide) hzl).mono ?_; rintro e w' ⟨rfl, rfl⟩))
                    refine bodyPost_ret (v := .tuple #[.agg #[.int .u8 118, .string (s.extract k j), .int .i64 k], .int .i64 j]) (by simp [results, Tryz.results127, go_sem]) rfl ⟨?_, (Below.refl _ _).alloc (Nat.le_refl _) _⟩
                    have e1 := sign_word s i k j HK.out hlt HE.out hkj2 (by rw [HWK.out]; exact hf)
                    rw [e1, HWK.out]; rfl
                · skip
                  have hwk : Est.wkind (s.extract k j) = 110 := by unfold Est.wkind; rw [fst_eq _ hz]; simp [hu, hd]
                  have HWK := hwk; clear hwk; have HWK : Hid (Est.wkind (s.extract k j) = 110) := HWK
                  cases hf : Est.fairN (s.extract k j)
                  · go_wp2_with (first | (go_at_call 162; refine (lower_any _ _).mono ?_; rintro e w' ⟨rfl, rfl⟩) | (go_at_call 163; refine (upper_any _ _).mono ?_; rintro e w' ⟨rfl, rfl⟩) | (go_at_call 164; refine (digit_any _ _).mono ?_; rintro e w' ⟨rfl, rfl⟩) | (go_at_call 165; refine (fair_num _ _ hz hzl).mono ?_; rintro e w' ⟨rfl, rfl⟩))
                    refine bodyPost_ret (v := .tuple #[.agg #[.int .u8 63, .string ⟨#[]⟩, .int .i64 k], .int .i64 k]) (by simp [results, Tryz.results127, go_sem]) rfl ⟨?_, (Below.refl _ _).alloc (Nat.le_refl _) _⟩
                    have e1 := sign_bad s i k j HK.out hlt HE.out hkj2 (by rw [HWK.out]; exact hf)
                    rw [e1]; rfl
                  · go_wp2_with (first | (go_at_call 162; refine (lower_any _ _).mono ?_; rintro e w' ⟨rfl, rfl⟩) | (go_at_call 163; refine (upper_any _ _).mono ?_; rintro e w' ⟨rfl, rfl⟩) | (go_at_call 164; refine (digit_any _ _).mono ?_; rintro e w' ⟨rfl, rfl⟩) | (go_at_call 165; refine (fair_num _ _ hz hzl).mono ?_; rintro e w' ⟨rfl, rfl⟩))
                    refine bodyPost_ret (v := .tuple #[.agg #[.int .u8 110, .string (s.extract k j), .int .i64 k], .int .i64 j]) (by simp [results, Tryz.results127, go_sem]) rfl ⟨?_, (Below.refl _ _).alloc (Nat.le_refl _) _⟩
                    have e1 := sign_word s i k j HK.out hlt HE.out hkj2 (by rw [HWK.out]; exact hf)
                    rw [e1, HWK.out]; rfl
              · skip
                have hwk : Est.wkind (s.extract k j) = 114 := by unfold Est.wkind; rw [fst_eq _ hz]; simp [hu]
                have HWK := hwk; clear hwk; have HWK : Hid (Est.wkind (s.extract k j) = 114) := HWK
                cases hf : Est.fairW (s.extract k j)
                · go_wp2_with (first | (go_at_call 162; refine (lower_any _ _).mono ?_; rintro e w' ⟨rfl, rfl⟩) | (go_at_call 163; refine (upper_any _ _).mono ?_; rintro e w' ⟨rfl, rfl⟩) | (go_at_call 164; refine (digit_any _ _).mono ?_; rintro e w' ⟨rfl, rfl⟩) | (go_at_call 165; refine (fair_word 114 _ _ (by decide) hzl).mono ?_; rintro e w' ⟨rfl, rfl⟩))
                  refine bodyPost_ret (v := .tuple #[.agg #[.int .u8 63, .string ⟨#[]⟩, .int .i64 k], .int .i64 k]) (by simp [results, Tryz.results127, go_sem]) rfl ⟨?_, (Below.refl _ _).alloc (Nat.le_refl _) _⟩
                  have e1 := sign_bad s i k j HK.out hlt HE.out hkj2 (by rw [HWK.out]; exact hf)
                  rw [e1]; rfl
                · go_wp2_with (first | (go_at_call 162; refine (lower_any _ _).mono ?_; rintro e w' ⟨rfl, rfl⟩) | (go_at_call 163; refine (upper_any _ _).mono ?_; rintro e w' ⟨rfl, rfl⟩) | (go_at_call 164; refine (digit_any _ _).mono ?_; rintro e w' ⟨rfl, rfl⟩) | (go_at_call 165; refine (fair_word 114 _ _ (by decide) hzl).mono ?_; rintro e w' ⟨rfl, rfl⟩))
                  refine bodyPost_ret (v := .tuple #[.agg #[.int .u8 114, .string (s.extract k j), .int .i64 k], .int .i64 j]) (by simp [results, Tryz.results127, go_sem]) rfl ⟨?_, (Below.refl _ _).alloc (Nat.le_refl _) _⟩
                  have e1 := sign_word s i k j HK.out hlt HE.out hkj2 (by rw [HWK.out]; exact hf)
                  rw [e1, HWK.out]; rfl
            · exact absurd hlt (by omega)
    · have HK : Hid (Est.skip s i = k) := by rw [Hid, ← HD.out, Est.skip_end s k hlt]
      clear HD
      go_wp2
      refine bodyPost_ret (v := .tuple #[.agg #[.int .u8 0, .string ⟨#[]⟩, .int .i64 k], .int .i64 k]) (by simp [results, Tryz.results127, go_sem]) rfl ⟨?_, (Below.refl _ _).alloc (Nat.le_refl _) _⟩
      have e1 : Est.sign s i = ⟨0, ByteArray.empty, k, k⟩ := by unfold Est.sign; rw [dif_neg (by rw [HK.out]; exact hlt), HK.out]
      rw [e1]; rfl
end Go.Proofs.YtondkinefmjpjaaGreat.K
