/-
  The document's scanner and the program's read the same pieces.
-/
import Derived.Test.YtondkinefmjpjaaModel2
import Derived.Test.YtondkinefmjpjaaModel3
namespace Est

theorem wend_wrd (s : ByteArray) (i j : Nat) (h1 : i ≤ j) (h2 : j < wend s i) (hj : j < s.size) : wrd s[j] = true := by
  by_cases h : i < s.size
  · cases b : wrd s[i]
    · rw [wend_stop s i h b] at h2; omega
    · by_cases e : i = j
      · subst e; exact b
      · exact wend_wrd s (i + 1) j (by omega) (by rw [wend_step s i h b]; exact h2) hj
  · omega

theorem upp_of {c : UInt8} (h : wrd c = true) : upp c = !(low c || dig c) := by
  have : ∀ n : Fin 256, wrd (UInt8.ofNat n) = true → upp (UInt8.ofNat n) = !(low (UInt8.ofNat n) || dig (UInt8.ofNat n)) := by decide +kernel
  have h' := this ⟨c.toNat, c.toNat_lt⟩
  simp only [UInt8.ofNat_toNat] at h'
  exact h' h
theorem dig_of {c : UInt8} (h : dig c = true) : upp c = false ∧ low c = false := by
  have : ∀ n : Fin 256, dig (UInt8.ofNat n) = true → upp (UInt8.ofNat n) = false ∧ low (UInt8.ofNat n) = false := by decide +kernel
  have h' := this ⟨c.toNat, c.toNat_lt⟩
  simp only [UInt8.ofNat_toNat] at h'
  exact h' h

theorem noUp_tail (w : ByteArray) (i : Nat) (h : ∀ j (hj : j < w.size), wrd w[j] = true) : noUp w i = tail w i := by
  by_cases hi : i < w.size
  · have hu := upp_of (h i hi)
    cases b : (low w[i] || dig w[i])
    · rw [tail_stop w i hi b, noUp_stop w i hi (by rw [hu, b]; rfl)]
    · rw [← tail_step w i hi b, ← noUp_step w i hi (by rw [hu, b]; rfl)]; exact noUp_tail w (i + 1) h
  · rw [tail_end w i hi, noUp_end w i hi]

/-- The document's byte for a kind of piece. -/
def kOf (k : Nat) : UInt8 := if k = 1 then 0 else if k = 2 then 118 else if k = 3 then 114 else if k = 4 then 110 else if k = 5 then 40 else if k = 6 then 41 else if k = 7 then 44 else if k = 8 then 58 else if k = 9 then 46 else 63

theorem word_eq (w : ByteArray) (h0 : 0 < w.size) (h : ∀ j (hj : j < w.size), wrd w[j] = true) :
    (fair (wkind w) w = true → kOf (wordK w) = wkind w ∧ wordK w ≠ 0) ∧ (fair (wkind w) w = false → wordK w = 0) ∧ wordK w ≤ 9 := by
  have hf : fst w = w[0] := by unfold fst; rw [dif_pos h0]
  have hw := h 0 h0
  have hu := upp_of hw
  rw [← hf] at hu hw
  have ht := noUp_tail w 1 h
  cases hd : dig (fst w)
  · have hN : fairN w = false := by unfold fairN; rw [digs_stop w 0 h0 (by rw [← hf]; exact hd)]; rfl
    rw [hd, Bool.or_false] at hu
    have hk : wkind w = if low (fst w) then 118 else 114 := by
      unfold wkind; rw [hu, hd]; cases low (fst w) <;> rfl
    have hF : fair (wkind w) w = nameB w := by
      unfold fair nameB fairW; rw [hk, hd, ht]
      cases low (fst w) <;> simp
    rw [hF, hk]
    unfold wordK
    rw [hN]
    cases nameB w <;> cases low (fst w) <;> simp [kOf]
  · obtain ⟨d1, d2⟩ := dig_of hd
    have hk : wkind w = 110 := by unfold wkind; rw [d1, hd]; rfl
    have hF : fair (wkind w) w = fairN w := by unfold fair; rw [hk]; rfl
    have hB : nameB w = false := by unfold nameB; rw [hd]; simp
    rw [hF, hk]
    unfold wordK
    rw [hB]
    cases fairN w <;> simp [kOf]

theorem punct_eq (c : UInt8) : (punct c = true → kOf (signK c) = c ∧ signK c ≠ 0) ∧ (punct c = false → signK c = 0) ∧ signK c ≤ 9 := by
  have : ∀ n : Fin 256, (punct (UInt8.ofNat n) = true → kOf (signK (UInt8.ofNat n)) = UInt8.ofNat n ∧ signK (UInt8.ofNat n) ≠ 0) ∧ (punct (UInt8.ofNat n) = false → signK (UInt8.ofNat n) = 0) ∧ signK (UInt8.ofNat n) ≤ 9 := by decide +kernel
  have h' := this ⟨c.toNat, c.toNat_lt⟩
  simp only [UInt8.ofNat_toNat] at h'
  exact h'

/-- The same piece, read by both. -/
structure Sim (g : Sg) (p : Pc) : Prop where
  k : g.k = kOf p.k
  le : p.k ≤ 9
  a : g.a = p.a
  t : p.k ≠ 0 → g.t = p.t ∧ g.n = p.a + p.t.size

theorem sim_at (s : ByteArray) (i : Nat) (hi : i ≤ s.size) : Sim (sign s i) (piece s i) := by
  have h1 := skip_le s i hi
  have h2 := wend_le s _ h1
  unfold sign piece
  by_cases hs : skip s i < s.size
  · rw [dif_pos hs, dif_pos hs]
    by_cases hw : skip s i < wend s (skip s i)
    · rw [if_pos hw, if_pos hw]
      have hsz : (s.extract (skip s i) (wend s (skip s i))).size = wend s (skip s i) - skip s i := by simp; omega
      obtain ⟨e1, e2, e3⟩ := word_eq (s.extract (skip s i) (wend s (skip s i))) (by omega) (fun j hj => by
        rw [ByteArray.getElem_extract]
        exact wend_wrd s (skip s i) _ (by omega) (by omega) _)
      cases hf : fair (wkind (s.extract (skip s i) (wend s (skip s i)))) (s.extract (skip s i) (wend s (skip s i)))
      · refine ⟨?_, e3, rfl, fun h => absurd (e2 hf) h⟩
        simp only [e2 hf]; rfl
      · refine ⟨(e1 hf).1.symm, e3, rfl, fun _ => ⟨rfl, ?_⟩⟩
        simp only [if_true]; omega
    · rw [if_neg hw, if_neg hw]
      obtain ⟨e1, e2, e3⟩ := punct_eq s[skip s i]
      cases hf : punct s[skip s i]
      · refine ⟨?_, e3, rfl, fun h => absurd (e2 hf) h⟩
        simp only [e2 hf]; rfl
      · refine ⟨(e1 hf).1.symm, e3, rfl, fun _ => ⟨rfl, ?_⟩⟩
        simp; omega
  · rw [dif_neg hs, dif_neg hs]
    exact ⟨rfl, by simp, rfl, fun _ => ⟨rfl, rfl⟩⟩

end Est
