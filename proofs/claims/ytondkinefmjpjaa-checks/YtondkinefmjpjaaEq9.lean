/-
  Each variable of an atom is one of those that were found; Check is what the document asks.
-/
import Derived.Test.YtondkinefmjpjaaEq8
namespace Go.Proofs.Ytondkinefmjpjaa
open Go.RowKit

theorem bad_of {r : Est.Rd} (h : r.bad ≠ 0) : Bad r r.bad r.bat := ⟨rfl, rfl, h⟩

theorem tV_lt (s : ByteArray) (r : Est.Rd) (vars : List ByteArray) (h : (tR s r vars).bad = 0) : tV s r vars < ((tVars s r vars).length : Int) ∧ vars.length ≤ (tVars s r vars).length := by
  unfold tR at h
  unfold tV tVars
  cases h1 : r.isB 110
  · rw [h1] at h
    simp only [Bool.false_eq_true, if_false] at h ⊢
    by_cases h2 : (r.must s 118).bad = 0
    · simp only [h2, if_true]
      unfold vadd
      have hle : vix vars r.g.t ≤ vars.length := List.findIdx_le_length
      by_cases h3 : vix vars r.g.t < vars.length
      · rw [if_pos h3]; exact ⟨by omega, Nat.le_refl _⟩
      · rw [if_neg h3]; simp; omega
    · rw [if_neg h2] at h; exact absurd h h2
  · simp only [if_true]; exact ⟨by omega, Nat.le_refl _⟩

theorem tl_below (s : ByteArray) (n : Nat) (r : Est.Rd) (vars : List ByteArray) (ts : List Int) (h : ∀ t ∈ ts, t < (vars.length : Int)) (hb : (tl s n r vars ts).1.bad = 0) :
    (∀ t ∈ (tl s n r vars ts).2.2, t < ((tl s n r vars ts).2.1.length : Int)) ∧ vars.length ≤ (tl s n r vars ts).2.1.length := by
  induction n generalizing r vars ts with
  | zero => exact ⟨h, Nat.le_refl _⟩
  | succ n ih =>
    rw [tl.eq_def] at hb ⊢
    simp only at hb ⊢
    by_cases h0 : r.bad = 0
    · rw [if_pos h0] at hb ⊢
      have key := tV_lt s (if 3 ≤ ts.length then r.fail 3 r.g.a else r) vars
      generalize tR s (if 3 ≤ ts.length then r.fail 3 r.g.a else r) vars = R at *
      generalize tVars s (if 3 ≤ ts.length then r.fail 3 r.g.a else r) vars = V at *
      generalize tV s (if 3 ≤ ts.length then r.fail 3 r.g.a else r) vars = Z at *
      have fine : R.bad = 0 → ∀ t ∈ ts ++ [Z], t < (V.length : Int) := fun hR t ht => by
        obtain ⟨k1, k2⟩ := key hR
        rcases List.mem_append.1 ht with h' | h'
        · have := h t h'; omega
        · have : t = Z := by simpa using h'
          omega
      cases h4 : R.isB 44
      · rw [h4] at hb
        simp only [Bool.false_eq_true, if_false] at hb ⊢
        exact ⟨fine hb, (key hb).2⟩
      · rw [h4] at hb
        simp only [if_true] at hb ⊢
        have hR : R.bad = 0 := by
          apply Decidable.byContradiction; intro hne
          rw [(bad_of hne).isB] at h4; cases h4
        obtain ⟨i1, i2⟩ := ih _ V _ (fine hR) hb
        exact ⟨i1, Nat.le_trans (key hR).2 i2⟩
    · rw [if_neg h0]; exact ⟨h, Nat.le_refl _⟩

def InV (x : Est.Rd × List ByteArray × List PA) : Prop := ∀ d ∈ x.2.2, ∀ t ∈ d.vs, t < (x.2.1.length : Int)
theorem step_lt (s : ByteArray) (x : Est.Rd × List ByteArray × List PA) (h : InV x) (hb : (aStep s x).1.bad = 0) : InV (aStep s x) := by
  have h1 : (aT s x.1 x.2.2.length x.2.1).1.bad = 0 := by
    apply Decidable.byContradiction; intro hne
    have B : Bad (aStep s x).1 _ _ := (bad_of hne).fin
    exact B.ne (B.eq.symm.trans hb)
  obtain ⟨k1, k2⟩ := tl_below s 5 (aR3 s x.1 x.2.2.length) x.2.1 [] (by simp) h1
  intro d hd t ht
  rcases List.mem_append.1 hd with h' | h'
  · have := h d h' t ht
    show t < ((tl s 5 (aR3 s x.1 x.2.2.length) x.2.1 []).2.1.length : Int)
    omega
  · have : d = _ := List.mem_singleton.1 h'
    subst this
    exact k1 t ht
theorem al_lt (s : ByteArray) (n : Nat) (x : Est.Rd × List ByteArray × List PA) (h : InV x) (hb : (al s n x).1.bad = 0) : InV (al s n x) := by
  induction n generalizing x with
  | zero => exact h
  | succ n ih =>
    unfold al at hb ⊢
    cases h4 : x.1.isB 44
    · simp only [Bool.false_eq_true, if_false]; exact h
    · rw [h4] at hb
      simp only [if_true] at hb ⊢
      refine ih _ (step_lt s _ h ?_) hb
      apply Decidable.byContradiction; intro hne
      have B := bad_of hne
      rw [B.al] at hb
      exact hne hb
theorem TA_lt (s : ByteArray) (h : (TA s).1.bad = 0) : InV (TA s) := by
  unfold TA at h ⊢
  refine al_lt s 5 _ (step_lt s _ (fun d hd => by simp at hd) ?_) h
  apply Decidable.byContradiction; intro hne
  rw [(bad_of hne).al] at h
  exact hne h

theorem rq_vars6 (s : ByteArray) : (rq s (c0 s)).2.vars.length ≤ 6 := by
  obtain ⟨v1, v2, hok⟩ := rdH_keep s (c0 s) (OkC.piece s 0 (Nat.zero_le _))
  have v1 : (rdH s (c0 s)).2.vars = [] := v1
  have hh : (rdH s (c0 s)).2.vars.length ≤ 6 := by rw [v1]; decide
  have hl := (la_ok s (5 - (c0 s).ats.length) (c := cw s (rdH s (c0 s)).2 8) (hok.tp 8) hh).2
  unfold rq
  split
  · split
    · split
      · split
        · exact hl
        · exact hl
      · exact hl
    · exact hh
  · exact hh

theorem cyc_plain (X : Est.Rd × List ByteArray × List PA) (ats : List CA) (f2 : ALL X.2.2 ats) (hI : InV X) (h6 : X.2.1.length ≤ 6) :
    mtI (ats.length - 1) (ats.map CA.set) (List.range ats.length) = !cycP X.2.1.length X.2.2 (X.2.2.length - 1) (List.replicate X.2.2.length true) := by
  have hP : ∀ i (hi : i < X.2.2.length) v, hasP X.2.2 i v = anyV X.2.2[i].vs v := fun i hi v => by
    unfold hasP anyV; simp [hi]
  have hlen := f2.len
  have core := cyc_core X.2.1.length X.2.2 (ats.map CA.set) (by omega)
    (fun i hi => by
      have := (f2.el i hi (by omega)).set
      rw [show (ats.map CA.set).getD i 0 = (ats[i]'(by omega)).set by simp [List.getD, show i < ats.length by omega]]
      exact this.congr fun v _ => (hP i hi v).symm)
    (fun i hi v hv => by
      rw [hP i hi v]
      unfold anyV
      rw [List.any_eq_false]
      intro t ht e
      have := hI _ (List.getElem_mem hi) t ht
      have := beq_iff_eq.1 e
      omega)
    (X.2.2.length - 1) (List.replicate X.2.2.length true) (by simp)
  rw [← core]
  have hi : idxs X.2.2.length (List.replicate X.2.2.length true) = List.range X.2.2.length := by
    unfold idxs
    refine List.filter_eq_self.2 fun i hi => ?_
    have := List.mem_range.1 hi
    simp [List.getD, this]
  rw [hi, hlen]

theorem cyc_said : CycSaid := by
  intro s hq
  obtain ⟨z, f1, f2, f3, f4⟩ := (query_all s).1 hq
  have hTA : (TA s).1.bad = 0 := by
    apply Decidable.byContradiction; intro hne
    have B := bad_of hne
    have : Bad (rE s) (TA s).1.bad (TA s).1.bat := by unfold rE; rw [B.must, if_neg (fun x => hne x.1)]; exact B
    exact this.ne (this.eq.symm.trans z)
  have hI := TA_lt s hTA
  have h6 := rq_vars6 s
  rw [← f1] at h6
  exact cyc_plain (TA s) _ f2 hI h6

/-- The program's Check answers what the document's Parse does. -/
theorem Check_said : CheckSaid := check_said cyc_said

end Go.Proofs.Ytondkinefmjpjaa
