/-
  An atom, and the atoms.
-/
import Derived.Test.YtondkinefmjpjaaEq4
namespace Go.Proofs.Ytondkinefmjpjaa
open Go.RowKit

/-- The same atom. -/
structure AE (d : PA) (x : CA) : Prop where
  rel : d.rel = x.rel
  n : x.n = d.vs.length
  set : SR x.set (anyV d.vs)
structure ALL (pl : List PA) (ats : List CA) : Prop where
  len : pl.length = ats.length
  el : ∀ i (h1 : i < pl.length) (h2 : i < ats.length), AE pl[i] ats[i]

theorem ALL.nil : ALL [] [] := ⟨rfl, fun _ h => absurd h (Nat.not_lt_zero _)⟩
theorem ALL.snoc {pl : List PA} {ats : List CA} (h : ALL pl ats) {d : PA} {x : CA} (k : AE d x) : ALL (pl ++ [d]) (ats ++ [x]) := by
  refine ⟨by simp [h.len], fun i h1 h2 => ?_⟩
  by_cases hi : i < pl.length
  · rw [List.getElem_append_left hi, List.getElem_append_left (by rw [← h.len]; exact hi)]; exact h.el i hi _
  · rw [List.getElem_append_right (by omega), List.getElem_append_right (by rw [← h.len]; omega)]
    simpa using k
theorem ALL.anyEq {pl : List PA} {ats : List CA} (h : ALL pl ats) (f : PA → Bool) (g : CA → Bool) (e : ∀ d x, AE d x → f d = g x) : pl.any f = ats.any g := by
  have : pl.map f = ats.map g := List.ext_getElem (by simp [h.len]) fun i h1 h2 => by
    simp only [List.getElem_map]
    exact e _ _ (h.el i (by simpa using h1) (by simpa using h2))
  have h1 : pl.any f = (pl.map f).any id := by simp [List.any_map]
  have h2 : ats.any g = (ats.map g).any id := by simp [List.any_map]
  rw [h1, h2, this]
theorem ALL.clash {pl : List PA} {ats : List CA} (h : ALL pl ats) (rel : ByteArray) (n : Nat) : pl.any (clashP rel n) = decide (0 ≤ oixOf ats rel n) := by
  rw [h.anyEq (clashP rel n) (oshape rel n) (fun d x k => by
    unfold clashP oshape; rw [k.rel, k.n]; congr 1; rw [Bool.eq_iff_iff]; simp; omega)]
  unfold oixOf
  by_cases hf : ats.findIdx (oshape rel n) < ats.length
  · rw [if_pos hf]
    obtain ⟨x, hx, hp⟩ := List.findIdx_lt_length.1 hf
    rw [decide_eq_true (by omega), List.any_eq_true]
    exact ⟨x, hx, hp⟩
  · rw [if_neg hf, decide_eq_false (by omega), List.any_eq_false]
    intro x hx hp
    exact hf (List.findIdx_lt_length.2 ⟨x, hx, hp⟩)

theorem Bad.tl {r : Est.Rd} {e a : Nat} (h : Bad r e a) (s : ByteArray) (n : Nat) (vars : List ByteArray) (ts : List Int) : tl s n r vars ts = (r, vars, ts) := by
  cases n with
  | zero => rfl
  | succ n => rw [Ytondkinefmjpjaa.tl.eq_def]; simp only; rw [if_neg (by rw [h.eq]; exact h.ne)]
theorem Bad.fin {s : ByteArray} {r : Est.Rd} {pl : List PA} {vars : List ByteArray} {e a : Nat} (h : Bad (aT s r pl.length vars).1 e a) : Bad (aFinP s r pl vars) e a := by
  unfold aFinP
  rw [h.must, h.fail, ite_self]; exact h
theorem Bad.fin3 {s : ByteArray} {r : Est.Rd} {pl : List PA} {vars : List ByteArray} {e a : Nat} (h : Bad (aR3 s r pl.length) e a) : Bad (aFinP s r pl vars) e a := by
  apply Bad.fin; unfold aT; rw [h.tl]; exact h

theorem atom_one (s : ByteArray) (c : CS) (r : Est.Rd) (pl : List PA) (h : At s r c.p) (hA : ALL pl c.ats) (ha : c.ats.length ≤ 4) (hv : c.vars.length ≤ 6) :
    ((raR s c).1 = true → At s (aFinP s r pl c.vars) (raR s c).2.p ∧ (aT s r pl.length c.vars).2.1 = (raR s c).2.vars ∧ ALL (pl ++ [⟨(aR1 r pl.length).g.t, (aT s r pl.length c.vars).2.2, r.g.a⟩]) (raR s c).2.ats ∧ (raR s c).2.vars.length ≤ 6 ∧ (raR s c).2.ats.length = c.ats.length + 1 ∧ c.ats.length < 4) ∧
    ((raR s c).1 = false → Bad (aFinP s r pl c.vars) (raR s c).2.e (raR s c).2.a) := by
  have hB : r.isB 114 = tk c.p 3 := h.isB 3 (by decide)
  have hsa := h.sim.a
  unfold raR
  cases k3 : tk c.p 3
  · simp only [Bool.false_eq_true, if_false]
    refine ⟨fun x => by simp at x, fun _ => ?_⟩
    have B : Bad (r.must s 114) 2 c.p.a := h.mustNot 3 (by decide) k3
    have := cw_no (s := s) k3
    rw [this.1, this.2]
    apply Bad.fin3
    have h1 : aR1 r pl.length = r := by unfold aR1; rw [hB, k3]; rfl
    unfold aR3; rw [h1, B.must]; exact B
  · simp only [if_true]
    by_cases h4 : c.ats.length = 4
    · rw [if_pos h4]
      refine ⟨fun x => by simp at x, fun _ => ?_⟩
      have B : Bad (r.fail 3 r.g.a) 3 c.p.a := by rw [hsa]; exact h.fail 3 _ (by decide)
      apply Bad.fin3
      have h1 : aR1 r pl.length = r.fail 3 r.g.a := by unfold aR1; rw [hB, k3, decide_eq_true (by rw [hA.len]; omega)]; rfl
      unfold aR3; rw [h1, B.must, B.must]; exact B
    · rw [if_neg h4]
      have h1 : aR1 r pl.length = r := by unfold aR1; rw [decide_eq_false (by rw [hA.len]; omega), Bool.and_false]; rfl
      have hk : c.p.k = 3 := of_decide_eq_true k3
      obtain ⟨t1, _⟩ := h.sim.t (by omega)
      have A1 : At s (r.must s 114) (ra3 s c).p := (h.must 3 (by decide) (by decide) k3).2
      cases k5 : tk (ra3 s c).p 5
      · simp only [Bool.false_eq_true, if_false]
        refine ⟨fun x => by simp at x, fun _ => ?_⟩
        have := cw_no (s := s) k5
        rw [this.1, this.2]
        apply Bad.fin3
        unfold aR3; rw [h1]
        exact A1.mustNot 5 (by decide) k5
      · simp only [if_true]
        have A2 : At s (aR3 s r pl.length) (cw s (ra3 s c) 5).p := by
          unfold aR3; rw [h1, cw_yes k5]; exact (A1.must 5 (by decide) (by decide) k5).2
        obtain ⟨o1, o2⟩ := terms_all s 4 (aR3 s r pl.length) (cw s (ra3 s c) 5).p c.vars (cw s (ra3 s c) 5).e (cw s (ra3 s c) 5).a (x0 c.p.t) [] A2 rfl rfl (by decide) hv SR.zero
        change ((raT s c).ok = true → At s (aT s r pl.length c.vars).1 (raT s c).p ∧ (aT s r pl.length c.vars).2.1 = (raT s c).vars ∧ (raT s c).x.n = (aT s r pl.length c.vars).2.2.length ∧ (raT s c).x.rel = c.p.t ∧ SR (raT s c).x.set (anyV (aT s r pl.length c.vars).2.2) ∧ (raT s c).vars.length ≤ 6) at o1
        change ((raT s c).ok = false → Bad (aT s r pl.length c.vars).1 (raT s c).e (raT s c).a) at o2
        cases ko : (raT s c).ok
        · simp only [Bool.false_eq_true, if_false]
          exact ⟨fun x => by simp at x, fun _ => (o2 ko).fin⟩
        · simp only [if_true]
          obtain ⟨A3, e1, e2, e3, e4, e5⟩ := o1 ko
          have hp : (raC3 s c).p = (raT s c).p := rfl
          cases k6 : tk (raT s c).p 6
          · simp only [Bool.false_eq_true, if_false]
            refine ⟨fun x => by simp at x, fun _ => ?_⟩
            have := cw_no (s := s) (c := raC3 s c) (k := 6) k6
            rw [this.1, this.2, hp]
            have B : Bad ((aT s r pl.length c.vars).1.must s 41) 2 (raT s c).p.a := A3.mustNot 6 (by decide) k6
            unfold aFinP
            rw [B.fail, ite_self]; exact B
          · simp only [if_true]
            have A4 : At s ((aT s r pl.length c.vars).1.must s 41) (pnext s (raT s c).p) := (A3.must 6 (by decide) (by decide) k6).2
            have hcw := cw_yes (s := s) (c := raC3 s c) (k := 6) k6
            have hcl := hA.clash (raT s c).x.rel (raT s c).x.n
            unfold aFinP
            rw [h1, t1, ← e3, ← e2, hcl]
            by_cases ho : 0 ≤ oixOf c.ats (raT s c).x.rel (raT s c).x.n
            · rw [if_pos ho, decide_eq_true ho]
              simp only [if_true]
              refine ⟨fun x => by simp at x, fun _ => ?_⟩
              rw [hsa]; exact A4.fail 6 _ (by decide)
            · rw [if_neg ho, decide_eq_false ho]
              simp only [Bool.false_eq_true, if_false]
              refine ⟨fun _ => ?_, fun x => by simp at x⟩
              rw [hcw]
              exact ⟨A4, e1, hA.snoc ⟨rfl, e2, e4⟩, e5, by simp, by omega⟩

end Go.Proofs.Ytondkinefmjpjaa
