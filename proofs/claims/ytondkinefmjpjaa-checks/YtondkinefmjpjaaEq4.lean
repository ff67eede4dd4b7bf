/-
  The terms of an atom.
-/
import Derived.Test.YtondkinefmjpjaaEq3
namespace Go.Proofs.Ytondkinefmjpjaa
open Go.RowKit

def anyV (ts : List Int) (v : Nat) : Bool := ts.any fun t => t == (v : Int)
theorem anyV_snoc (ts : List Int) (z : Int) (v : Nat) : anyV (ts ++ [z]) v = (anyV ts v || z == (v : Int)) := by simp [anyV]
theorem vix_eq (vars : List ByteArray) (t : ByteArray) : vix vars t = vars.findIdx (fun v => t.toList == v.toList) := by
  unfold vix; congr 1; funext v; exact BEq.comm

/-- The document's look at the number of terms. -/
def t3 (r : Est.Rd) (ts : List Int) : Est.Rd := if 3 ≤ ts.length then r.fail 3 r.g.a else r

theorem term_one (s : ByteArray) (r : Est.Rd) (p : Est.Pc) (vars : List ByteArray) (e a : Nat) (x : CA) (ts : List Int) (h : At s r p) (hx : x.n = ts.length) (h3 : x.n ≤ 3) (hv : vars.length ≤ 6) (hS : SR x.set (anyV ts)) :
    ((trR s p vars e a x).ok = true → At s (tR s (t3 r ts) vars) (trR s p vars e a x).p ∧ tVars s (t3 r ts) vars = (trR s p vars e a x).vars ∧ (trR s p vars e a x).x.n = ts.length + 1 ∧ ts.length < 3 ∧ (trR s p vars e a x).x.rel = x.rel ∧ SR (trR s p vars e a x).x.set (anyV (ts ++ [tV s (t3 r ts) vars])) ∧ (trR s p vars e a x).vars.length ≤ 6) ∧
    ((trR s p vars e a x).ok = false → Bad (tR s (t3 r ts) vars) (trR s p vars e a x).e (trR s p vars e a x).a) := by
  unfold trR
  by_cases h4 : x.n = 3
  · have B := h.fail 3 r.g.a (by decide)
    have ht3 : t3 r ts = r.fail 3 r.g.a := by unfold t3; rw [if_pos (by omega)]
    rw [if_pos h4, ht3]
    have hT : tR s (r.fail 3 r.g.a) vars = r.fail 3 r.g.a := by
      unfold tR; rw [B.isB, B.must]; simp only [Bool.false_eq_true, if_false]; rw [if_neg (by rw [B.eq]; decide)]
    refine ⟨fun x => by simp at x, fun _ => ?_⟩
    rw [hT]
    have ha := h.sim.a
    rw [ha] at B ⊢; exact B
  · have ht3 : t3 r ts = r := by unfold t3; rw [if_neg (by omega)]
    rw [if_neg h4, ht3]
    have hlt : ts.length < 3 := by omega
    have hB : r.isB 110 = tk p 4 := h.isB 4 (by decide)
    unfold tR tVars tV avR
    rw [hB]
    cases k4 : tk p 4
    · simp only [Bool.false_eq_true, if_false]
      cases k2 : tk p 2
      · have B : Bad (r.must s 118) 2 p.a := h.mustNot 2 (by decide) k2
        have hn : ¬ (r.must s 118).bad = 0 := by rw [B.eq]; decide
        simp only [Bool.false_eq_true, if_false, hn]
        exact ⟨fun x => by simp at x, fun _ => B⟩
      · have A1 : At s (r.must s 118) (pnext s p) := (h.must 2 (by decide) (by decide) k2).2
        have hk : p.k = 2 := of_decide_eq_true k2
        obtain ⟨t1, _⟩ := h.sim.t (by omega)
        have ha := h.sim.a
        simp only [A1.z, if_true]
        unfold vrd vadd ixOf
        rw [t1, ha, vix_eq]
        by_cases hf : vars.findIdx (fun v => p.t.toList == v.toList) < vars.length
        · simp only [hf, if_true, Int.natCast_nonneg, Int.toNat_natCast]
          refine ⟨fun _ => ⟨A1, trivial, by omega, hlt, trivial, ?_, hv⟩, fun x => by simp at x⟩
          refine (hS.setBit _ (by omega)).congr fun v _ => ?_
          rw [anyV_snoc]
          congr 1
          rw [Bool.eq_iff_iff]; simp; omega
        · simp only [hf, if_false, show ¬ (0 : Int) ≤ -1 by omega]
          by_cases h6 : vars.length = 6
          · simp only [h6, if_true, Nat.le_refl]
            exact ⟨fun x => by simp at x, fun _ => A1.fail 3 _ (by decide)⟩
          · have : ¬ 6 ≤ vars.length := by omega
            simp only [h6, this, if_false]
            refine ⟨fun _ => ⟨A1, trivial, by omega, hlt, trivial, ?_, by simp; omega⟩, fun x => by simp at x⟩
            have hfe : vars.findIdx (fun v => p.t.toList == v.toList) = vars.length := by
              have := List.findIdx_le_length (xs := vars) (p := fun v => p.t.toList == v.toList); omega
            refine (hS.setBit _ (by omega)).congr fun v _ => ?_
            rw [anyV_snoc, hfe]
            congr 1
            rw [Bool.eq_iff_iff]; simp; omega
    · simp only [if_true]
      refine ⟨fun _ => ⟨h.next 4 k4 (by decide), trivial, by omega, hlt, trivial, ?_, hv⟩, fun x => by simp at x⟩
      refine hS.congr fun v _ => ?_
      rw [anyV_snoc, show ((-1 : Int) == (v : Int)) = false from beq_eq_false_iff_ne.2 (by omega), Bool.or_false]

theorem terms_all (s : ByteArray) (n : Nat) (r : Est.Rd) (p : Est.Pc) (vars : List ByteArray) (e a : Nat) (x : CA) (ts : List Int) (h : At s r p) (hx : x.n = ts.length) (hn : x.n + n = 4) (h1 : 1 ≤ n) (hv : vars.length ≤ 6) (hS : SR x.set (anyV ts)) :
    ((ltR s n p vars e a x).ok = true → At s (tl s (n + 1) r vars ts).1 (ltR s n p vars e a x).p ∧ (tl s (n + 1) r vars ts).2.1 = (ltR s n p vars e a x).vars ∧ (ltR s n p vars e a x).x.n = (tl s (n + 1) r vars ts).2.2.length ∧ (ltR s n p vars e a x).x.rel = x.rel ∧ SR (ltR s n p vars e a x).x.set (anyV (tl s (n + 1) r vars ts).2.2) ∧ (ltR s n p vars e a x).vars.length ≤ 6) ∧
    ((ltR s n p vars e a x).ok = false → Bad (tl s (n + 1) r vars ts).1 (ltR s n p vars e a x).e (ltR s n p vars e a x).a) := by
  induction n generalizing r p vars e a x ts with
  | zero => omega
  | succ n ih =>
    obtain ⟨o1, o2⟩ := term_one s r p vars e a x ts h hx (by omega) hv hS
    unfold ltR
    rw [tl.eq_def]
    simp only [h.z, if_true]
    change (_ → At s (if (tR s (t3 r ts) vars).isB 44 = true then tl s (n + 1) ((tR s (t3 r ts) vars).is s 44) (tVars s (t3 r ts) vars) (ts ++ [tV s (t3 r ts) vars]) else (tR s (t3 r ts) vars, tVars s (t3 r ts) vars, ts ++ [tV s (t3 r ts) vars])).1 _ ∧ (if (tR s (t3 r ts) vars).isB 44 = true then tl s (n + 1) ((tR s (t3 r ts) vars).is s 44) (tVars s (t3 r ts) vars) (ts ++ [tV s (t3 r ts) vars]) else (tR s (t3 r ts) vars, tVars s (t3 r ts) vars, ts ++ [tV s (t3 r ts) vars])).2.1 = _ ∧ _ = (if (tR s (t3 r ts) vars).isB 44 = true then tl s (n + 1) ((tR s (t3 r ts) vars).is s 44) (tVars s (t3 r ts) vars) (ts ++ [tV s (t3 r ts) vars]) else (tR s (t3 r ts) vars, tVars s (t3 r ts) vars, ts ++ [tV s (t3 r ts) vars])).2.2.length ∧ _ ∧ SR _ (anyV (if (tR s (t3 r ts) vars).isB 44 = true then tl s (n + 1) ((tR s (t3 r ts) vars).is s 44) (tVars s (t3 r ts) vars) (ts ++ [tV s (t3 r ts) vars]) else (tR s (t3 r ts) vars, tVars s (t3 r ts) vars, ts ++ [tV s (t3 r ts) vars])).2.2) ∧ _) ∧ (_ → Bad (if (tR s (t3 r ts) vars).isB 44 = true then tl s (n + 1) ((tR s (t3 r ts) vars).is s 44) (tVars s (t3 r ts) vars) (ts ++ [tV s (t3 r ts) vars]) else (tR s (t3 r ts) vars, tVars s (t3 r ts) vars, ts ++ [tV s (t3 r ts) vars])).1 _ _)
    generalize trR s p vars e a x = T at o1 o2 ⊢
    generalize tR s (t3 r ts) vars = R at o1 o2 ⊢
    generalize tVars s (t3 r ts) vars = V at o1 o2 ⊢
    generalize tV s (t3 r ts) vars = Z at o1 o2 ⊢
    cases hb : T.ok
    · have B := o2 hb
      rw [B.isB]
      simp only [Bool.false_eq_true, if_false]
      exact ⟨fun x => by rw [hb] at x; simp at x, fun _ => B⟩
    · obtain ⟨A, e1, e2, e3, e4, e5, e6⟩ := o1 hb
      subst e1
      have hB : R.isB 44 = tk T.p 7 := A.isB 7 (by decide)
      rw [hB]
      cases ht : tk T.p 7
      · simp only [Bool.false_eq_true, if_false, if_true]
        exact ⟨fun _ => ⟨A, trivial, by rw [e2]; simp, e4, e5, e6⟩, fun x => by rw [hb] at x; simp at x⟩
      · simp only [if_true]
        have A2 : At s (R.is s 44) (tp s T.p 7) := A.is 7 (by decide) (by decide) ht
        rw [← e4]
        exact ih (R.is s 44) (tp s T.p 7) T.vars T.e T.a T.x (ts ++ [Z]) A2 (by rw [e2]; simp) (by omega) (by omega) e6 e5

end Go.Proofs.Ytondkinefmjpjaa
