/-
  The document's parser and the program's: one step at a time, then the head.
-/
import Derived.Test.YtondkinefmjpjaaEq1
import Derived.Test.YtondkinefmjpjaaPar3
import Derived.Test.YtondkinefmjpjaaCode15
namespace Go.Proofs.Ytondkinefmjpjaa
open Go.RowKit

/-- Both stand at the same piece, with no fault. -/
structure At (s : ByteArray) (r : Est.Rd) (p : Est.Pc) : Prop where
  z : r.bad = 0
  sim : Est.Sim r.g p
  ok : OkC s p
/-- The document's parser has told this fault. -/
structure Bad (r : Est.Rd) (e a : Nat) : Prop where
  eq : r.bad = e
  pl : r.bat = a
  ne : e ≠ 0

theorem kOf_inj : ∀ i j : Nat, i ≤ 9 → j ≤ 9 → Est.kOf i = Est.kOf j → i = j := by
  have : ∀ i j : Fin 10, Est.kOf i = Est.kOf j → i = j := by decide +kernel
  intro i j hi hj h
  have := this ⟨i, by omega⟩ ⟨j, by omega⟩ h
  exact Fin.mk.inj this

section
variable {s : ByteArray} {r : Est.Rd} {p : Est.Pc} {e a : Nat}
theorem At.isB (h : At s r p) (k : Nat) (hk : k ≤ 9) : r.isB (Est.kOf k) = tk p k := by
  unfold Est.Rd.isB tk
  rw [h.z, h.sim.k]
  by_cases e : p.k = k
  · simp [e]
  · have : Est.kOf p.k ≠ Est.kOf k := fun x => e (kOf_inj _ _ h.sim.le hk x)
    simp [e, this]
theorem At.next (h : At s r p) (k : Nat) (hk : tk p k = true) (h0 : k ≠ 0) : At s (r.next s) (pnext s p) := by
  have e : p.k = k := of_decide_eq_true hk
  obtain ⟨_, t2⟩ := h.sim.t (by omega)
  refine ⟨h.z, ?_, h.ok.next⟩
  show Est.Sim (Est.sign s r.g.n) (Est.piece s (p.a + p.t.size))
  rw [t2]; exact Est.sim_at s _ h.ok.1
theorem At.must (h : At s r p) (k : Nat) (hk : k ≤ 9) (h0 : k ≠ 0) (hy : tk p k = true) : r.must s (Est.kOf k) = r.next s ∧ At s (r.must s (Est.kOf k)) (pnext s p) := by
  have : r.must s (Est.kOf k) = r.next s := by unfold Est.Rd.must; rw [h.isB k hk, hy]; rfl
  exact ⟨this, by rw [this]; exact h.next k hy h0⟩
theorem At.fail (h : At s r p) (e a : Nat) (he : e ≠ 0) : Bad (r.fail e a) e a := by
  unfold Est.Rd.fail; rw [if_pos h.z]; exact ⟨rfl, rfl, he⟩
theorem At.mustNot (h : At s r p) (k : Nat) (hk : k ≤ 9) (hn : tk p k = false) : Bad (r.must s (Est.kOf k)) 2 p.a := by
  unfold Est.Rd.must; rw [h.isB k hk, hn, ← h.sim.a]; exact h.fail 2 _ (by decide)
theorem At.is (h : At s r p) (k : Nat) (hk : k ≤ 9) (h0 : k ≠ 0) (hy : tk p k = true) : At s (r.is s (Est.kOf k)) (tp s p k) := by
  unfold Est.Rd.is; rw [h.isB k hk, hy, tp_yes hy]; exact h.next k hy h0
theorem Bad.fail (h : Bad r e a) (e' a' : Nat) : r.fail e' a' = r := by
  unfold Est.Rd.fail; rw [if_neg (by rw [h.eq]; exact h.ne)]
theorem Bad.isB (h : Bad r e a) (k : UInt8) : r.isB k = false := by
  unfold Est.Rd.isB; rw [h.eq]; simp [h.ne]
theorem Bad.must (h : Bad r e a) (k : UInt8) : r.must s k = r := by
  unfold Est.Rd.must; rw [h.isB k]; exact h.fail _ _
end

theorem pix_any (hd : List Est.Pc) (t : ByteArray) : (((hd.map Est.Pc.t).take (hd.map Est.Pc.t).length).any fun x => x.toList == t.toList) = decide (0 ≤ pixOf hd t) := by
  rw [List.take_length, List.any_map]
  unfold pixOf
  by_cases h : hd.findIdx (fun p => p.t.toList == t.toList) < hd.length
  · rw [if_pos h]
    have h1 := List.findIdx_lt_length.1 h
    obtain ⟨x, hx, hp⟩ := h1
    rw [decide_eq_true (by omega), List.any_eq_true]
    exact ⟨x, hx, hp⟩
  · rw [if_neg h, decide_eq_false (by omega), List.any_eq_false]
    intro x hx hp
    exact h (List.findIdx_lt_length.2 ⟨x, hx, hp⟩)

/-- One name of the head. -/
theorem head_one (s : ByteArray) (c : CS) (r : Est.Rd) (h : At s r c.p) (hl : c.hd.length ≤ 6) :
    (rhB c = true → At s (hR s r (c.hd.map Est.Pc.t)) (rhC s c).p ∧ (rhC s c).hd = c.hd ++ [c.p] ∧ r.g.t = c.p.t) ∧
    (rhB c = false → Bad (hR s r (c.hd.map Est.Pc.t)) (rhC s c).e (rhC s c).a) := by
  have hp := pix_any c.hd c.p.t
  have ha := h.sim.a
  unfold rhB rhC hR nShape
  rw [List.length_map] at hp ⊢
  cases ht : tk c.p 2
  · have hb : Bad (r.must s 118) 2 c.p.a := h.mustNot 2 (by decide) ht
    simp only [Bool.false_and]
    refine ⟨fun x => by simp at x, fun _ => ?_⟩
    rw [hb.fail]
    simp only [ite_self, hb.fail]
    exact hb
  · obtain ⟨_, hm⟩ := h.must 2 (by decide) (by decide) ht
    have hm : At s (r.must s 118) (pnext s c.p) := hm
    have hk : c.p.k = 2 := of_decide_eq_true ht
    obtain ⟨t1, t2⟩ := h.sim.t (by omega)
    rw [t1, ha, hp]
    by_cases hx : 0 ≤ pixOf c.hd c.p.t
    · simp only [hx, decide_true, Bool.not_true, Bool.and_false, Bool.false_and, if_true]
      refine ⟨fun x => by simp at x, fun _ => ?_⟩
      have hb := hm.fail 4 c.p.a (by decide)
      rw [hb.fail, ite_self]
      exact hb
    · simp only [hx, decide_false, Bool.not_false, Bool.and_true, Bool.true_and, if_true, if_false, Bool.false_eq_true]
      by_cases h6 : c.hd.length = 6
      · simp only [h6, decide_true, Bool.not_true, if_true, Nat.le_refl]
        exact ⟨fun x => by simp at x, fun _ => hm.fail 3 _ (by decide)⟩
      · have : ¬ 6 ≤ c.hd.length := by omega
        simp only [h6, this, decide_false, Bool.not_false, if_false]
        exact ⟨fun _ => ⟨hm, trivial, trivial⟩, fun x => by simp at x⟩

theorem head_all (s : ByteArray) (n : Nat) (c : CS) (r : Est.Rd) (h : At s r c.p) (hn : c.hd.length + n = 7) (h1 : 1 ≤ n) :
    ((lh s n c).1 = true → At s (hl s (n + 1) r (c.hd.map Est.Pc.t) (c.hd.map Est.Pc.a)).1 (lh s n c).2.p ∧ (hl s (n + 1) r (c.hd.map Est.Pc.t) (c.hd.map Est.Pc.a)).2.1 = (lh s n c).2.hd.map Est.Pc.t ∧ (hl s (n + 1) r (c.hd.map Est.Pc.t) (c.hd.map Est.Pc.a)).2.2 = (lh s n c).2.hd.map Est.Pc.a) ∧
    ((lh s n c).1 = false → Bad (hl s (n + 1) r (c.hd.map Est.Pc.t) (c.hd.map Est.Pc.a)).1 (lh s n c).2.e (lh s n c).2.a) := by
  induction n generalizing c r with
  | zero => omega
  | succ n ih =>
    obtain ⟨o1, o2⟩ := head_one s c r h (by omega)
    unfold lh
    rw [hl.eq_def]
    simp only [h.z, if_true]
    cases hb : rhB c
    · have B := o2 hb
      rw [B.isB]
      simp only [Bool.false_eq_true, if_false]
      exact ⟨fun x => by simp at x, fun _ => B⟩
    · obtain ⟨A, e1, e2⟩ := o1 hb
      have ha := h.sim.a
      have hB : (hR s r (c.hd.map Est.Pc.t)).isB 44 = tk (rhC s c).p 7 := A.isB 7 (by decide)
      have em : c.hd.map Est.Pc.t ++ [r.g.t] = (rhC s c).hd.map Est.Pc.t := by rw [e1, e2]; simp
      have ea : c.hd.map Est.Pc.a ++ [r.g.a] = (rhC s c).hd.map Est.Pc.a := by rw [e1, ha]; simp
      rw [hB, em, ea]
      cases ht : tk (rhC s c).p 7
      · simp only [Bool.false_eq_true, if_false, if_true]
        exact ⟨fun _ => ⟨A, trivial, trivial⟩, fun x => by simp at x⟩
      · simp only [if_true]
        have A2 : At s ((hR s r (c.hd.map Est.Pc.t)).is s 44) (tp s (rhC s c).p 7) := A.is 7 (by decide) (by decide) ht
        have h6 : c.hd.length ≠ 6 := by
          unfold rhB at hb; simp at hb; omega
        exact ih { rhC s c with p := tp s (rhC s c).p 7 } _ A2 (by show (rhC s c).hd.length + n = 7; rw [e1]; simp; omega) (by omega)

end Go.Proofs.Ytondkinefmjpjaa
