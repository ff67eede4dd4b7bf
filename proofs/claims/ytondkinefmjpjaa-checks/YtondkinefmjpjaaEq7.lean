/-
  What the program's Check answers is what the document's Parse answers.
-/
import Derived.Test.YtondkinefmjpjaaEq6
import Derived.Test.YtondkinefmjpjaaLaw1
namespace Go.Proofs.Ytondkinefmjpjaa
open Go.RowKit

/-- What is left: going round. -/
def CycSaid : Prop := ∀ s : ByteArray, (rq s (c0 s)).1 = true → mtI ((rq s (c0 s)).2.ats.length - 1) ((rq s (c0 s)).2.ats.map CA.set) (List.range (rq s (c0 s)).2.ats.length) = !cycP (TA s).2.1.length (TA s).2.2 ((TA s).2.2.length - 1) (List.replicate (TA s).2.2.length true)

theorem answers (hC : CycSaid) (s : ByteArray) : (pE s : Int) = refE s ∧ (pA s : Int) = refP s := by
  unfold pE pA refE refP
  by_cases h200 : 200 < s.size
  · simp only [h200, if_true]; exact ⟨rfl, rfl⟩
  · simp only [h200, if_false]
    obtain ⟨o1, o2⟩ := query_all s
    have hc := hC s
    have hN : rN s = nl (TA s).2.1 (TH s).2.1 (TH s).2.2 (rE s) := rN.eq_1 s
    generalize rq s (c0 s) = Q at *
    cases hq : Q.1
    · have B := o2 hq
      rw [hN, B.nl]
      have hne : (rE s).bad ≠ 0 := by rw [B.eq]; exact B.ne
      simp only [Bool.false_eq_true, if_false, hne, ne_eq, not_false_eq_true, if_true]
      exact ⟨by rw [B.eq], by rw [B.pl]⟩
    · obtain ⟨z, f1, f2, f3, f4⟩ := o1 hq
      have hc := hc hq
      obtain ⟨n1, n2⟩ := names_all Q.2.vars Q.2.hd (rE s) z
      rw [hN, f3, f4]
      unfold wfE wfA
      rw [hc]
      simp only [if_true]
      rw [f1]
      cases hf : Q.2.hd.find? (fun p => !decide (0 ≤ ixOf Q.2.vars p.t)) with
      | some p =>
        have B := n1 p hf
        have hne : (nl Q.2.vars (Q.2.hd.map Est.Pc.t) (Q.2.hd.map Est.Pc.a) (rE s)).bad ≠ 0 := by rw [B.eq]; decide
        simp only [hne, ne_eq, not_false_eq_true, if_true]
        exact ⟨by rw [B.eq], by rw [B.pl]⟩
      | none =>
        rw [n2 hf]
        simp only [z, ne_eq, not_true_eq_false, if_false]
        cases cycP Q.2.vars.length (TA s).2.2 ((TA s).2.2.length - 1) (List.replicate (TA s).2.2.length true) <;> exact ⟨rfl, rfl⟩

theorem check_said (hC : CycSaid) : CheckSaid := by
  intro s w hs
  have h := Check_any s w hs
  rw [(answers hC s).1, (answers hC s).2] at h
  exact h

end Go.Proofs.Ytondkinefmjpjaa
