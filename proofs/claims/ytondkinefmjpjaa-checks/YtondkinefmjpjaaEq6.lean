/-
  The atoms, the end, the names.
-/
import Derived.Test.YtondkinefmjpjaaEq5
namespace Go.Proofs.Ytondkinefmjpjaa
open Go.RowKit

theorem Bad.al {s : ByteArray} {x : Est.Rd × List ByteArray × List PA} {e a : Nat} (h : Bad x.1 e a) (n : Nat) : al s n x = x := by
  cases n with
  | zero => rfl
  | succ n => unfold Ytondkinefmjpjaa.al; rw [h.isB]; rfl
theorem Bad.step {s : ByteArray} {r : Est.Rd} {e a : Nat} (h : Bad r e a) (vars : List ByteArray) (pl : List PA) : Bad (aStep s (r, vars, pl)).1 e a := by
  show Bad (aFinP s r pl vars) e a
  apply Bad.fin3
  have h1 : aR1 r pl.length = r := by unfold aR1; rw [h.isB]; rfl
  unfold aR3; rw [h1, h.must, h.must]; exact h

theorem atoms_all (s : ByteArray) (n : Nat) (c : CS) (r : Est.Rd) (pl : List PA) (h : At s r c.p) (hA : ALL pl c.ats) (hn : c.ats.length + n = 5) (h1 : 1 ≤ n) (hv : c.vars.length ≤ 6) :
    ((la s n c).1 = true → At s (al s n (aStep s (r, c.vars, pl))).1 (la s n c).2.p ∧ (al s n (aStep s (r, c.vars, pl))).2.1 = (la s n c).2.vars ∧ ALL (al s n (aStep s (r, c.vars, pl))).2.2 (la s n c).2.ats) ∧
    ((la s n c).1 = false → Bad (al s n (aStep s (r, c.vars, pl))).1 (la s n c).2.e (la s n c).2.a) := by
  induction n generalizing c r pl with
  | zero => omega
  | succ n ih =>
    obtain ⟨o1, o2⟩ := atom_one s c r pl h hA (by omega) hv
    unfold la
    cases hb : (raR s c).1
    · have B : Bad (aStep s (r, c.vars, pl)).1 _ _ := o2 hb
      rw [B.al]
      simp only [Bool.false_eq_true, if_false]
      exact ⟨fun x => by simp at x, fun _ => B⟩
    · obtain ⟨A, e1, e2, e3, e4, e5⟩ := o1 hb
      have hB : (aFinP s r pl c.vars).isB 44 = tk (raR s c).2.p 7 := A.isB 7 (by decide)
      unfold al
      rw [show (aStep s (r, c.vars, pl)).1.isB 44 = tk (raR s c).2.p 7 from hB]
      simp only [if_true]
      cases ht : tk (raR s c).2.p 7
      · simp only [Bool.false_eq_true, if_false]
        exact ⟨fun _ => ⟨A, e1, e2⟩, fun x => by simp at x⟩
      · simp only [if_true]
        have A2 : At s ((aFinP s r pl c.vars).next s) (tp s (raR s c).2.p 7) := by rw [tp_yes ht]; exact A.next 7 ht (by decide)
        have := ih { (raR s c).2 with p := tp s (raR s c).2.p 7 } ((aFinP s r pl c.vars).next s) _ A2 e2 (by show (raR s c).2.ats.length + n = 5; omega) (by omega) e3
        rw [show (aStep s (r, c.vars, pl)) = (aFinP s r pl c.vars, (raR s c).2.vars, pl ++ [⟨(aR1 r pl.length).g.t, (aT s r pl.length c.vars).2.2, r.g.a⟩]) by rw [← e1]; rfl]
        exact this

theorem Bad.nl {r : Est.Rd} {e a : Nat} (h : Bad r e a) (vars ns : List ByteArray) (ps : List Nat) : nl vars ns ps r = r := by
  cases ns with
  | nil => rfl
  | cons n ns =>
    cases ps with
    | nil => rfl
    | cons p ps => unfold Ytondkinefmjpjaa.nl; rw [if_neg (by rw [h.eq]; exact h.ne)]

theorem ix_any (vars : List ByteArray) (t : ByteArray) : (vars.any fun v => v.toList == t.toList) = decide (0 ≤ ixOf vars t) := by
  have : (fun v : ByteArray => v.toList == t.toList) = fun v => t.toList == v.toList := by funext v; exact BEq.comm
  rw [this]
  unfold ixOf
  by_cases h : vars.findIdx (fun v => t.toList == v.toList) < vars.length
  · rw [if_pos h]
    obtain ⟨x, hx, hp⟩ := List.findIdx_lt_length.1 h
    rw [decide_eq_true (by omega), List.any_eq_true]
    exact ⟨x, hx, hp⟩
  · rw [if_neg h, decide_eq_false (by omega), List.any_eq_false]
    intro x hx hp
    exact h (List.findIdx_lt_length.2 ⟨x, hx, hp⟩)

theorem names_all (vars : List ByteArray) (hd : List Est.Pc) (r : Est.Rd) (h : r.bad = 0) :
    (∀ p, hd.find? (fun p => !decide (0 ≤ ixOf vars p.t)) = some p → Bad (nl vars (hd.map Est.Pc.t) (hd.map Est.Pc.a) r) 5 p.a) ∧
    (hd.find? (fun p => !decide (0 ≤ ixOf vars p.t)) = none → nl vars (hd.map Est.Pc.t) (hd.map Est.Pc.a) r = r) := by
  induction hd with
  | nil => exact ⟨fun p x => by simp at x, fun _ => rfl⟩
  | cons q hd ih =>
    simp only [List.map_cons]
    unfold nl
    rw [if_pos h, ix_any, List.find?_cons]
    by_cases hx : 0 ≤ ixOf vars q.t
    · simp only [hx, decide_true, Bool.not_true, if_true]
      exact ih
    · simp only [hx, decide_false, Bool.not_false, Bool.false_eq_true, if_false]
      refine ⟨fun p x => ?_, fun x => by simp at x⟩
      cases x
      unfold Est.Rd.fail; rw [if_pos h]; exact ⟨rfl, rfl, by decide⟩

/-- The whole query, up to the names. -/
theorem query_all (s : ByteArray) :
    ((rq s (c0 s)).1 = true → (rE s).bad = 0 ∧ (TA s).2.1 = (rq s (c0 s)).2.vars ∧ ALL (TA s).2.2 (rq s (c0 s)).2.ats ∧ (TH s).2.1 = (rq s (c0 s)).2.hd.map Est.Pc.t ∧ (TH s).2.2 = (rq s (c0 s)).2.hd.map Est.Pc.a) ∧
    ((rq s (c0 s)).1 = false → Bad (rE s) (rq s (c0 s)).2.e (rq s (c0 s)).2.a) := by
  have badE : ∀ {e a}, Bad ((TA s).1.must s 46) e a → Bad (rE s) e a := fun B => by
    unfold rE; rw [if_neg (by rw [B.eq]; exact fun x => B.ne x.1)]; exact B
  obtain ⟨o1, o2⟩ := head_whole s
  obtain ⟨v1, v2, hok⟩ := rdH_keep s (c0 s) (OkC.piece s 0 (Nat.zero_le _))
  have v1 : (rdH s (c0 s)).2.vars = [] := v1
  have v2 : (rdH s (c0 s)).2.ats = [] := v2
  unfold rq
  generalize hH : rdH s (c0 s) = H at *
  cases hb : H.1
  · simp only [Bool.false_eq_true, if_false]
    refine ⟨fun x => by simp at x, fun _ => ?_⟩
    have B := o2 hb
    apply badE
    have B2 : Bad (aStep s ((((TH s).1.must s 41).must s 58), [], [])).1 H.2.e H.2.a := by rw [B.must]; exact B.step _ _
    unfold TA; rw [B2.al, B2.must]; exact B2
  · simp only [if_true]
    obtain ⟨A, e1, e2⟩ := o1 hb
    cases k8 : tk H.2.p 8
    · simp only [Bool.false_eq_true, if_false]
      refine ⟨fun x => by simp at x, fun _ => ?_⟩
      have := cw_no (s := s) k8
      rw [this.1, this.2]
      have B : Bad (((TH s).1.must s 41).must s 58) 2 H.2.p.a := A.mustNot 8 (by decide) k8
      have B2 : Bad (aStep s ((((TH s).1.must s 41).must s 58), [], [])).1 2 H.2.p.a := B.step _ _
      apply badE
      unfold TA; rw [B2.al, B2.must]; exact B2
    · simp only [if_true]
      have A2 : At s (((TH s).1.must s 41).must s 58) (cw s H.2 8).p := by rw [cw_yes k8]; exact (A.must 8 (by decide) (by decide) k8).2
      have w1 : (cw s H.2 8).vars = [] := v1
      have w2 : (cw s H.2 8).ats = [] := v2
      have w3 : (cw s H.2 8).hd = H.2.hd := rfl
      have L := atoms_all s 5 (cw s H.2 8) _ [] A2 (by rw [w2]; exact ALL.nil) (by rw [w2]; rfl) (by decide) (by rw [w1]; decide)
      rw [w1] at L
      obtain ⟨l1, -, -⟩ := la_hd s 5 (cw s H.2 8) A2.ok (by rw [w1]; decide)
      rw [w3] at l1
      rw [← TA.eq_1 s] at L
      obtain ⟨p1, p2⟩ := L
      have h5 : 5 - (c0 s).ats.length = 5 := rfl
      rw [h5]
      generalize la s 5 (cw s H.2 8) = Q at *
      cases hq : Q.1
      · simp only [Bool.false_eq_true, if_false]
        refine ⟨fun x => by simp at x, fun _ => badE ?_⟩
        rw [(p2 hq).must]; exact p2 hq
      · simp only [if_true]
        obtain ⟨A3, f1, f2⟩ := p1 hq
        cases k9 : tk Q.2.p 9
        · simp only [Bool.false_eq_true, if_false]
          refine ⟨fun x => by simp at x, fun _ => badE ?_⟩
          have := cw_no (s := s) k9
          rw [this.1, this.2]; exact A3.mustNot 9 (by decide) k9
        · simp only [if_true]
          have A4 : At s ((TA s).1.must s 46) (cw s Q.2 9).p := by rw [cw_yes k9]; exact (A3.must 9 (by decide) (by decide) k9).2
          have hk := A4.isB 1 (by decide)
          have hk : (((TA s).1.must s 46).g.k == 0) = tk (cw s Q.2 9).p 1 := by
            rw [← hk]; unfold Est.Rd.isB; rw [A4.z]; rfl
          cases k1 : tk (cw s Q.2 9).p 1
          · refine ⟨fun x => by simp at x, fun _ => ?_⟩
            have := cw_no (s := s) k1
            rw [this.1, this.2]
            unfold rE
            rw [if_pos ⟨A4.z, by rw [k1] at hk; exact beq_eq_false_iff_ne.1 hk⟩, A4.sim.a]
            exact A4.fail 2 _ (by decide)
          · refine ⟨fun _ => ?_, fun x => by simp at x⟩
            have hE : rE s = (TA s).1.must s 46 := by
              unfold rE; rw [if_neg]; rw [k1] at hk; exact fun x => x.2 (beq_iff_eq.1 hk)
            rw [hE]
            refine ⟨A4.z, f1, f2, ?_, ?_⟩
            · rw [e1]; show _ = Q.2.hd.map _; rw [l1]
            · rw [e2]; show _ = Q.2.hd.map _; rw [l1]

end Go.Proofs.Ytondkinefmjpjaa
