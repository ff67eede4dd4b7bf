import Derived.Test.YtondkinefmjpjaaCode10
namespace Go.Proofs.Ytondkinefmjpjaa
open Go.RowKit

theorem raR_ok {s : ByteArray} {c : CS} (hok : OkC s c.p) (hl : c.vars.length ≤ 6) : OkC s (raR s c).2.p ∧ (raR s c).2.vars.length ≤ 6 ∧ ((raR s c).1 = true → (raR s c).2.ats.length = c.ats.length + 1 ∧ c.ats.length ≠ 4) := by
  have h3 : OkC s (ra3 s c).p := hok.next
  have h5 : OkC s (cw s (ra3 s c) 5).p := h3.tp 5
  have hT := ltR_ok (e := (cw s (ra3 s c) 5).e) (a := (cw s (ra3 s c) 5).a) (x := x0 c.p.t) s 4 h5 hl
  unfold raR
  split
  · split
    · exact ⟨h3, hl, fun h => by cases h⟩
    · rename_i h4
      split
      · split
        · split
          · split
            · exact ⟨hT.1.tp 6, hT.2, fun h => by cases h⟩
            · exact ⟨hT.1.tp 6, hT.2, fun _ => ⟨by simp, h4⟩⟩
          · exact ⟨hT.1.tp 6, hT.2, fun h => by cases h⟩
        · exact ⟨hT.1, hT.2, fun h => by cases h⟩
      · exact ⟨h5, hl, fun h => by cases h⟩
  · exact ⟨hok.tp 3, hl, fun h => by cases h⟩
/-- The atoms, with commas between them. -/
def la (s : ByteArray) : Nat → CS → Bool × CS
  | 0, c => (false, c)
  | n + 1, c => if (raR s c).1 then (if tk (raR s c).2.p 7 then la s n { (raR s c).2 with p := tp s (raR s c).2.p 7 } else (true, (raR s c).2)) else (false, (raR s c).2)
theorem la_ok (s : ByteArray) (n : Nat) {c : CS} (hok : OkC s c.p) (hl : c.vars.length ≤ 6) : OkC s (la s n c).2.p ∧ (la s n c).2.vars.length ≤ 6 := by
  induction n generalizing c with
  | zero => exact ⟨hok, hl⟩
  | succ n ih =>
    obtain ⟨t1, t2, _⟩ := raR_ok hok hl
    unfold la
    split
    · split
      · exact ih (c := { (raR s c).2 with p := tp s (raR s c).2.p 7 }) (t1.tp 7) t2
      · exact ⟨t1, t2⟩
    · exact ⟨t1, t2⟩
theorem slen_ats {w : World} {b base : Nat} {s : ByteArray} {c : CS} (h : CSt w b base s c) : slen (w.cell? ⟨b, 6, none⟩) = c.ats.length := by
  obtain ⟨hv, vv, av, h1, _, _, h4⟩ := h.ex
  obtain ⟨a, cap, rfl⟩ := AR.form h4
  rw [h1.c6]; rfl

set_option maxHeartbeats 2000000 in
theorem readList_atoms (b base : Nat) (s : ByteArray) (c : CS) (w : World) (h : CSt w b base s c) (hs : s.size ≤ maxLen) (hok : OkC s c.p) (hl : c.vars.length ≤ 6) (hla : c.ats.length ≤ 4) (hB : base ≤ w.heap.size) :
    Calls Try.prog 46 #[.pointer (some ⟨b, 0, none⟩), .func (.func 49) #[.pointer (some ⟨b, 0, none⟩)] #[]] w fun x w' => x = .returned (.bool (la s (5 - c.ats.length) c).1) ∧ CSt w' b base s (la s (5 - c.ats.length) c).2 ∧ Keeps (FR b base) w w' := by
  obtain ⟨R, hR⟩ : ∃ R, la s (5 - c.ats.length) c = R := ⟨_, rfl⟩
  have HR : Hid (la s (5 - c.ats.length) c = R) := hR
  rw [hR]
  clear hR
  go_enter Try.func46, Try.ntmps46
  go_wp2_with fail
  go_loopw [] (fun wr => ∃ c', CSt wr b base s c' ∧ OkC s c'.p ∧ c'.vars.length ≤ 6 ∧ c'.ats.length ≤ 4 ∧ Keeps (FR b base) w wr ∧ la s (5 - c'.ats.length) c' = R) (fun wr => 5 - slen (wr.cell? ⟨b, 6, none⟩))
  case atStart => exact ⟨c, h, hok, hl, hla, Keeps.refl _ _, HR.out⟩
  case round =>
    obtain ⟨c1, h1, hok1, hl1, hla1, hk1, he1⟩ := hrel
    have HE : Hid (la s (5 - c1.ats.length) c1 = R) := he1
    have HM : Hid (slen (wr.cell? ⟨b, 6, none⟩) = c1.ats.length) := slen_ats h1
    clear he1
    have hB1 : base ≤ wr.heap.size := Nat.le_trans hB hk1.size
    go_wp2_with fail
    refine (readAtom_any b base s c1 _ h1 hs hok1 hl1 (by omega) hB1).mono ?_
    rintro x w2 ⟨rfl, h2, k2⟩
    obtain ⟨t1, t2, t3⟩ := raR_ok hok1 hl1
    have HE2 : Hid ((if (raR s c1).1 then (if tk (raR s c1).2.p 7 then la s (4 - c1.ats.length) { (raR s c1).2 with p := tp s (raR s c1).2.p 7 } else (true, (raR s c1).2)) else (false, (raR s c1).2)) = R) := by
      have := HE.out
      rw [show 5 - c1.ats.length = (4 - c1.ats.length) + 1 by omega, la] at this
      exact this
    obtain ⟨T, hT⟩ : ∃ T, raR s c1 = T := ⟨_, rfl⟩
    rw [hT] at h2 t1 t2 t3 HE2 ⊢
    have HT3 : Hid (T.1 = true → T.2.ats.length = c1.ats.length + 1 ∧ c1.ats.length ≠ 4) := t3
    clear hT HE t3
    have hk2 : Keeps (FR b base) w w2 := hk1.trans k2
    cases hb : T.1
    · have HF : Hid (R = (false, T.2)) := by unfold Hid; rw [← HE2.out, hb]; rfl
      clear hb HE2
      go_wp2_with fail
      go_ret
      exact ⟨ret_bool (by rw [HF.out]), by rw [HF.out]; exact h2, hk2⟩
    · obtain ⟨q1, q2⟩ := HT3.out hb
      have HQ : Hid (T.2.ats.length = c1.ats.length + 1) := q1
      have HB : Hid (T.1 = true) := hb
      clear hb q1
      go_wp2_with fail
      refine (ctake b base s T.2 7 7 _ h2 rfl hs t1).mono ?_
      rintro x w3 ⟨rfl, h3, k3⟩
      have hk3 : Keeps (FR b base) w w3 := hk2.trans (Keeps.of k3 (fun _ _ x => Or.inl x))
      cases ht : tk T.2.p 7
      · have HF : Hid (R = (true, T.2)) := by unfold Hid; rw [← HE2.out, HB.out, ht]; rfl
        rw [tp_no ht] at h3
        clear ht
        go_wp2_with fail
        go_ret
        exact ⟨ret_bool (by rw [HF.out]), by rw [HF.out]; exact h3, hk3⟩
      · have HF : Hid (la s (4 - c1.ats.length) { T.2 with p := tp s T.2.p 7 } = R) := by unfold Hid; rw [← HE2.out, HB.out, ht]; rfl
        have HM3 : Hid (slen (w3.cell? ⟨b, 6, none⟩) = c1.ats.length + 1) := (slen_ats h3).trans HQ.out
        clear ht
        go_wp2_with fail
        go_roundw
        case rel =>
          refine ⟨_, h3, t1.tp 7, t2, ?_, hk3, ?_⟩
          · show T.2.ats.length ≤ 4; rw [HQ.out]; omega
          · show la s (5 - T.2.ats.length) _ = R
            rw [HQ.out, show 5 - (c1.ats.length + 1) = 4 - c1.ats.length by omega]; exact HF.out
        case measure => rw [HM.out, HM3.out]; omega

set_option maxHeartbeats 1000000 in
theorem readAtoms_any (b base : Nat) (s : ByteArray) (c : CS) (w : World) (h : CSt w b base s c) (hs : s.size ≤ maxLen) (hok : OkC s c.p) (hl : c.vars.length ≤ 6) (hla : c.ats.length ≤ 4) (hB : base ≤ w.heap.size) :
    Calls Try.prog 28 #[.pointer (some ⟨b, 0, none⟩)] w fun x w' => x = .returned (.bool (la s (5 - c.ats.length) c).1) ∧ CSt w' b base s (la s (5 - c.ats.length) c).2 ∧ Keeps (FR b base) w w' := by
  go_enter Try.func28, Try.ntmps28
  go_wp2_with fail
  refine (readList_atoms b base s c _ h hs hok hl hla hB).mono ?_
  rintro x w2 ⟨rfl, h2, k2⟩
  obtain ⟨R, hR⟩ : ∃ R, la s (5 - c.ats.length) c = R := ⟨_, rfl⟩
  have HR : Hid (la s (5 - c.ats.length) c = R) := hR
  rw [hR] at h2 ⊢
  clear hR
  go_wp2
  go_ret
  exact ⟨ret_bool (by rw [HR.out]), by rw [HR.out]; exact h2, k2⟩

theorem lh_keep (s : ByteArray) (n : Nat) (c : CS) : (lh s n c).2.vars = c.vars ∧ (lh s n c).2.ats = c.ats := by
  have hr : ∀ c, (rhC s c).vars = c.vars ∧ (rhC s c).ats = c.ats := by
    intro c; unfold rhC; split
    · split
      · exact ⟨rfl, rfl⟩
      · split <;> exact ⟨rfl, rfl⟩
    · exact ⟨rfl, rfl⟩
  induction n generalizing c with
  | zero => exact ⟨rfl, rfl⟩
  | succ n ih =>
    unfold lh
    split
    · split
      · obtain ⟨i1, i2⟩ := ih { rhC s c with p := tp s (rhC s c).p 7 }
        exact ⟨i1.trans (hr c).1, i2.trans (hr c).2⟩
      · exact hr c
    · exact hr c
theorem rdH_keep (s : ByteArray) (c : CS) (hok : OkC s c.p) : (rdH s c).2.vars = c.vars ∧ (rdH s c).2.ats = c.ats ∧ OkC s (rdH s c).2.p := by
  have h5 : OkC s (cw s c 5).p := hok.tp 5
  have hL := lh_keep s (7 - c.hd.length) (cw s c 5)
  have hO : OkC s (lh s (7 - c.hd.length) (cw s c 5)).2.p := h5.lh _
  unfold rdH
  split
  · split
    · exact ⟨rfl, rfl, h5.tp 6⟩
    · split
      · exact ⟨hL.1, hL.2, hO.tp 6⟩
      · exact ⟨hL.1, hL.2, hO⟩
  · exact ⟨rfl, rfl, h5⟩
/-- The whole text. -/
def rq (s : ByteArray) (c : CS) : Bool × CS :=
  if (rdH s c).1 then
    if tk (rdH s c).2.p 8 then
      if (la s (5 - c.ats.length) (cw s (rdH s c).2 8)).1 then
        if tk (la s (5 - c.ats.length) (cw s (rdH s c).2 8)).2.p 9 then
          (tk (cw s (la s (5 - c.ats.length) (cw s (rdH s c).2 8)).2 9).p 1, cw s (cw s (la s (5 - c.ats.length) (cw s (rdH s c).2 8)).2 9) 1)
        else (false, cw s (la s (5 - c.ats.length) (cw s (rdH s c).2 8)).2 9)
      else (false, (la s (5 - c.ats.length) (cw s (rdH s c).2 8)).2)
    else (false, cw s (rdH s c).2 8)
  else (false, (rdH s c).2)
def FQ (b base : Nat) : Nat → Option Obj → Prop := fun k _ => k = b ∨ base ≤ k

set_option maxHeartbeats 2000000 in
theorem readQuery_any (b base : Nat) (s : ByteArray) (c : CS) (w : World) (h : CSt w b base s c) (hs : s.size ≤ maxLen) (hok : OkC s c.p) (hh : c.hd.length ≤ 6) (hl : c.vars.length ≤ 6) (hla : c.ats.length ≤ 4) (hB : base ≤ w.heap.size) :
    Calls Try.prog 15 #[.pointer (some ⟨b, 0, none⟩)] w fun x w' => x = .returned (.bool (rq s c).1) ∧ CSt w' b base s (rq s c).2 ∧ Keeps (FQ b base) w w' := by
  obtain ⟨R, hR⟩ : ∃ R, rq s c = R := ⟨_, rfl⟩
  have HR : Hid (rq s c = R) := hR
  rw [hR]
  clear hR
  obtain ⟨e1, e2, hok1⟩ := rdH_keep s c hok
  have HE1 : Hid ((rdH s c).2.vars = c.vars) := e1
  have HE2 : Hid ((rdH s c).2.ats = c.ats) := e2
  clear e1 e2
  go_enter Try.func15, Try.ntmps15
  go_wp2_with fail
  refine (readHead_any b base s c _ h hs hok hh hB).mono ?_
  rintro x w1 ⟨rfl, h1, k1⟩
  have hK1 : Keeps (FQ b base) w w1 := k1.mono (fun k o hx => by rcases hx with e | ⟨e, _⟩; exact Or.inl e; exact Or.inr e)
  have HRR := HR.out
  unfold rq at HRR
  obtain ⟨A, hA⟩ : ∃ A, rdH s c = A := ⟨_, rfl⟩
  rw [hA] at h1 hok1 HRR HE1 HE2 ⊢
  have HRQ : Hid _ := HRR
  clear HRR hA
  cases hx : A.1
  · have HF : Hid (R = (false, A.2)) := by unfold Hid; rw [← HRQ.out, hx]; rfl
    clear hx
    go_wp2_with fail
    go_ret
    exact ⟨ret_bool (by rw [HF.out]), by rw [HF.out]; exact h1, hK1⟩
  · have HA : Hid (A.1 = true) := hx
    clear hx
    go_wp2_with fail
    refine (cwant b base s A.2 8 8 _ h1 rfl hs hok1).mono ?_
    rintro x w2 ⟨rfl, h2, k2⟩
    have hK2 : Keeps (FQ b base) w w2 := hK1.trans (Keeps.of k2 (fun _ _ x => Or.inl x))
    cases ht : tk A.2.p 8
    · have HF : Hid (R = (false, cw s A.2 8)) := by unfold Hid; rw [← HRQ.out, HA.out, ht]; rfl
      clear ht
      go_wp2_with fail
      go_ret
      exact ⟨ret_bool (by rw [HF.out]), by rw [HF.out]; exact h2, hK2⟩
    · have HT8 : Hid (tk A.2.p 8 = true) := ht
      clear ht
      have hB2 : base ≤ w2.heap.size := Nat.le_trans hB hK2.size
      have hl2 : (cw s A.2 8).vars.length ≤ 6 := by show A.2.vars.length ≤ 6; rw [HE1.out]; exact hl
      have hla2 : (cw s A.2 8).ats.length ≤ 4 := by show A.2.ats.length ≤ 4; rw [HE2.out]; exact hla
      have hok2 : OkC s (cw s A.2 8).p := hok1.tp 8
      have HEA : Hid ((cw s A.2 8).ats.length = c.ats.length) := by show A.2.ats.length = c.ats.length; rw [HE2.out]
      go_wp2_with fail
      refine (readAtoms_any b base s (cw s A.2 8) _ h2 hs hok2 hl2 hla2 hB2).mono ?_
      rintro x w3 ⟨rfl, h3, k3⟩
      rw [HEA.out] at h3 ⊢
      have hK3 : Keeps (FQ b base) w w3 := hK2.trans (k3.mono (fun k o hx => by rcases hx with e | ⟨e, _⟩; exact Or.inl e; exact Or.inr e))
      obtain ⟨hok3, _⟩ := la_ok s (5 - c.ats.length) hok2 hl2
      obtain ⟨B, hBB⟩ : ∃ B, la s (5 - c.ats.length) (cw s A.2 8) = B := ⟨_, rfl⟩
      rw [hBB] at h3 hok3 HRQ ⊢
      clear hBB
      cases hb : B.1
      · have HF : Hid (R = (false, B.2)) := by unfold Hid; rw [← HRQ.out, HA.out, HT8.out, hb]; rfl
        clear hb
        go_wp2_with fail
        go_ret
        exact ⟨ret_bool (by rw [HF.out]), by rw [HF.out]; exact h3, hK3⟩
      · have HBB : Hid (B.1 = true) := hb
        clear hb
        go_wp2_with fail
        refine (cwant b base s B.2 9 9 _ h3 rfl hs hok3).mono ?_
        rintro x w4 ⟨rfl, h4, k4⟩
        have hK4 : Keeps (FQ b base) w w4 := hK3.trans (Keeps.of k4 (fun _ _ x => Or.inl x))
        cases ht : tk B.2.p 9
        · have HF : Hid (R = (false, cw s B.2 9)) := by unfold Hid; rw [← HRQ.out, HA.out, HT8.out, HBB.out, ht]; rfl
          clear ht
          go_wp2_with fail
          go_ret
          exact ⟨ret_bool (by rw [HF.out]), by rw [HF.out]; exact h4, hK4⟩
        · have HF : Hid (R = (tk (cw s B.2 9).p 1, cw s (cw s B.2 9) 1)) := by unfold Hid; rw [← HRQ.out, HA.out, HT8.out, HBB.out, ht]; rfl
          clear ht
          have hok4 : OkC s (cw s B.2 9).p := hok3.tp 9
          go_wp2_with fail
          refine (cwant b base s (cw s B.2 9) 1 1 _ h4 rfl hs hok4).mono ?_
          rintro x w5 ⟨rfl, h5, k5⟩
          go_wp2_with fail
          go_ret
          exact ⟨ret_bool (by rw [HF.out]), by rw [HF.out]; exact h5, hK4.trans (Keeps.of k5 (fun _ _ x => Or.inl x))⟩

end Go.Proofs.Ytondkinefmjpjaa
