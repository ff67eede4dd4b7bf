import Derived.Test.YtondkinefmjpjaaCode5
import Derived.Test.YtondkinefmjpjaaRef8
namespace Go.Proofs.Ytondkinefmjpjaa
open Go.RowKit

theorem OkC.rhC {s : ByteArray} {c : CS} (h : OkC s c.p) : OkC s (rhC s c).p := by
  unfold Ytondkinefmjpjaa.rhC
  split
  · split
    · exact h.next
    · split <;> exact h.next
  · exact h
theorem rhC_len {s : ByteArray} {c : CS} (h : rhB c = true) : (rhC s c).hd.length = c.hd.length + 1 ∧ c.hd.length ≠ 6 := by
  unfold rhB at h
  simp only [Bool.and_eq_true, Bool.not_eq_true', decide_eq_false_iff_not] at h
  unfold rhC
  rw [h.1.1, if_pos rfl, if_neg h.1.2, if_neg h.2]
  exact ⟨by simp, h.2⟩
/-- The variables of the head, with commas between them. -/
def lh (s : ByteArray) : Nat → CS → Bool × CS
  | 0, c => (false, c)
  | n + 1, c => if rhB c then (if tk (rhC s c).p 7 then lh s n { rhC s c with p := tp s (rhC s c).p 7 } else (true, rhC s c)) else (false, rhC s c)

theorem slen_hd {w : World} {b base : Nat} {s : ByteArray} {c : CS} (h : CSt w b base s c) : slen (w.cell? ⟨b, 4, none⟩) = c.hd.length := by
  obtain ⟨hv, vv, av, h1, h2, _, _⟩ := h.ex
  obtain ⟨a, cap, rfl⟩ := own_form h2
  rw [h1.c4]; rfl

set_option maxHeartbeats 2000000 in
theorem readList_head (b base : Nat) (s : ByteArray) (c : CS) (w : World) (h : CSt w b base s c) (hs : s.size ≤ maxLen) (hok : OkC s c.p) (hl : c.hd.length ≤ 6) (hB : base ≤ w.heap.size) :
    Calls Try.prog 46 #[.pointer (some ⟨b, 0, none⟩), .func (.func 47) #[.pointer (some ⟨b, 0, none⟩)] #[]] w fun x w' => x = .returned (.bool (lh s (7 - c.hd.length) c).1) ∧ CSt w' b base s (lh s (7 - c.hd.length) c).2 ∧ Keeps (FH b base) w w' := by
  obtain ⟨R, hR⟩ : ∃ R, lh s (7 - c.hd.length) c = R := ⟨_, rfl⟩
  have HR : Hid (lh s (7 - c.hd.length) c = R) := hR
  rw [hR]
  clear hR
  go_enter Try.func46, Try.ntmps46
  go_wp2_with fail
  go_loopw [] (fun wr => ∃ c', CSt wr b base s c' ∧ OkC s c'.p ∧ c'.hd.length ≤ 6 ∧ Keeps (FH b base) w wr ∧ lh s (7 - c'.hd.length) c' = R) (fun wr => 7 - slen (wr.cell? ⟨b, 4, none⟩))
  case atStart => exact ⟨c, h, hok, hl, Keeps.refl _ _, HR.out⟩
  case round =>
    obtain ⟨c1, h1, hok1, hl1, hk1, he1⟩ := hrel
    have HE : Hid (lh s (7 - c1.hd.length) c1 = R) := he1
    have HM : Hid (slen (wr.cell? ⟨b, 4, none⟩) = c1.hd.length) := slen_hd h1
    clear he1
    have hB1 : base ≤ wr.heap.size := Nat.le_trans hB hk1.size
    go_wp2_with fail
    refine (readHeadVar_any b base s c1 _ h1 hs hok1 (by omega) hB1).mono ?_
    rintro x w2 ⟨rfl, h2, k2⟩
    have hok2 := hok1.rhC
    have HE2 : Hid ((if rhB c1 then (if tk (rhC s c1).p 7 then lh s (6 - c1.hd.length) { rhC s c1 with p := tp s (rhC s c1).p 7 } else (true, rhC s c1)) else (false, rhC s c1)) = R) := by
      have := HE.out
      rw [show 7 - c1.hd.length = (6 - c1.hd.length) + 1 by omega, lh] at this
      exact this
    cases hb : rhB c1
    · have HF : Hid (R = (false, rhC s c1)) := by unfold Hid; rw [← HE2.out, hb]; rfl
      clear hb HE2 HE
      go_wp2_with fail
      go_ret
      exact ⟨ret_bool (by rw [HF.out]), by rw [HF.out]; exact h2, hk1.trans k2⟩
    · have hlen := rhC_len (s := s) hb
      have HL : Hid ((rhC s c1).hd.length = c1.hd.length + 1) := hlen.1
      have hne := hlen.2
      have HB : Hid (rhB c1 = true) := hb
      clear hb hlen
      go_wp2_with fail
      refine (ctake b base s (rhC s c1) 7 7 _ h2 rfl hs hok2).mono ?_
      rintro x w3 ⟨rfl, h3, k3⟩
      have hk3 : Keeps (FH b base) w w3 := (hk1.trans k2).trans (Keeps.of k3 (fun _ _ x => Or.inl x))
      cases ht : tk (rhC s c1).p 7
      · have HF : Hid (R = (true, rhC s c1)) := by unfold Hid; rw [← HE2.out, HB.out, ht]; rfl
        rw [tp_no ht] at h3
        clear ht
        go_wp2_with fail
        go_ret
        exact ⟨ret_bool (by rw [HF.out]), by rw [HF.out]; exact h3, hk3⟩
      · have HF : Hid (lh s (6 - c1.hd.length) { rhC s c1 with p := tp s (rhC s c1).p 7 } = R) := by unfold Hid; rw [← HE2.out, HB.out, ht]; rfl
        have HM3 : Hid (slen (w3.cell? ⟨b, 4, none⟩) = c1.hd.length + 1) := (slen_hd h3).trans HL.out
        clear ht
        go_wp2_with fail
        go_roundw
        case rel =>
          refine ⟨_, h3, hok2.tp 7, ?_, hk3, ?_⟩
          · show (rhC s c1).hd.length ≤ 6; rw [HL.out]; omega
          · show lh s (7 - (rhC s c1).hd.length) _ = R
            rw [HL.out, show 7 - (c1.hd.length + 1) = 6 - c1.hd.length by omega]; exact HF.out
        case measure => rw [HM.out, HM3.out]; omega

/-- The head. -/
def rdH (s : ByteArray) (c : CS) : Bool × CS :=
  if tk c.p 5 then
    if tk (cw s c 5).p 6 then (true, { cw s c 5 with p := tp s (cw s c 5).p 6 })
    else if (lh s (7 - c.hd.length) (cw s c 5)).1 then (tk (lh s (7 - c.hd.length) (cw s c 5)).2.p 6, cw s (lh s (7 - c.hd.length) (cw s c 5)).2 6) else (false, (lh s (7 - c.hd.length) (cw s c 5)).2)
  else (false, cw s c 5)
theorem OkC.lh {s : ByteArray} (n : Nat) {c : CS} (h : OkC s c.p) : OkC s (lh s n c).2.p := by
  induction n generalizing c with
  | zero => exact h
  | succ n ih =>
    unfold Ytondkinefmjpjaa.lh
    split
    · split
      · exact ih (c := { Ytondkinefmjpjaa.rhC s c with p := Ytondkinefmjpjaa.tp s (Ytondkinefmjpjaa.rhC s c).p 7 }) (h.rhC.tp 7)
      · exact h.rhC
    · exact h.rhC

set_option maxHeartbeats 2000000 in
theorem readHead_any (b base : Nat) (s : ByteArray) (c : CS) (w : World) (h : CSt w b base s c) (hs : s.size ≤ maxLen) (hok : OkC s c.p) (hl : c.hd.length ≤ 6) (hB : base ≤ w.heap.size) :
    Calls Try.prog 26 #[.pointer (some ⟨b, 0, none⟩)] w fun x w' => x = .returned (.bool (rdH s c).1) ∧ CSt w' b base s (rdH s c).2 ∧ Keeps (FH b base) w w' := by
  obtain ⟨R, hR⟩ : ∃ R, rdH s c = R := ⟨_, rfl⟩
  have HR : Hid (rdH s c = R) := hR
  rw [hR]
  clear hR
  have hok1 : OkC s (cw s c 5).p := hok.tp 5
  go_enter Try.func26, Try.ntmps26
  go_wp2_with fail
  refine (cwant b base s c 5 5 _ h rfl hs hok).mono ?_
  rintro x w1 ⟨rfl, h1, k1⟩
  have hk1 : Keeps (FH b base) w w1 := Keeps.of k1 (fun _ _ x => Or.inl x)
  cases ht : tk c.p 5
  · have HF : Hid (R = (false, cw s c 5)) := by unfold Hid; rw [← HR.out, rdH, ht]; rfl
    clear ht
    go_wp2_with fail
    go_ret
    exact ⟨ret_bool (by rw [HF.out]), by rw [HF.out]; exact h1, hk1⟩
  · have HT : Hid (tk c.p 5 = true) := ht
    clear ht
    go_wp2_with fail
    refine (ctake b base s (cw s c 5) 6 6 _ h1 rfl hs hok1).mono ?_
    rintro x w2 ⟨rfl, h2, k2⟩
    have hk2 : Keeps (FH b base) w w2 := hk1.trans (Keeps.of k2 (fun _ _ x => Or.inl x))
    cases ht : tk (cw s c 5).p 6
    · have HT6 : Hid (tk (cw s c 5).p 6 = false) := ht
      rw [tp_no ht] at h2
      clear ht
      have hB2 : base ≤ w2.heap.size := Nat.le_trans hB hk2.size
      go_wp2_with fail
      refine (readList_head b base s (cw s c 5) _ h2 hs hok1 hl hB2).mono ?_
      rintro x w3 ⟨rfl, h3, k3⟩
      have hk3 : Keeps (FH b base) w w3 := hk2.trans k3
      have HRR : Hid (R = if (lh s (7 - c.hd.length) (cw s c 5)).1 then (tk (lh s (7 - c.hd.length) (cw s c 5)).2.p 6, cw s (lh s (7 - c.hd.length) (cw s c 5)).2 6) else (false, (lh s (7 - c.hd.length) (cw s c 5)).2)) := by
        unfold Hid; rw [← HR.out, rdH, HT.out, HT6.out]; rfl
      obtain ⟨L, hL⟩ : ∃ L, lh s (7 - c.hd.length) (cw s c 5) = L := ⟨_, rfl⟩
      have hL' : lh s (7 - (cw s c 5).hd.length) (cw s c 5) = L := hL
      have hok3 : OkC s L.2.p := by rw [← hL]; exact hok1.lh _
      rw [hL'] at h3 ⊢
      rw [hL] at HRR
      clear hL hL'
      cases hx : L.1
      · have HF : Hid (R = (false, L.2)) := by unfold Hid; rw [HRR.out, hx]; rfl
        clear hx
        go_wp2_with fail
        go_ret
        exact ⟨ret_bool (by rw [HF.out]), by rw [HF.out]; exact h3, hk3⟩
      · have HF : Hid (R = (tk L.2.p 6, cw s L.2 6)) := by unfold Hid; rw [HRR.out, hx]; rfl
        clear hx
        go_wp2_with fail
        refine (cwant b base s L.2 6 6 _ h3 rfl hs hok3).mono ?_
        rintro x w4 ⟨rfl, h4, k4⟩
        go_wp2_with fail
        go_ret
        exact ⟨ret_bool (by rw [HF.out]), by rw [HF.out]; exact h4, hk3.trans (Keeps.of k4 (fun _ _ x => Or.inl x))⟩
    · have HF : Hid (R = (true, { cw s c 5 with p := tp s (cw s c 5).p 6 })) := by unfold Hid; rw [← HR.out, rdH, HT.out, ht]; rfl
      clear ht
      go_wp2_with fail
      go_ret
      exact ⟨ret_bool (by rw [HF.out]), by rw [HF.out]; exact h2, hk2⟩

end Go.Proofs.Ytondkinefmjpjaa
