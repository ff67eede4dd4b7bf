import Derived.Test.YtondkinefmjpjaaPar3
namespace Go.Proofs.Ytondkinefmjpjaa
open Go.RowKit

/-- What is asked of the program's Check, and of the document's Parse. -/
def CheckSaid : Prop := ∀ (s : ByteArray) (w : World), s.size ≤ maxLen → Calls Try.prog 4 #[.string s] w fun x w' => x = .returned (.tuple #[.int .i64 (refE s), .int .i64 (refP s)]) ∧ Below w.heap.size w w'
def ParseSaid : Prop := ∀ (s : ByteArray) (w : World), s.size ≤ maxLen → Calls Try.prog 5 #[.string s] w fun x w' => (∃ q, x = .returned (.tuple #[q, .int .i64 (refE s), .int .i64 (refP s)])) ∧ Below w.heap.size w w'

set_option maxHeartbeats 400000 in
theorem num_any (n : Int) (w : World) (h : -9223372036854775808 ≤ n ∧ n ≤ 9223372036854775807) : Calls Try.prog 6 #[.int .i64 n] w fun x w' => x = .returned (.int .i64 n) ∧ w' = w := by
  obtain ⟨h1, h2⟩ := h
  go_enter Try.func6, Try.ntmps6
  go_wp2
  go_ret
  exact ⟨rfl, rfl⟩

def B8 (r : Est.Rd) : Prop := r.bad ≤ 8
theorem B8.fail {r : Est.Rd} (h : B8 r) (e a : Nat) (he : e ≤ 8) : B8 (r.fail e a) := by unfold Est.Rd.fail; split; exact he; exact h
theorem B8.is {r : Est.Rd} (h : B8 r) (s : ByteArray) (k : UInt8) : B8 (r.is s k) := by unfold Est.Rd.is; split <;> exact h
theorem B8.must {r : Est.Rd} (h : B8 r) (s : ByteArray) (k : UInt8) : B8 (r.must s k) := by unfold Est.Rd.must; split; exact h; exact h.fail _ _ (by decide)
theorem B8.vrd {r : Est.Rd} (h : B8 r) (vars : List ByteArray) (t : ByteArray) (a : Nat) : B8 (vrd r vars t a) := by
  unfold Ytondkinefmjpjaa.vrd; split; exact h; split; exact h.fail _ _ (by decide); exact h
theorem B8.tR {r : Est.Rd} (h : B8 r) (s : ByteArray) (vars : List ByteArray) : B8 (tR s r vars) := by
  unfold Ytondkinefmjpjaa.tR; split; exact h; split; exact (h.must s _).vrd _ _ _; exact h.must s _
theorem B8.tl (s : ByteArray) (n : Nat) {r : Est.Rd} (h : B8 r) (vars : List ByteArray) (ts : List Int) : B8 (tl s n r vars ts).1 := by
  induction n generalizing r vars ts with
  | zero => exact h
  | succ n ih =>
    by_cases hb : r.bad = 0
    · obtain ⟨r2, hr2⟩ : ∃ r2, (if 3 ≤ ts.length then r.fail 3 r.g.a else r) = r2 := ⟨_, rfl⟩
      have h2 : B8 r2 := by rw [← hr2]; split; exact h.fail _ _ (by decide); exact h
      rw [tl_step s n r r2 vars ts hb hr2]
      split
      · exact ih ((h2.tR s vars).is s 44) _ _
      · exact h2.tR s vars
    · rw [tl_done s _ r vars ts hb]; exact h
theorem B8.aR1 {r : Est.Rd} (h : B8 r) (n : Nat) : B8 (aR1 r n) := by unfold Ytondkinefmjpjaa.aR1; split; exact h.fail _ _ (by decide); exact h
theorem B8.aFinP {r : Est.Rd} (h : B8 r) (s : ByteArray) (pl : List PA) (vars : List ByteArray) : B8 (aFinP s r pl vars) := by
  have h2 : B8 ((aT s r pl.length vars).1.must s 41) := (B8.tl s 5 (((h.aR1 _).must s 114).must s 40) vars []).must s 41
  unfold Ytondkinefmjpjaa.aFinP; split; exact h2.fail _ _ (by decide); exact h2
theorem B8.aStep (s : ByteArray) (x : Est.Rd × List ByteArray × List PA) (h : B8 x.1) : B8 (aStep s x).1 := by
  show B8 (Ytondkinefmjpjaa.aFinP s x.1 x.2.2 x.2.1)
  exact h.aFinP s x.2.2 x.2.1
theorem B8.al (s : ByteArray) (n : Nat) (x : Est.Rd × List ByteArray × List PA) (h : B8 x.1) : B8 (al s n x).1 := by
  induction n generalizing x with
  | zero => exact h
  | succ n ih =>
    unfold Ytondkinefmjpjaa.al; split
    · exact ih _ (B8.aStep s (x.1.next s, x.2.1, x.2.2) h)
    · exact h
theorem B8.hR {r : Est.Rd} (h : B8 r) (s : ByteArray) (ns : List ByteArray) : B8 (hR s r ns) := by
  have h1 : B8 (nShape (r.must s 118) ns r.g.t r.g.a ns.length) := by unfold nShape; split; exact (h.must s 118).fail _ _ (by decide); exact h.must s 118
  unfold Ytondkinefmjpjaa.hR; split; exact h1.fail _ _ (by decide); exact h1
theorem B8.hl (s : ByteArray) (n : Nat) {r : Est.Rd} (h : B8 r) (ns : List ByteArray) (ps : List Nat) : B8 (hl s n r ns ps).1 := by
  induction n generalizing r ns ps with
  | zero => exact h
  | succ n ih =>
    unfold Ytondkinefmjpjaa.hl; split
    · split
      · exact ih ((h.hR s ns).is s 44) _ _
      · exact h.hR s ns
    · exact h
theorem B8.nl (vars ns : List ByteArray) (ps : List Nat) {r : Est.Rd} (h : B8 r) : B8 (nl vars ns ps r) := by
  induction ns generalizing ps with
  | nil => simpa [Ytondkinefmjpjaa.nl] using h
  | cons n ns ih =>
    cases ps with
    | nil => simpa [Ytondkinefmjpjaa.nl] using h
    | cons p ps =>
      unfold Ytondkinefmjpjaa.nl; split
      · split
        · exact ih ps
        · exact h.fail _ _ (by decide)
      · exact h
theorem rN_le (s : ByteArray) : (rN s).bad ≤ 8 := by
  have h0 : B8 (r1 s) := B8.must (r := r00.next s) (Nat.zero_le _) s 40
  have h1 : B8 (TH s).1 := by unfold TH; split; exact B8.hl s 8 h0 [] []; exact h0
  have h2 : B8 (TA s).1 := by unfold TA; exact B8.al s 5 _ (B8.aStep s (((TH s).1.must s 41).must s 58, [], []) ((h1.must s 41).must s 58))
  have h3 : B8 (rE s) := by unfold rE; split; exact (h2.must s 46).fail _ _ (by decide); exact h2.must s 46
  exact B8.nl _ _ _ h3
theorem refE_range (s : ByteArray) : -9223372036854775808 ≤ refE s ∧ refE s ≤ 9223372036854775807 := by
  have := rN_le s
  unfold refE
  split
  · omega
  · split
    · omega
    · split <;> omega

set_option maxHeartbeats 1000000 in
theorem Checks_nil (len cap : Nat) (ao : Option Addr) (w : World) (h0 : len = 0) :
    Calls Try.prog 3 #[.slice ao len cap] w fun x w' => x = .returned (.bool true) ∧ w' = w := by
  subst h0
  go_enter Try.func3, Try.ntmps3
  go_wp2_with fail
  refine wp_loop_rounds 1 ?_
  rw [rounds_succ]
  go_wp2
  go_ret
  exact ⟨rfl, rfl⟩

set_option maxHeartbeats 2000000 in
set_option maxRecDepth 100000 in
theorem Checks_any (hC : CheckSaid) (hP : ParseSaid) (b off len cap : Nat) (K : Nat → Int) (S : Nat → ByteArray) (w : World) (_hlen : len ≤ maxLen) (hb : b < w.heap.size)
    (hK : ∀ i, i < len → w.cell? ⟨b, off + i * 5, none⟩ = some (.int .i64 (K i))) (hS : ∀ i, i < len → w.cell? ⟨b, off + i * 5 + 2, none⟩ = some (.string (S i)) ∧ (S i).size ≤ maxLen) :
    Calls Try.prog 3 #[.slice (some ⟨b, off, none⟩) len cap] w fun x w' => x = .returned (.bool true) ∧ Below w.heap.size w w' := by

  have HS : Hid (∀ i, i < len → w.cell? ⟨b, off + i * 5 + 2, none⟩ = some (.string (S i)) ∧ (S i).size ≤ maxLen) := hS
  have HK : Hid (∀ i, i < len → w.cell? ⟨b, off + i * 5, none⟩ = some (.int .i64 (K i))) := hK
  clear hS hK
  go_enter Try.func3, Try.ntmps3
  go_wp2_with fail
  go_loopw [3, 4, 5, 6, 7, 8] (fun iv _ _ _ _ _ wr => ∃ k : Nat, k ≤ len ∧ iv = .int .i64 k ∧ Below w.heap.size w wr) (fun iv _ _ _ _ _ _ => len - (intOf iv).toNat)
  case atStart => exact ⟨0, Nat.zero_le _, rfl, Below.refl _ _⟩
  case round =>
    obtain ⟨k, hk, rfl, hbel⟩ := hrel
    by_cases hlt : k < len
    · have c0 := (hbel.cell (p := ⟨b, off + k * 5, none⟩) hb).trans (HK.out k hlt)
      have c2 := (hbel.cell (p := ⟨b, off + k * 5 + 2, none⟩) hb).trans (HS.out k hlt).1
      have HZ : Hid ((S k).size ≤ maxLen) := (HS.out k hlt).2
      by_cases hbig : (k : Int) < 1152921504606846976
      · cases hk1 : (K k == 1)
        · go_wp2_with fail
          go_roundw
          case rel => exact ⟨k + 1, by omega, by go_num, hbel⟩
          case measure => simp [intOf]; omega
        · go_wp2_with fail
          refine (hC (S k) _ HZ.out).mono ?_
          rintro e w1 ⟨rfl, hb1⟩
          have hbel1 : Below w.heap.size w w1 := hbel.trans (hb1.mono hbel.size)
          have c2' := (hbel1.cell (p := ⟨b, off + k * 5 + 2, none⟩) hb).trans (HS.out k hlt).1
          clear c0 c2
          go_wp2_with fail
          refine (hP (S k) _ HZ.out).mono ?_
          rintro e w2 ⟨⟨q, rfl⟩, hb2⟩
          have hbel2 : Below w.heap.size w w2 := hbel1.trans (hb2.mono hbel1.size)
          have hr := refE_range (S k)
          generalize refE (S k) = E at hr
          generalize refP (S k) = P
          obtain ⟨hr1, hr2⟩ := hr
          clear c2'
          go_wp2_with (go_at_call 6; refine (num_any E _ ⟨hr1, hr2⟩).mono ?_; rintro e w' ⟨rfl, rfl⟩)
          go_roundw
          case rel => exact ⟨k + 1, by omega, by go_num, hbel2⟩
          case measure => simp [intOf]; omega
      · go_wp2_with fail
        go_ret
        exact ⟨rfl, hbel⟩
    · go_wp2_with fail
      go_ret
      exact ⟨rfl, hbel⟩

end Go.Proofs.Ytondkinefmjpjaa
