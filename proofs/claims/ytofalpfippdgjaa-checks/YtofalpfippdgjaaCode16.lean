import Derived.Test.YtofalpfippdgjaaCode15
namespace Go.Proofs.Ytofalpfippdgjaa
open Go.RowKit

/-- What is left to say of the two calls into slices. -/
def CloneSaid : Prop := ∀ (base : Nat) (sets : List Int) (sv : Value) (w : World), w.ownsRow base 89 1 sv sets.length (u8s sets) → 1 ≤ sets.length → sets.length ≤ 100 →
    Calls Try.prog 47 #[sv] w fun x w' => ∃ v', x = .returned v' ∧ w'.ownsRow w.heap.size 89 1 v' sets.length (u8s sets) ∧ Below w.heap.size w w'
def DeleteSaid : Prop := ∀ (base : Nat) (sets : List Int) (sv : Value) (i : Nat) (w : World), w.ownsRow base 89 1 sv sets.length (u8s sets) → i < sets.length → sets.length ≤ 100 → base ≤ w.heap.size →
    Calls Try.prog 49 #[sv, .int .i64 i, .int .i64 ((i : Int) + 1)] w fun x w' => ∃ v', x = .returned v' ∧ w'.ownsRow base 89 1 v' (sets.length - 1) (u8s (sets.eraseIdx i)) ∧ Below base w w'

theorem fgo_cases (l : List Int) : fgo l = -1 ∨ ∃ i : Nat, i < l.length ∧ fgo l = (i : Int) := by
  unfold fgo
  cases h : (List.range l.length).find? (fun i => goB l i) with
  | none => exact .inl rfl
  | some i => exact .inr ⟨i, List.mem_range.1 (List.mem_of_find?_eq_some h), rfl⟩

def slLen : Value → Nat
  | .slice _ n _ => n
  | _ => 0

set_option maxHeartbeats 2000000 in
theorem makeTree_any (hCl : CloneSaid) (hDe : DeleteSaid) : MakeTreeSaid := by
  intro base sets sv w ho h1 hl
  obtain ⟨sa, scap, rfl⟩ := own_form ho
  go_enter Try.func28, Try.ntmps28
  go_wp2_with fail
  refine (hCl base sets _ w ho h1 hl).mono ?_
  rintro x w1 ⟨v', rfl, ho1, hb1⟩
  obtain ⟨va, vcap, rfl⟩ := own_form ho1
  go_wp2_with fail
  go_loopw [3] (fun iv wr => ∃ (l : List Int) (n : Nat), l.length = n + 1 ∧ n + 1 ≤ 100 ∧ wr.ownsRow w.heap.size 89 1 iv l.length (u8s l) ∧ Below w.heap.size w wr ∧ mt n l = mt (sets.length - 1) sets) (fun iv _ => slLen iv)
  case atStart => exact ⟨sets, sets.length - 1, by omega, by omega, ho1, hb1, rfl⟩
  case round =>
    obtain ⟨l, n, hn, hn1, hol, hbl, hmt⟩ := hrel
    have HM : Hid (mt n l = mt (sets.length - 1) sets) := hmt
    clear hmt
    obtain ⟨la1, lc1, rfl⟩ := own_form hol
    cases n with
    | zero =>
      have hr : Hid (mt (sets.length - 1) sets = true) := HM.out.symm.trans rfl
      go_wp2_with fail
      go_ret
      exact ⟨ret_bool hr.out.symm, hbl⟩
    | succ n =>
      go_wp2_with fail
      refine (firstToGo_any w.heap.size l _ wr (by rw [hn] at hol ⊢; exact hol) (by omega)).mono ?_
      rintro x w2 ⟨rfl, hb2⟩
      have hbl2 : Below w.heap.size w w2 := hbl.trans (hb2.mono hbl.size)
      have hol2 := own_below' hol hb2
      have HM2 : Hid (mt (n + 1) l = if fgo l < 0 then false else mt n (l.eraseIdx (fgo l).toNat)) := rfl
      have hf := fgo_cases l
      obtain ⟨z, hz⟩ : ∃ z, fgo l = z := ⟨_, rfl⟩
      rw [hz] at HM2 hf ⊢
      clear hz
      rcases hf with rfl | ⟨i, hi, rfl⟩
      · have hr : Hid (mt (sets.length - 1) sets = false) := HM.out.symm.trans HM2.out
        go_wp2_with fail
        go_ret
        exact ⟨ret_bool hr.out.symm, hbl2⟩
      · have hr : Hid (mt n (l.eraseIdx i) = mt (sets.length - 1) sets) := by
          refine Eq.trans ?_ (HM2.out.symm.trans HM.out)
          rw [if_neg (by omega)]; rfl
        go_wp2_with fail
        have hle : (l.eraseIdx i).length = n + 1 := by rw [List.length_eraseIdx_of_lt hi]; omega
        refine (hDe w.heap.size l _ i w2 (by rw [hn] at hol2 ⊢; exact hol2) hi (by omega) hbl2.size).mono ?_
        rintro x w3 ⟨v3, rfl, ho3, hb3⟩
        have hbl3 : Below w.heap.size w w3 := hbl2.trans hb3
        rw [hn] at ho3
        obtain ⟨da, dc, rfl⟩ := own_form ho3
        go_wp2_with fail
        go_roundw
        case rel => exact ⟨l.eraseIdx i, n, hle, by omega, by rw [hle]; exact ho3, hbl3, hr.out⟩
        case measure => simp [slLen]; omega

end Go.Proofs.Ytofalpfippdgjaa
