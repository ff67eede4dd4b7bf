import Derived.Test.YtondkinefmjpjaaCode14
namespace Go.Proofs.Ytondkinefmjpjaa
open Go.RowKit

set_option maxHeartbeats 2000000 in
theorem Check_any (s : ByteArray) (w : World) (hs : s.size ≤ maxLen) :
    Calls Try.prog 4 #[.string s] w fun x w' => x = .returned (.tuple #[.int .i64 (pE s), .int .i64 (pA s)]) ∧ Below w.heap.size w w' := by
  go_enter Try.func4, Try.ntmps4
  go_wp2_with fail
  refine (parse_any s _ hs).mono ?_
  rintro x w1 ⟨⟨a0, n0, k0, a1, n1, k1, a2, n2, k2, a3, n3, k3, rfl⟩, hb1⟩
  obtain ⟨E, hE⟩ : ∃ E, pE s = E := ⟨_, rfl⟩
  obtain ⟨A, hA⟩ : ∃ A, pA s = A := ⟨_, rfl⟩
  have HE : Hid (pE s = E ∧ pA s = A) := ⟨hE, hA⟩
  rw [hE, hA]
  clear hE hA
  go_wp2_with fail
  go_region
  all_goals go_wp2
  all_goals
    refine bodyPost_ret (v := .tuple #[.int .i64 E, .int .i64 A]) (by simp [results, Try.results4, go_sem]) rfl ⟨?_, ?_⟩
    · rw [HE.out.1, HE.out.2]
    · refine Below.drew ?_
      exact (hb1.alloc hb1.size _).alloc (by simp; exact Nat.le_succ_of_le hb1.size) _

end Go.Proofs.Ytondkinefmjpjaa
