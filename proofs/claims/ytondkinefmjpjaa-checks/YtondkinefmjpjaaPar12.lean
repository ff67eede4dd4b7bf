import Derived.Test.YtondkinefmjpjaaPar6
import Derived.Test.YtondkinefmjpjaaPar8
import Derived.Test.YtondkinefmjpjaaPar10
import Derived.Test.YtondkinefmjpjaaPar11
namespace Go.Proofs.Ytondkinefmjpjaa
open Go.RowKit

set_option maxHeartbeats 32000000 in
set_option maxRecDepth 100000 in
theorem Parse_any (s : ByteArray) (w : World) (hs : s.size ≤ maxLen) :
    Calls Try.prog 5 #[.string s] w fun x w' => (∃ q, x = .returned (.tuple #[q, .int .i64 (refE s), .int .i64 (refP s)])) ∧ Below w.heap.size w w' := by
  by_cases h200 : 200 < s.size
  · go_enter Try.func5, Try.ntmps5
    go_wp2_with fail
    go_ret3
    refine ⟨⟨.pointer none, ?_⟩, Below.refl _ _⟩
    rw [show refE s = 1 from by unfold refE; rw [if_pos h200], show refP s = 0 from by unfold refP; rw [if_pos h200]]
    rfl
  · exact (cutA s w hs h200).pf ⟨head_loop s w hs h200⟩ ⟨(cutC s w hs h200).pf ⟨atoms_loop s w hs h200⟩ ⟨(cutE s w hs h200).pf ⟨names_loop s w hs h200⟩ ⟨last_part s w hs h200⟩⟩⟩

end Go.Proofs.Ytondkinefmjpjaa
