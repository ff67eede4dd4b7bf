import Derived.Test.YtofalpfippdgjaaCode16
import Derived.Shelf.SlicesE.Clone
namespace Go.Proofs.Ytofalpfippdgjaa
open Go.RowKit Go.Shelf

def Try.laysClone_ren : Go.Shelf.Ren := ⟨fun | 41 => 47 | n => n, fun | 22 => 80 | 23 => 89 | 4 => 4 | n => n, fun | n => n⟩
theorem Try.laysClone : Go.Proofs.SlLaysE0.n41 Try.prog Try.laysClone_ren := {
  mixed := by kernel_rfl
  f41 := ⟨Try.f47.name, by decide, Try.func47.trans (congrArg some (by kernel_rfl))⟩
  t4 := Try.underlying4
  a4 := Try.isAgg4
  z4 := Try.sizeOf4
  v4 := Try.zeroValue4
  t22 := Try.underlying80
  a22 := Try.isAgg80
  z22 := Try.sizeOf80
  v22 := Try.zeroValue80 }

theorem clone_any : CloneSaid := by
  intro base sets sv w ho h1 hl
  obtain ⟨g, cap, rfl⟩ := own_some ho (by omega)
  obtain ⟨i0, hi, hz0, hz1, hz2⟩ := info_parts Try.info89
  refine (AnyE.slices_Clone Try.laysClone i0 (.int .u8 0) 1 1 hi hz0 hz1 hz2 rfl (by decide) Try.sizeOf89 g 0 sets.length cap (u8s sets) w (by simp [u8s]) (by unfold maxLen; omega) (by omega) (fun j u hu => ?_) (fun u hu => ?_)).mono ?_
  · have hj : j < sets.length := by have := (List.getElem?_eq_some_iff.1 hu).1; simpa [u8s] using this
    rw [Nat.zero_add, u8s_at ho rfl j hj, ← hu]; simp [u8s, List.getElem?_map, List.getElem?_eq_getElem hj]
  · obtain ⟨x, _, rfl⟩ := List.mem_map.1 hu
    rfl
  · rintro x w' ⟨v', rfl, h2, _, h4⟩
    exact ⟨v', rfl, h2, h4⟩
end Go.Proofs.Ytofalpfippdgjaa
