import Derived.Test.YtofalpfippdgjaaCode17
import Derived.Shelf.SlicesE.Delete
namespace Go.Proofs.Ytofalpfippdgjaa
open Go.RowKit Go.Shelf Go.Sort

def Try.laysDelete_ren : Go.Shelf.Ren := ⟨fun | 45 => 49 | n => n, fun | 22 => 80 | 23 => 89 | 3 => 3 | 4 => 4 | 0 => 0 | n => n, fun | n => n⟩
theorem Try.laysDelete : Go.Proofs.SlLaysE.n45 Try.prog Try.laysDelete_ren := {
  mixed := by kernel_rfl
  f45 := ⟨Try.f49.name, by decide, Try.func49.trans (congrArg some (by kernel_rfl))⟩
  t0 := Try.underlying0
  a0 := Try.isAgg0
  z0 := Try.sizeOf0
  v0 := Try.zeroValue0
  t3 := Try.underlying3
  a3 := Try.isAgg3
  z3 := Try.sizeOf3
  v3 := Try.zeroValue3
  t4 := Try.underlying4
  a4 := Try.isAgg4
  z4 := Try.sizeOf4
  v4 := Try.zeroValue4
  t22 := Try.underlying80
  a22 := Try.isAgg80
  z22 := Try.sizeOf80
  v22 := Try.zeroValue80
  a23 := Try.isAgg89
  z23 := Try.sizeOf89 }

theorem holds_u8 {w : World} {g : Nat} {cur : Array Value} {e : TypeId} {ss : List Int} (hb : w.heap[g]? = some (.cells cur e (0, 0))) (ht : cur.toList.take ss.length = u8s ss) : Holds (Value.int .u8) w g 0 ss.toArray := by
  intro j hj
  have hj' : j < ss.length := by simpa using hj
  refine ⟨?_, by simp [World.frozen?, hb]⟩
  have h1 : (cur.toList.take ss.length)[j]? = (u8s ss)[j]? := by rw [ht]
  rw [List.getElem?_take_of_lt hj'] at h1
  simp only [World.cell?, hb, Nat.zero_add]
  simp only [Option.isSome_none, Bool.false_eq_true, if_false]
  rw [← Array.getElem?_toList, h1]
  simp [u8s, hj']

theorem heap_put8 {w : World} {g n : Nat} {cur : Array Value} {e : TypeId} {fr : Nat × Nat} (d : Array Int) (hb : w.heap[g]? = some (.cells cur e fr)) :
    (putRow (Value.int .u8) (Sort.ahead w n) g 0 d).heap[g]? = some (.cells (putCells (Value.int .u8) 0 d cur) e fr) := by
  simp [putRow, mapBlock, Sort.ahead, Array.getElem?_modify, hb, onCells]

theorem below_put8 {w : World} {base g n : Nat} (d : Array Int) (h : base ≤ g) : Below base w (putRow (Value.int .u8) (Sort.ahead w n) g 0 d) := by
  refine ⟨rfl, rfl, rfl, by simp [putRow, mapBlock, Sort.ahead], fun k hk => ?_⟩
  have : g ≠ k := by omega
  simp [putRow, mapBlock, Sort.ahead, Array.getElem?_modify, this]

theorem take_put8 (cur : Array Value) (ts zs : List Int) (h : ts.length + zs.length ≤ cur.size) : (putCells (Value.int .u8) 0 (ts ++ zs).toArray cur).toList.take ts.length = u8s ts := by
  apply List.ext_getElem?
  intro j
  by_cases hj : j < ts.length
  · rw [List.getElem?_take_of_lt hj, Array.getElem?_toList]
    have hj2 : j < ts.length + zs.length := by omega
    simp [putCells, u8s, hj, hj2, show j < cur.size by omega, List.getElem_append_left hj]
  · rw [List.getElem?_take_eq_none (by omega), List.getElem?_eq_none (by simp [u8s]; omega)]

theorem delete_any : DeleteSaid := by
  intro base sets sv i w ho hi hl hb
  rcases ho.2 with ⟨_, h0⟩ | ⟨g, cap, cur, rfl, hg, hblk, hn, hcap, hcs, htk⟩
  · omega
  obtain ⟨i0, hi0, hz0, hz1, hz2⟩ := info_parts Try.info89
  rw [Nat.mul_one] at htk hcs
  have hH := holds_u8 hblk htk
  have h := AnyE.slices_Delete Try.laysDelete (Value.int .u8) (fun _ => rfl) (0 : Int) Try.zeroValue89 i0 hi0 hz1 g 0 cap i (i + 1) sets.toArray w hH (by simpa using hn) (by unfold maxLen at hcap; omega) (by omega) (by simp; omega)
  have e1 : ((i + 1 : Nat) : Int) = (i : Int) + 1 := by omega
  have e2 : i + 1 - i = 1 := by omega
  have e3 : sets.take i ++ sets.drop (i + 1) = sets.eraseIdx i := (List.eraseIdx_eq_take_drop_succ ..).symm
  simp only [List.size_toArray, e1, e2, e3] at h
  refine Calls.mono h ?_
  rintro x w' ⟨rfl, q, rfl⟩
  have hle : (sets.eraseIdx i).length = sets.length - 1 := List.length_eraseIdx_of_lt hi
  refine ⟨_, rfl, ⟨by simp [u8s, hle], .inr ⟨g, cap, _, rfl, hg, heap_put8 _ hblk, by omega, hcap, by simp [putCells, hcs], ?_⟩⟩, below_put8 _ hg⟩
  rw [Nat.mul_one, ← hle]
  exact take_put8 cur _ _ (by simp [hle]; omega)

theorem makeTree_said : MakeTreeSaid := makeTree_any clone_any delete_any
end Go.Proofs.Ytofalpfippdgjaa
