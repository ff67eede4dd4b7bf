import Derived.Test.YtondkinefmjpjaaCode16
import Derived.Shelf.SlicesE.DeleteFunc
namespace Go.Proofs.Ytondkinefmjpjaa
open Go.RowKit Go.Shelf Go.Sort

def Try.laysDel_ren : Go.Shelf.Ren := ⟨fun | 10 => 32 | 6 => 52 | n => n, fun | 22 => 23 | 23 => 3 | 25 => 90 | 3 => 3 | 4 => 4 | 0 => 0 | n => n, fun | n => n⟩
theorem Try.laysDel : Go.Proofs.SlLaysH.n10 Try.prog Try.laysDel_ren := {
  mixed := by kernel_rfl
  f6 := ⟨Try.f52.name, by decide, Try.func52.trans (congrArg some (by kernel_rfl))⟩
  f10 := ⟨Try.f32.name, by decide, Try.func32.trans (congrArg some (by kernel_rfl))⟩
  t0 := Try.underlying0
  a0 := Try.isAgg0
  z0 := Try.sizeOf0
  v0 := Try.zeroValue0
  t3 := Try.underlying3
  a3 := Try.isAgg3
  z3 := Try.sizeOf3
  v3 := Try.zeroValue3
  t4 := Try.underlying4
  a4 := Try.isAgg4
  z4 := Try.sizeOf4
  v4 := Try.zeroValue4
  t22 := Try.underlying23
  a22 := Try.isAgg23
  z22 := Try.sizeOf23
  v22 := Try.zeroValue23
  a23 := Try.isAgg3
  z23 := Try.sizeOf3
  t25 := Try.underlying90
  a25 := Try.isAgg90
  z25 := Try.sizeOf90
  v25 := Try.zeroValue90 }

/-- The function that is handed to slices.DeleteFunc. -/
theorem gives33 (lim x : Int) (B : Nat) (W : World) (hc : W.cell? ⟨B, 0, none⟩ = some (.int .i64 lim)) :
    FnGives Try.prog 33 #[.pointer (some ⟨B, 0, none⟩)] #[.int .i64 x] (.bool (x == lim)) W := by
  show Calls Try.prog 33 #[.int .i64 x, .pointer (some ⟨B, 0, none⟩)] W _
  cases hx : (x == lim)
  · go_enter Try.func33, Try.ntmps33
    go_wp2
    go_ret
    exact ⟨rfl, 0, rfl⟩
  · go_enter Try.func33, Try.ntmps33
    go_wp2
    go_ret
    exact ⟨rfl, 0, rfl⟩
theorem pred33 (lim : Int) (B : Nat) (w : World) (hB : B < w.heap.size) (hcell : w.cell? ⟨B, 0, none⟩ = some (.int .i64 lim)) :
    PredAt Try.prog 33 #[.pointer (some ⟨B, 0, none⟩)] (Value.int .i64) (fun x => x == lim) w :=
  fun W x hb => gives33 lim x B W ((hb.cell (p := ⟨B, 0, none⟩) hB).trans hcell)
theorem over33 (lim : Int) (B blk off size : Nat) (w : World) (hB : B < w.heap.size) (hne : B ≠ blk) (hcell : w.cell? ⟨B, 0, none⟩ = some (.int .i64 lim)) :
    PredOver Try.prog 33 #[.pointer (some ⟨B, 0, none⟩)] (Value.int .i64) (fun x => x == lim) blk off size w :=
  fun n os dk x _ => gives33 lim x B _ (by
    unfold sortWorld
    rw [cell?_grow _ _ _ (by show B < (putRow _ _ _ _ _).heap.size; rw [size_putRow]; exact hB), cell?_putRow_other _ _ blk off _ _ (Or.inl hne)]
    exact hcell)

def i64s (l : List Int) : List Value := l.map (Value.int .i64)
def ups (l : List Nat) : List Int := l.map fun (n : Nat) => (n : Int)
theorem nats_eq (l : List Nat) : nats l = i64s (ups l) := by simp [nats, i64s, ups]
theorem ups_filter (l : List Nat) (g : Nat) : (ups l).filter (fun x => !(x == (g : Int))) = ups (l.filter (· != g)) := by
  unfold ups; rw [List.filter_map]
  congr 1
  apply List.filter_congr
  intro x _
  by_cases h : x = g
  · subst h; simp
  · have h1 : ((x : Int) == (g : Int)) = false := beq_eq_false_iff_ne.2 (by omega)
    have h2 : (x == g) = false := beq_eq_false_iff_ne.2 h
    simp [bne, h1, h2]
theorem ups_len (l : List Nat) : (ups l).length = l.length := by simp [ups]

theorem holds_i64 {w : World} {g : Nat} {cur : Array Value} {e : TypeId} {ss : List Int} (hb : w.heap[g]? = some (.cells cur e (0, 0))) (ht : cur.toList.take ss.length = i64s ss) : Holds (Value.int .i64) w g 0 ss.toArray := by
  intro j hj
  have hj' : j < ss.length := by simpa using hj
  refine ⟨?_, by simp [World.frozen?, hb]⟩
  have h1 : (cur.toList.take ss.length)[j]? = (i64s ss)[j]? := by rw [ht]
  rw [List.getElem?_take_of_lt hj'] at h1
  simp only [World.cell?, hb, Nat.zero_add]
  simp only [Option.isSome_none, Bool.false_eq_true, if_false]
  rw [← Array.getElem?_toList, h1]
  simp [i64s, hj']
theorem heap_put64 {w : World} {g n : Nat} {cur : Array Value} {e : TypeId} {fr : Nat × Nat} (d : Array Int) (hb : w.heap[g]? = some (.cells cur e fr)) :
    (putRow (Value.int .i64) (Sort.ahead w n) g 0 d).heap[g]? = some (.cells (putCells (Value.int .i64) 0 d cur) e fr) := by
  simp [putRow, mapBlock, Sort.ahead, Array.getElem?_modify, hb, onCells]
theorem keeps_put64 {w : World} {g n : Nat} (d : Array Int) : Keeps (fun k _ => k = g) w (putRow (Value.int .i64) (Sort.ahead w n) g 0 d) := by
  refine ⟨rfl, rfl, rfl, by simp [putRow, mapBlock, Sort.ahead], fun k hk hne => ?_⟩
  have : g ≠ k := fun e => hne e.symm
  simp [putRow, mapBlock, Sort.ahead, Array.getElem?_modify, this]
theorem take_put64 (cur : Array Value) (ts zs : List Int) (h : ts.length + zs.length ≤ cur.size) : (putCells (Value.int .i64) 0 (ts ++ zs).toArray cur).toList.take ts.length = i64s ts := by
  apply List.ext_getElem?
  intro j
  by_cases hj : j < ts.length
  · rw [List.getElem?_take_of_lt hj, Array.getElem?_toList]
    have hj2 : j < ts.length + zs.length := by omega
    simp [putCells, i64s, hj, hj2, show j < cur.size by omega, List.getElem_append_left hj]
  · rw [List.getElem?_take_eq_none (by omega), List.getElem?_eq_none (by simp [i64s]; omega)]

theorem delete_any (base EB : Nat) (left : List Nat) (lv : Value) (g : Nat) (w : World) (ho : w.ownsRow base 3 1 lv left.length (nats left)) (h1 : 1 ≤ left.length) (hl : left.length ≤ 100) (hc : w.cell? ⟨EB, 0, none⟩ = some (.int .i64 g)) (ht : tag w.heap[EB]? = 86) :
    Calls Try.prog 32 #[lv, .func (.func 33) #[] #[.pointer (some ⟨EB, 0, none⟩)]] w fun x w' => ∃ v', x = .returned v' ∧ w'.ownsRow base 3 1 v' (left.filter (· != g)).length (nats (left.filter (· != g))) ∧ Keeps (fun k _ => lv.ownBlock = some k) w w' := by
  rcases ho.2 with ⟨_, h0⟩ | ⟨blk, cap, cur, rfl, hg, hblk, hn, hcap, hcs, htk⟩
  · omega
  rw [Nat.mul_one] at htk hcs
  rw [nats_eq, ← ups_len left] at htk
  have hH := holds_i64 hblk htk
  have hEB := World.block_lt_of_cell? _ _ hc
  have hne : EB ≠ blk := fun e => by rw [e, hblk] at ht; simp [tag] at ht
  have eg : ∀ args w, (callFunc 33 args).run Try.prog w = .ok (.enter 33 args) w := enters_of Try.func33 (by kernel_rfl) rfl
  have h := AnyE.slices_DeleteFunc Try.laysDel (Value.int .i64) (fun _ => rfl) (fun x => x == (g : Int)) 33 #[.pointer (some ⟨EB, 0, none⟩)] eg 0 Try.zeroValue3 blk 0 cap (ups left).toArray w
    (pred33 g EB w hEB hc) (over33 g EB blk 0 _ w hEB hne hc) hH (by simp [ups_len]; omega) (by simpa [ups_len] using hn)
  have hfl : (left.filter (· != g)).length ≤ left.length := List.length_filter_le _ _
  simp only [List.size_toArray, ups_len, ups_filter] at h
  refine Calls.mono h ?_
  rintro x w' ⟨rfl, q, rfl⟩
  refine ⟨_, rfl, ⟨by simp [nats], .inr ⟨blk, cap, _, rfl, hg, heap_put64 _ hblk, by omega, hcap, by simp [putCells, hcs], ?_⟩⟩, ?_⟩
  · rw [Nat.mul_one, nats_eq, ← ups_len (left.filter (· != g))]
    exact take_put64 cur _ _ (by simp [ups_len]; omega)
  · exact (keeps_put64 _).mono (fun k _ e => by rw [e]; rfl)

end Go.Proofs.Ytondkinefmjpjaa
