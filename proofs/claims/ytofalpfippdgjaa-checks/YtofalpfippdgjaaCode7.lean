import Derived.Test.YtofalpfippdgjaaCode5
namespace Go.Proofs.Ytofalpfippdgjaa
open Go.RowKit

theorem ccells_at (l : List CA) (k : Nat) (hk : k < l.length) : (ccells l)[k * 3]? = some (.string l[k].rel) ∧ (ccells l)[k * 3 + 1]? = some (.int .i64 l[k].n) ∧ (ccells l)[k * 3 + 2]? = some (.int .u8 l[k].set) := by
  induction l generalizing k with
  | nil => simp at hk
  | cons d l ih =>
    cases k with
    | zero => simp [ccells]
    | succ k =>
      have := ih k (by simpa using hk)
      have e : ccells (d :: l) = [.string d.rel, .int .i64 d.n, .int .u8 d.set] ++ ccells l := by simp [ccells]
      rw [e]
      have e0 : (k + 1) * 3 = k * 3 + 3 := by omega
      rw [e0, List.getElem?_append_right (by simp), List.getElem?_append_right (by simp), List.getElem?_append_right (by simp)]
      simpa using this

/-- Has an atom the relation with another number of terms? -/
def oshape (rel : ByteArray) (n : Nat) (d : CA) : Bool := (d.rel.toList == rel.toList) && ((d.n : Int) != (n : Int))
def oixOf (ats : List CA) (rel : ByteArray) (n : Nat) : Int := if ats.findIdx (oshape rel n) < ats.length then (ats.findIdx (oshape rel n) : Int) else -1

set_option maxHeartbeats 1000000 in
theorem otherShape1_any (d x : CA) (TB : Nat) (w : World) (h0 : w.cell? ⟨TB, 0, none⟩ = some (.string x.rel)) (h1 : w.cell? ⟨TB, 1, none⟩ = some (.int .i64 x.n)) :
    Calls Try.prog 59 #[.agg #[.string d.rel, .int .i64 d.n, .int .u8 d.set], .pointer (some ⟨TB, 0, none⟩)] w fun y w' => y = .returned (.bool (oshape x.rel x.n d)) ∧ Below w.heap.size w w' := by
  have lb := World.block_lt_of_cell? _ _ h0
  have hdef : Hid (oshape x.rel x.n d = ((d.rel.toList == x.rel.toList) && ((d.n : Int) != (x.n : Int)))) := rfl
  cases hc : (d.rel.toList == x.rel.toList)
  · have HD : Hid (oshape x.rel x.n d = false) := by unfold Hid; rw [hdef.out, hc]; rfl
    go_enter Try.func59, Try.ntmps59
    go_wp2
    go_ret
    exact ⟨ret_bool HD.out.symm, (Below.refl _ _).alloc (Nat.le_refl _) _⟩
  · have HD : Hid (oshape x.rel x.n d = ((d.n : Int) != (x.n : Int))) := by unfold Hid; rw [hdef.out, hc]; rfl
    go_enter Try.func59, Try.ntmps59
    go_wp2
    go_ret
    exact ⟨ret_bool HD.out.symm, (Below.refl _ _).alloc (Nat.le_refl _) _⟩

set_option maxHeartbeats 1000000 in
theorem IndexFunc2_any (base TB : Nat) (ats : List CA) (av : Value) (x : CA) (w : World) (ho : w.ownsRow base 93 3 av ats.length (ccells ats)) (hl : ats.length ≤ 1000) (h0 : w.cell? ⟨TB, 0, none⟩ = some (.string x.rel)) (h1 : w.cell? ⟨TB, 1, none⟩ = some (.int .i64 x.n)) :
    Calls Try.prog 63 #[av, .func (.func 59) #[] #[.pointer (some ⟨TB, 0, none⟩)]] w fun y w' => y = .returned (.int .i64 (oixOf ats x.rel x.n)) ∧ Below w.heap.size w w' := by
  obtain ⟨ha, cap, rfl⟩ := own_form ho
  have lt := World.block_lt_of_cell? _ _ h0
  go_enter Try.func63, Try.ntmps63
  go_wp2_with fail
  go_loopw [5, 8] (fun _ i wr => ∃ k : Nat, k ≤ ats.length ∧ i = .int .i64 k ∧ Below w.heap.size w wr ∧ ∀ j (hj : j < ats.length), j < k → oshape x.rel x.n ats[j] = false) (fun _ i _ => ats.length - (intOf i).toNat)
  case atStart => exact ⟨0, Nat.zero_le _, rfl, Below.refl _ _, fun _ _ h => absurd h (Nat.not_lt_zero _)⟩
  case round =>
    obtain ⟨k, hk, rfl, hb, hd'⟩ := hrel
    have HD : Hid (∀ j (hj : j < ats.length), j < k → oshape x.rel x.n ats[j] = false) := hd'
    clear hd'
    have hor := own_below' ho hb
    have hc0 := (hb.cell (p := ⟨TB, 0, none⟩) lt).trans h0
    have hc1 := (hb.cell (p := ⟨TB, 1, none⟩) lt).trans h1
    by_cases hlt : k < ats.length
    · obtain ⟨g, cap', he⟩ := own_some hor (by omega)
      simp only [Value.slice.injEq, true_and] at he
      obtain ⟨rfl, rfl⟩ := he
      obtain ⟨x0, x1, x2⟩ := ccells_at ats k hlt
      have y0 := (hor.cellAt (k * 3) (by omega)).trans x0
      have y1 := (hor.cellAt (k * 3 + 1) (by omega)).trans x1
      have y2 := (hor.cellAt (k * 3 + 2) (by omega)).trans x2
      clear x0 x1 x2
      go_wp2_with fail
      refine (otherShape1_any ats[k] x TB _ hc0 hc1).mono ?_
      rintro e w1 ⟨rfl, hb1⟩
      have hb01 : Below w.heap.size w w1 := hb.trans (hb1.mono hb.size)
      cases hx : oshape x.rel x.n ats[k]
      · go_wp2_with fail
        go_roundw
        case rel => exact ⟨k + 1, by omega, by go_num, hb01, fun j hj hjk => by
          by_cases e : j = k
          · subst e; exact hx
          · exact HD.out j hj (by omega)⟩
        case measure => simp [intOf]; omega
      · have HX : Hid (oixOf ats x.rel x.n = (k : Int)) := by
          have e : ats.findIdx (oshape x.rel x.n) = k := (List.findIdx_eq hlt).2 ⟨hx, fun j hj => HD.out j (by omega) hj⟩
          unfold Hid oixOf; rw [e, if_pos hlt]
        go_wp2_with fail
        go_ret
        exact ⟨ret_int64 HX.out.symm, hb01⟩
    · have HX : Hid (oixOf ats x.rel x.n = -1) := by
        have e : ats.findIdx (oshape x.rel x.n) = ats.length := by
          refine List.findIdx_eq_length.2 (fun y hy => ?_)
          obtain ⟨j, hj, rfl⟩ := List.getElem_of_mem hy
          exact HD.out j hj (by omega)
        unfold Hid oixOf; rw [e, if_neg (by omega)]
      go_wp2_with fail
      go_ret
      exact ⟨ret_int64 HX.out.symm, hb⟩

set_option maxHeartbeats 1000000 in
theorem otherShape_any (b base : Nat) (ats : List CA) (av : Value) (x : CA) (w : World) (hc : w.cell? ⟨b, 6, none⟩ = some av) (ho : w.ownsRow base 93 3 av ats.length (ccells ats)) (hl : ats.length ≤ 1000) :
    Calls Try.prog 52 #[.pointer (some ⟨b, 4, none⟩), .agg #[.string x.rel, .int .i64 x.n, .int .u8 x.set]] w fun y w' => y = .returned (.bool (decide (0 ≤ oixOf ats x.rel x.n))) ∧ Below w.heap.size w w' := by
  obtain ⟨ha, cap, rfl⟩ := own_form ho
  have lb := World.block_lt_of_cell? _ _ hc
  have t0 : (w.alloc (.cells #[.string x.rel, .int .i64 x.n, .int .u8 x.set] 93)).cell? ⟨w.heap.size, 0, none⟩ = some (.string x.rel) := by simp
  have t1 : (w.alloc (.cells #[.string x.rel, .int .i64 x.n, .int .u8 x.set] 93)).cell? ⟨w.heap.size, 1, none⟩ = some (.int .i64 x.n) := by simp
  go_enter Try.func52, Try.ntmps52
  go_wp2_with (go_at_call 58; go_in)
  refine (IndexFunc2_any base w.heap.size ats _ x _ (ho.alloc _) hl t0 t1).mono ?_
  rintro e w1 ⟨rfl, hb1⟩
  obtain ⟨I, hI⟩ : ∃ I, oixOf ats x.rel x.n = I := ⟨_, rfl⟩
  have HI : Hid (oixOf ats x.rel x.n = I) := hI
  rw [hI]
  clear hI
  go_wp2
  go_ret
  exact ⟨ret_bool (by rw [HI.out]), ((Below.refl _ _).alloc (Nat.le_refl _) _).trans (hb1.mono (by simp))⟩

end Go.Proofs.Ytofalpfippdgjaa
