import Derived.Test.YtondkinefmjpjaaCode5
namespace Go.Proofs.Ytondkinefmjpjaa
open Go.RowKit

theorem ccells_at (l : List CA) (ts : List (Option Addr × Nat)) (hts : ts.length = l.length) (k : Nat) (hk : k < l.length) : ∃ t : Option Addr × Nat, (ccells l ts)[k * 3]? = some (.string l[k].rel) ∧ (ccells l ts)[k * 3 + 1]? = some (.slice t.1 l[k].n t.2) ∧ (ccells l ts)[k * 3 + 2]? = some (.int .u8 l[k].set) := by
  induction l generalizing k ts with
  | nil => simp at hk
  | cons d l ih =>
    cases ts with
    | nil => simp at hts
    | cons t ts =>
      cases k with
      | zero => exact ⟨t, by simp [ccells, ccell]⟩
      | succ k =>
        obtain ⟨t', h'⟩ := ih ts (by simpa using hts) k (by simpa using hk)
        refine ⟨t', ?_⟩
        have e : ccells (d :: l) (t :: ts) = [.string d.rel, .slice t.1 d.n t.2, .int .u8 d.set] ++ ccells l ts := by simp [ccells, ccell]
        rw [e]
        have e0 : (k + 1) * 3 = k * 3 + 3 := by omega
        rw [e0, List.getElem?_append_right (by simp), List.getElem?_append_right (by simp), List.getElem?_append_right (by simp)]
        simpa using h'

/-- Has an atom the relation with another number of terms? -/
def oshape (rel : ByteArray) (n : Nat) (d : CA) : Bool := (d.rel.toList == rel.toList) && ((d.n : Int) != (n : Int))
def oixOf (ats : List CA) (rel : ByteArray) (n : Nat) : Int := if ats.findIdx (oshape rel n) < ats.length then (ats.findIdx (oshape rel n) : Int) else -1

set_option maxHeartbeats 1000000 in
theorem otherShape1_any (d x : CA) (da xa : Option Addr) (dc xc : Nat) (TB : Nat) (w : World) (h0 : w.cell? ⟨TB, 0, none⟩ = some (.string x.rel)) (h1 : w.cell? ⟨TB, 1, none⟩ = some (.slice xa x.n xc)) :
    Calls Try.prog 61 #[.agg #[.string d.rel, .slice da d.n dc, .int .u8 d.set], .pointer (some ⟨TB, 0, none⟩)] w fun y w' => y = .returned (.bool (oshape x.rel x.n d)) ∧ Below w.heap.size w w' := by
  have lb := World.block_lt_of_cell? _ _ h0
  have hdef : Hid (oshape x.rel x.n d = ((d.rel.toList == x.rel.toList) && ((d.n : Int) != (x.n : Int)))) := rfl
  cases hc : (d.rel.toList == x.rel.toList)
  · have HD : Hid (oshape x.rel x.n d = false) := by unfold Hid; rw [hdef.out, hc]; rfl
    go_enter Try.func61, Try.ntmps61
    go_wp2
    go_ret
    exact ⟨ret_bool HD.out.symm, (Below.refl _ _).alloc (Nat.le_refl _) _⟩
  · have HD : Hid (oshape x.rel x.n d = ((d.n : Int) != (x.n : Int))) := by unfold Hid; rw [hdef.out, hc]; rfl
    go_enter Try.func61, Try.ntmps61
    go_wp2
    go_ret
    exact ⟨ret_bool HD.out.symm, (Below.refl _ _).alloc (Nat.le_refl _) _⟩

set_option maxHeartbeats 1000000 in
theorem IndexFunc2_any (base TB : Nat) (ats : List CA) (ts : List (Option Addr × Nat)) (hts : ts.length = ats.length) (av : Value) (x : CA) (xa : Option Addr) (xc : Nat) (w : World) (ho : w.ownsRow base 95 3 av ats.length (ccells ats ts)) (hl : ats.length ≤ 1000) (h0 : w.cell? ⟨TB, 0, none⟩ = some (.string x.rel)) (h1 : w.cell? ⟨TB, 1, none⟩ = some (.slice xa x.n xc)) :
    Calls Try.prog 65 #[av, .func (.func 61) #[] #[.pointer (some ⟨TB, 0, none⟩)]] w fun y w' => y = .returned (.int .i64 (oixOf ats x.rel x.n)) ∧ Below w.heap.size w w' := by
  obtain ⟨ha, cap, rfl⟩ := own_form ho
  have lt := World.block_lt_of_cell? _ _ h0
  go_enter Try.func65, Try.ntmps65
  go_wp2_with fail
  go_loopw [5, 8] (fun _ i wr => ∃ k : Nat, k ≤ ats.length ∧ i = .int .i64 k ∧ Below w.heap.size w wr ∧ ∀ j (hj : j < ats.length), j < k → oshape x.rel x.n ats[j] = false) (fun _ i _ => ats.length - (intOf i).toNat)
  case atStart => exact ⟨0, Nat.zero_le _, rfl, Below.refl _ _, fun _ _ h => absurd h (Nat.not_lt_zero _)⟩
  case round =>
    obtain ⟨k, hk, rfl, hb, hd'⟩ := hrel
    have HD : Hid (∀ j (hj : j < ats.length), j < k → oshape x.rel x.n ats[j] = false) := hd'
    clear hd'
    have hor := own_below' ho hb
    have hc0 := (hb.cell (p := ⟨TB, 0, none⟩) lt).trans h0
    have hc1 := (hb.cell (p := ⟨TB, 1, none⟩) lt).trans h1
    by_cases hlt : k < ats.length
    · obtain ⟨g, cap', he⟩ := own_some hor (by omega)
      simp only [Value.slice.injEq, true_and] at he
      obtain ⟨rfl, rfl⟩ := he
      obtain ⟨⟨da, dc⟩, x0, x1, x2⟩ := ccells_at ats ts hts k hlt
      have y0 := (hor.cellAt (k * 3) (by omega)).trans x0
      have y1 := (hor.cellAt (k * 3 + 1) (by omega)).trans x1
      have y2 := (hor.cellAt (k * 3 + 2) (by omega)).trans x2
      clear x0 x1 x2
      go_wp2_with fail
      refine (otherShape1_any ats[k] x da xa dc xc TB _ hc0 hc1).mono ?_
      rintro e w1 ⟨rfl, hb1⟩
      have hb01 : Below w.heap.size w w1 := hb.trans (hb1.mono hb.size)
      cases hx : oshape x.rel x.n ats[k]
      · go_wp2_with fail
        go_roundw
        case rel => exact ⟨k + 1, by omega, by go_num, hb01, fun j hj hjk => by
          by_cases e : j = k
          · subst e; exact hx
          · exact HD.out j hj (by omega)⟩
        case measure => simp [intOf]; omega
      · have HX : Hid (oixOf ats x.rel x.n = (k : Int)) := by
          have e : ats.findIdx (oshape x.rel x.n) = k := (List.findIdx_eq hlt).2 ⟨hx, fun j hj => HD.out j (by omega) hj⟩
          unfold Hid oixOf; rw [e, if_pos hlt]
        go_wp2_with fail
        go_ret
        exact ⟨ret_int64 HX.out.symm, hb01⟩
    · have HX : Hid (oixOf ats x.rel x.n = -1) := by
        have e : ats.findIdx (oshape x.rel x.n) = ats.length := by
          refine List.findIdx_eq_length.2 (fun y hy => ?_)
          obtain ⟨j, hj, rfl⟩ := List.getElem_of_mem hy
          exact HD.out j hj (by omega)
        unfold Hid oixOf; rw [e, if_neg (by omega)]
      go_wp2_with fail
      go_ret
      exact ⟨ret_int64 HX.out.symm, hb⟩

set_option maxHeartbeats 1000000 in
theorem otherShape_any (b base : Nat) (ats : List CA) (av : Value) (x : CA) (xa : Option Addr) (xc : Nat) (w : World) (hc : w.cell? ⟨b, 6, none⟩ = some av) (hA : AR w base av ats) (hl : ats.length ≤ 1000) :
    Calls Try.prog 55 #[.pointer (some ⟨b, 4, none⟩), .agg #[.string x.rel, .slice xa x.n xc, .int .u8 x.set]] w fun y w' => y = .returned (.bool (decide (0 ≤ oixOf ats x.rel x.n))) ∧ Below w.heap.size w w' := by
  obtain ⟨ts, hts, ho⟩ := hA
  obtain ⟨ha, cap, rfl⟩ := own_form ho
  have lb := World.block_lt_of_cell? _ _ hc
  have t0 : (w.alloc (.cells #[.string x.rel, .slice xa x.n xc, .int .u8 x.set] 95)).cell? ⟨w.heap.size, 0, none⟩ = some (.string x.rel) := by simp
  have t1 : (w.alloc (.cells #[.string x.rel, .slice xa x.n xc, .int .u8 x.set] 95)).cell? ⟨w.heap.size, 1, none⟩ = some (.slice xa x.n xc) := by simp
  go_enter Try.func55, Try.ntmps55
  go_wp2_with (go_at_call 60; go_in)
  refine (IndexFunc2_any base w.heap.size ats ts hts _ x xa xc _ (ho.alloc _) hl t0 t1).mono ?_
  rintro e w1 ⟨rfl, hb1⟩
  obtain ⟨I, hI⟩ : ∃ I, oixOf ats x.rel x.n = I := ⟨_, rfl⟩
  have HI : Hid (oixOf ats x.rel x.n = I) := hI
  rw [hI]
  clear hI
  go_wp2
  go_ret
  exact ⟨ret_bool (by rw [HI.out]), ((Below.refl _ _).alloc (Nat.le_refl _) _).trans (hb1.mono (by simp))⟩

end Go.Proofs.Ytondkinefmjpjaa
