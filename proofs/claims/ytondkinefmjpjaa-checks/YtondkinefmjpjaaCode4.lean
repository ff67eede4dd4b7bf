import Derived.Test.YtondkinefmjpjaaCode2
import Derived.Test.YtondkinefmjpjaaRef7
namespace Go.Proofs.Ytondkinefmjpjaa
open Go.RowKit

theorem own_below' {w w' : World} {base : Nat} {e : TypeId} {size : Nat} {v : Value} {n : Nat} {xs : List Value} (h : w.ownsRow base e size v n xs) (hb : Below w.heap.size w w') : w'.ownsRow base e size v n xs := by
  refine ⟨h.1, ?_⟩
  rcases h.2 with hn | ⟨g, cap, cur, rfl, h1, h2, rest⟩
  · exact .inl hn
  · exact .inr ⟨g, cap, cur, rfl, h1, (hb.block g (lt_of_block h2)).trans h2, rest⟩

/-- Where a text is, or -1. -/
def ixOf (vars : List ByteArray) (t : ByteArray) : Int := if vars.findIdx (fun v => t.toList == v.toList) < vars.length then (vars.findIdx (fun v => t.toList == v.toList) : Int) else -1

set_option maxHeartbeats 1000000 in
theorem Index_any (base : Nat) (vars : List ByteArray) (vv : Value) (t : ByteArray) (w : World) (ho : w.ownsRow base 9 1 vv vars.length (strs vars)) (hl : vars.length ≤ 1000) :
    Calls Try.prog 50 #[vv, .string t] w fun x w' => x = .returned (.int .i64 (ixOf vars t)) ∧ w' = w := by
  obtain ⟨va, cap, rfl⟩ := own_form ho
  go_enter Try.func50, Try.ntmps50
  go_wp2
  go_loop [5, 8] (fun _ i => ∃ k : Nat, k ≤ vars.length ∧ i = .int .i64 k ∧ ∀ j (hj : j < vars.length), j < k → (t.toList == vars[j].toList) = false) (fun _ i => vars.length - (intOf i).toNat)
  case atStart => exact ⟨0, Nat.zero_le _, rfl, fun _ _ h => absurd h (Nat.not_lt_zero _)⟩
  case round =>
    obtain ⟨k, hk, rfl, hd⟩ := hrel
    have HD : Hid (∀ j (hj : j < vars.length), j < k → (t.toList == vars[j].toList) = false) := hd
    clear hd
    by_cases hlt : k < vars.length
    · obtain ⟨g, cap', he⟩ := own_some ho (by omega)
      simp only [Value.slice.injEq, true_and] at he
      obtain ⟨rfl, rfl⟩ := he
      have hc := ho.cellAt k (by omega)
      simp only [strs, List.getElem?_map, List.getElem?_eq_getElem hlt, Option.map_some] at hc
      cases hb : (t.toList == vars[k].toList)
      · go_wp2
        go_round
        case rel => exact ⟨k + 1, by omega, by go_num, fun j hj hjk => by
          by_cases e : j = k
          · subst e; exact hb
          · exact HD.out j hj (by omega)⟩
        case measure => simp [intOf]; omega
      · have HX : Hid (ixOf vars t = (k : Int)) := by
          have e : vars.findIdx (fun v => t.toList == v.toList) = k := (List.findIdx_eq hlt).2 ⟨hb, fun j hj => HD.out j (by omega) hj⟩
          unfold Hid ixOf; rw [e, if_pos hlt]
        go_wp2
        go_ret
        exact ⟨ret_int64 HX.out.symm, rfl⟩
    · have HX : Hid (ixOf vars t = -1) := by
        have e : vars.findIdx (fun v => t.toList == v.toList) = vars.length := by
          refine List.findIdx_eq_length.2 (fun x hx => ?_)
          obtain ⟨j, hj, rfl⟩ := List.getElem_of_mem hx
          exact HD.out j hj (by omega)
        unfold Hid ixOf; rw [e, if_neg (by omega)]
      go_wp2
      go_ret
      exact ⟨ret_int64 HX.out.symm, rfl⟩

set_option maxHeartbeats 1000000 in
theorem varNumber_any (b base : Nat) (vars : List ByteArray) (vv : Value) (t : ByteArray) (w : World) (hc : w.cell? ⟨b, 5, none⟩ = some vv) (ho : w.ownsRow base 9 1 vv vars.length (strs vars)) (hl : vars.length ≤ 1000) :
    Calls Try.prog 29 #[.pointer (some ⟨b, 4, none⟩), .string t] w fun x w' => x = .returned (.int .i64 (ixOf vars t)) ∧ w' = w := by
  go_enter Try.func29, Try.ntmps29
  go_wp2_with fail
  refine (Index_any base vars vv t _ ho hl).mono ?_
  rintro e w' ⟨rfl, rfl⟩
  obtain ⟨I, hI⟩ : ∃ I, ixOf vars t = I := ⟨_, rfl⟩
  have HI : Hid (ixOf vars t = I) := hI
  rw [hI]
  clear hI
  go_wp2
  go_ret
  exact ⟨ret_int64 (by rw [HI.out]), rfl⟩

/-- Pieces as they lie in memory. -/
def pcells (l : List Est.Pc) : List Value := l.flatMap fun p => [.int .i64 p.k, .string p.t, .int .i64 p.a]
theorem pcells_snoc (l : List Est.Pc) (p : Est.Pc) : pcells (l ++ [p]) = pcells l ++ [.int .i64 p.k, .string p.t, .int .i64 p.a] := by simp [pcells]
theorem pcells_at (l : List Est.Pc) (k : Nat) (hk : k < l.length) : (pcells l)[k * 3]? = some (.int .i64 l[k].k) ∧ (pcells l)[k * 3 + 1]? = some (.string l[k].t) ∧ (pcells l)[k * 3 + 2]? = some (.int .i64 l[k].a) := by
  induction l generalizing k with
  | nil => simp at hk
  | cons d l ih =>
    cases k with
    | zero => simp [pcells]
    | succ k =>
      have := ih k (by simpa using hk)
      have e : pcells (d :: l) = [.int .i64 d.k, .string d.t, .int .i64 d.a] ++ pcells l := by simp [pcells]
      rw [e]
      have e0 : (k + 1) * 3 = k * 3 + 3 := by omega
      rw [e0, List.getElem?_append_right (by simp), List.getElem?_append_right (by simp), List.getElem?_append_right (by simp)]
      simpa using this

/-- Where a piece of that text is, or -1. -/
def pixOf (hd : List Est.Pc) (t : ByteArray) : Int := if hd.findIdx (fun p => p.t.toList == t.toList) < hd.length then (hd.findIdx (fun p => p.t.toList == t.toList) : Int) else -1

set_option maxHeartbeats 1000000 in
theorem headHas1_any (p : Est.Pc) (TB : Nat) (t : ByteArray) (w : World) (hc : w.cell? ⟨TB, 0, none⟩ = some (.string t)) :
    Calls Try.prog 57 #[.agg #[.int .i64 p.k, .string p.t, .int .i64 p.a], .pointer (some ⟨TB, 0, none⟩)] w fun x w' => x = .returned (.bool (p.t.toList == t.toList)) ∧ Below w.heap.size w w' := by
  have lb := World.block_lt_of_cell? _ _ hc
  go_enter Try.func57, Try.ntmps57
  go_wp2
  go_ret
  exact ⟨rfl, (Below.refl _ _).alloc (Nat.le_refl _) _⟩

set_option maxHeartbeats 1000000 in
theorem IndexFunc1_any (base TB : Nat) (hd : List Est.Pc) (hv : Value) (t : ByteArray) (w : World) (ho : w.ownsRow base 58 3 hv hd.length (pcells hd)) (hl : hd.length ≤ 1000) (hc : w.cell? ⟨TB, 0, none⟩ = some (.string t)) :
    Calls Try.prog 62 #[hv, .func (.func 57) #[] #[.pointer (some ⟨TB, 0, none⟩)]] w fun x w' => x = .returned (.int .i64 (pixOf hd t)) ∧ Below w.heap.size w w' := by
  obtain ⟨ha, cap, rfl⟩ := own_form ho
  have lt := World.block_lt_of_cell? _ _ hc
  go_enter Try.func62, Try.ntmps62
  go_wp2_with fail
  go_loopw [5, 8] (fun _ i wr => ∃ k : Nat, k ≤ hd.length ∧ i = .int .i64 k ∧ Below w.heap.size w wr ∧ ∀ j (hj : j < hd.length), j < k → (hd[j].t.toList == t.toList) = false) (fun _ i _ => hd.length - (intOf i).toNat)
  case atStart => exact ⟨0, Nat.zero_le _, rfl, Below.refl _ _, fun _ _ h => absurd h (Nat.not_lt_zero _)⟩
  case round =>
    obtain ⟨k, hk, rfl, hb, hd'⟩ := hrel
    have HD : Hid (∀ j (hj : j < hd.length), j < k → (hd[j].t.toList == t.toList) = false) := hd'
    clear hd'
    have hor := own_below' ho hb
    have hcr := (hb.cell (p := ⟨TB, 0, none⟩) lt).trans hc
    by_cases hlt : k < hd.length
    · obtain ⟨g, cap', he⟩ := own_some hor (by omega)
      simp only [Value.slice.injEq, true_and] at he
      obtain ⟨rfl, rfl⟩ := he
      obtain ⟨x0, x1, x2⟩ := pcells_at hd k hlt
      have y0 := (hor.cellAt (k * 3) (by omega)).trans x0
      have y1 := (hor.cellAt (k * 3 + 1) (by omega)).trans x1
      have y2 := (hor.cellAt (k * 3 + 2) (by omega)).trans x2
      clear x0 x1 x2
      go_wp2_with fail
      refine (headHas1_any hd[k] TB t _ hcr).mono ?_
      rintro e w1 ⟨rfl, hb1⟩
      have hb01 : Below w.heap.size w w1 := hb.trans (hb1.mono hb.size)
      cases hx : (hd[k].t.toList == t.toList)
      · go_wp2_with fail
        go_roundw
        case rel => exact ⟨k + 1, by omega, by go_num, hb01, fun j hj hjk => by
          by_cases e : j = k
          · subst e; exact hx
          · exact HD.out j hj (by omega)⟩
        case measure => simp [intOf]; omega
      · have HX : Hid (pixOf hd t = (k : Int)) := by
          have e : hd.findIdx (fun p => p.t.toList == t.toList) = k := (List.findIdx_eq hlt).2 ⟨hx, fun j hj => HD.out j (by omega) hj⟩
          unfold Hid pixOf; rw [e, if_pos hlt]
        go_wp2_with fail
        go_ret
        exact ⟨ret_int64 HX.out.symm, hb01⟩
    · have HX : Hid (pixOf hd t = -1) := by
        have e : hd.findIdx (fun p => p.t.toList == t.toList) = hd.length := by
          refine List.findIdx_eq_length.2 (fun x hx => ?_)
          obtain ⟨j, hj, rfl⟩ := List.getElem_of_mem hx
          exact HD.out j hj (by omega)
        unfold Hid pixOf; rw [e, if_neg (by omega)]
      go_wp2_with fail
      go_ret
      exact ⟨ret_int64 HX.out.symm, hb⟩

set_option maxHeartbeats 1000000 in
theorem headHas_any (b base : Nat) (hd : List Est.Pc) (hv : Value) (t : ByteArray) (w : World) (hc : w.cell? ⟨b, 4, none⟩ = some hv) (ho : w.ownsRow base 58 3 hv hd.length (pcells hd)) (hl : hd.length ≤ 1000) :
    Calls Try.prog 53 #[.pointer (some ⟨b, 4, none⟩), .string t] w fun x w' => x = .returned (.bool (decide (0 ≤ pixOf hd t))) ∧ Below w.heap.size w w' := by
  obtain ⟨ha, cap, rfl⟩ := own_form ho
  have lb := World.block_lt_of_cell? _ _ hc
  have tc : (w.alloc (.cells #[.string t] 9)).cell? ⟨w.heap.size, 0, none⟩ = some (.string t) := by simp
  go_enter Try.func53, Try.ntmps53
  go_wp2_with (go_at_call 56; go_in)
  refine (IndexFunc1_any base w.heap.size hd _ t _ (ho.alloc _) hl tc).mono ?_
  rintro e w1 ⟨rfl, hb1⟩
  obtain ⟨I, hI⟩ : ∃ I, pixOf hd t = I := ⟨_, rfl⟩
  have HI : Hid (pixOf hd t = I) := hI
  rw [hI]
  clear hI
  go_wp2
  go_ret
  exact ⟨ret_bool (by rw [HI.out]), ((Below.refl _ _).alloc (Nat.le_refl _) _).trans (hb1.mono (by simp))⟩

end Go.Proofs.Ytondkinefmjpjaa
