import Derived.Laws.AppendOwn
import Derived.Shelf.Abstract
import Derived.Test.YtondkinefmjpjaaGreatW21
namespace Go.Proofs.YtondkinefmjpjaaGreat
open Go.RowKit

theorem num_any (x : Int) (w : World) : Calls Tryz.prog 27 #[.int .i64 x] w fun e w' => e = .returned (.int .i64 x) ∧ w' = w := by
  go_enter Tryz.func27, Tryz.ntmps27
  go_wp2
  go_ret
  exact ⟨rfl, rfl⟩

theorem drop_same (xs ys : List Int) (k : Nat) (h1 : k < xs.length) (h2 : k < ys.length) : (xs.drop k = ys.drop k) ↔ (xs.getD k 0 = ys.getD k 0 ∧ xs.drop (k + 1) = ys.drop (k + 1)) := by
  have e1 : xs.getD k 0 = xs[k] := by simp [List.getD, h1]
  have e2 : ys.getD k 0 = ys[k] := by simp [List.getD, h2]
  rw [List.drop_eq_getElem_cons h1, List.drop_eq_getElem_cons h2, List.cons.injEq, e1, e2]

set_option maxHeartbeats 2000000 in
theorem same_any (v1 v2 : Value) (xs ys : List Int) (w : World) (h1 : Reads w v1 xs) (h2 : Reads w v2 ys) (l1 : xs.length < 4611686018427387904) :
    Calls Tryz.prog 35 #[v1, v2] w fun e w' => e = .returned (.bool (decide (xs = ys))) ∧ Below w.heap.size w w' := by
  obtain ⟨a1, c1, rfl, r1⟩ := h1
  obtain ⟨a2, c2, rfl, r2⟩ := h2
  obtain ⟨C, hC⟩ : ∃ C, decide (xs = ys) = C := ⟨_, rfl⟩
  have HC : Hid (decide (xs = ys) = C) := hC
  rw [hC]
  clear hC
  have R1 : Hid _ := r1
  have R2 : Hid _ := r2
  clear r1 r2
  by_cases hl : xs.length = ys.length
  · have hln : ((xs.length : Int) != (ys.length : Int)) = false := by rw [bne_eq_false_iff_eq, hl]
    go_enter Tryz.func35, Tryz.ntmps35
    go_wp2_with fail
    go_loopw [5] (fun iv wr => ∃ k : Nat, k ≤ xs.length ∧ iv = .int .i64 k ∧ Below w.heap.size w wr ∧ decide (xs.drop k = ys.drop k) = C) (fun iv _ => xs.length - (intOf iv).toNat)
    case atStart => exact ⟨0, Nat.zero_le _, rfl, Below.refl _ _, HC.out⟩
    case round =>
      obtain ⟨k, hk, rfl, hb, hd⟩ := hrel
      have HK : Hid (decide (xs.drop k = ys.drop k) = C) := hd
      clear hd
      by_cases hx : k < xs.length
      · obtain ⟨g1, o1, rfl, q1⟩ := R1.out (by omega)
        obtain ⟨g2, o2, rfl, q2⟩ := R2.out (by omega)
        have d1 := (hb.cell (p := ⟨g1, o1 + k, none⟩) (World.block_lt_of_cell? _ _ (q1 k hx))).trans (q1 k hx)
        have d2 := (hb.cell (p := ⟨g2, o2 + k, none⟩) (World.block_lt_of_cell? _ _ (q2 k (by omega)))).trans (q2 k (by omega))
        have HD : Hid _ := drop_same xs ys k hx (by omega)
        obtain ⟨X, hX⟩ : ∃ X, xs.getD k 0 = X := ⟨_, rfl⟩
        obtain ⟨Y, hY⟩ : ∃ Y, ys.getD k 0 = Y := ⟨_, rfl⟩
        rw [hX] at d1 HD
        rw [hY] at d2 HD
        clear hX hY q1 q2
        have bx : (k : Int) < (xs.length : Int) := by omega
        have byy : (k : Int) < (ys.length : Int) := by omega
        cases hz : (X != Y)
        · have HR : Hid (decide (xs.drop (k + 1) = ys.drop (k + 1)) = C) := by
            have := HK.out
            rw [← this]
            exact decide_eq_decide.2 ⟨fun h => HD.out.2 ⟨bne_eq_false_iff_eq.1 hz, h⟩, fun h => (HD.out.1 h).2⟩
          go_wp2_with fail
          go_region
          all_goals go_wp2_with fail
          all_goals go_roundw
          all_goals first
            | (simp [intOf]; omega)
            | exact ⟨k + 1, by omega, by go_num, hb.drew, HR.out⟩
        · have HR : Hid (false = C) := by
            have := HK.out
            rw [← this]
            exact (decide_eq_false (fun h => bne_iff_ne.1 hz (HD.out.1 h).1)).symm
          go_wp2_with fail
          go_region
          all_goals go_wp2_with fail
          all_goals go_ret
          all_goals exact ⟨vret_bool HR.out, hb.drew⟩
      · have HR : Hid (true = C) := by
          have := HK.out
          rw [List.drop_of_length_le (by omega), List.drop_of_length_le (by omega), decide_eq_true rfl] at this
          exact this
        go_wp2_with fail
        go_ret
        exact ⟨vret_bool HR.out, hb⟩
  · have hln : ((xs.length : Int) != (ys.length : Int)) = true := by rw [bne_iff_ne]; omega
    have HR : Hid (false = C) := by
      rw [← HC.out]; exact (decide_eq_false (fun h => hl (by rw [h]))).symm
    go_enter Tryz.func35, Tryz.ntmps35
    go_wp2_with fail
    go_ret
    exact ⟨vret_bool HR.out, Below.refl _ _⟩

end Go.Proofs.YtondkinefmjpjaaGreat
namespace Go.Proofs.YtondkinefmjpjaaGreat
open Go.RowKit

theorem vone_new (w : World) (v : Value) (t : TypeId) : ∀ j u, [v][j]? = some u → (w.alloc (.cells #[v] t)).cell? ((⟨w.heap.size, 0, none⟩ : Addr).add j) = some u := by
  intro j u hj
  match j, hj with
  | 0, hj => simp at hj; subst hj; simp [Addr.add]

set_option maxHeartbeats 1000000 in
theorem copied_any (v : Value) (xs : List Int) (w : World) (h : Reads w v xs) (hl : xs.length * 8 ≤ 140737488355328) :
    Calls Tryz.prog 17 #[v] w fun e w' => ∃ a cap, e = .returned (.slice a xs.length cap) ∧ w'.ownsRow w.heap.size 3 1 (.slice a xs.length cap) xs.length (i64s xs) ∧ Below w.heap.size w w' := by
  obtain ⟨a1, c1, rfl, r1⟩ := h
  have R1 : Hid _ := r1
  clear r1
  obtain ⟨i0, hi, hz0, hz1, hz2⟩ := info_parts Tryz.info3
  have HI : Hid _ := hi
  have HZ0 : Hid _ := hz0
  have HZ1 : Hid _ := hz1
  have HZ2 : Hid _ := hz2
  clear hi hz0 hz1 hz2
  go_enter Tryz.func17, Tryz.ntmps17
  go_wp2_with fail
  go_loopw [3, 4] (fun sv iv wr => ∃ k : Nat, k ≤ xs.length ∧ iv = .int .i64 k ∧ wr.ownsRow w.heap.size 3 1 sv k (i64s (xs.take k)) ∧ Below w.heap.size w wr) (fun _ iv _ => xs.length - (intOf iv).toNat)
  case atStart => exact ⟨0, Nat.zero_le _, rfl, World.ownsRow_nil _ _ _ _, Below.refl _ _⟩
  case round =>
    obtain ⟨k, hk, rfl, hrow, hb⟩ := hrel
    obtain ⟨sa, scap, hsv⟩ := vown_form hrow
    subst hsv
    have hws : w.heap.size ≤ wr.heap.size := hb.size
    by_cases hlt : k < xs.length
    · obtain ⟨g1, o1, rfl, q1⟩ := R1.out (by omega)
      have d1 := (hb.cell (p := ⟨g1, o1 + k, none⟩) (World.block_lt_of_cell? _ _ (q1 k hlt))).trans (q1 k hlt)
      have HTK : Hid (i64s (xs.take (k + 1)) = i64s (xs.take k) ++ [.int .i64 (xs.getD k 0)]) := by
        unfold Hid i64s; rw [List.take_succ_eq_append_getElem hlt, List.map_append]; simp [List.getD, hlt]
      obtain ⟨X, hX⟩ : ∃ X, xs.getD k 0 = X := ⟨_, rfl⟩
      rw [hX] at d1 HTK
      clear hX q1
      have bk : (k : Int) < (xs.length : Int) := by omega
      go_wp2_with (at_builtin; refine wpList_append_own _ rfl (.tmp 11) (.tmp 16) 28 rfl w.heap.size 3 i0 (.int .i64 0) 1 8 Tryz.underlying28 HI.out HZ0.out HZ1.out HZ2.out rfl (by decide) (.slice sa k scap) _ _ rfl (hrow.alloc _) ⟨wr.heap.size, 0, none⟩ 1 1 [.int .i64 X] rfl rfl (vone_new _ _ _) (by intro u hu; simp at hu; subst hu; rfl) (by unfold maxLen; omega) (by omega) (by simp; omega) ?_; intro v6 w6 hown6 hgrow6 _; obtain ⟨sa6, scap6, rfl⟩ := vown_form hown6)
      have hb6 : Below w.heap.size w w6 := (hb.alloc hws _).grown hgrow6 (by simp; omega) (fun k hk => by have := (hrow.lt k hk).1; exact this)
      clear hgrow6
      go_roundw
      case rel => exact ⟨k + 1, by omega, by go_num, by rw [HTK.out]; exact hown6, hb6⟩
      case measure => simp [intOf]; omega
    · have hkl : k = xs.length := by omega
      subst hkl
      rw [List.take_length] at hrow
      go_wp2_with fail
      go_ret
      exact ⟨_, _, rfl, hrow, hb⟩

end Go.Proofs.YtondkinefmjpjaaGreat
namespace Go.Proofs.YtondkinefmjpjaaGreat
open Go.RowKit

/-- Values of which the first k are spoilt. -/
def spK (xs : List Int) (k : Nat) : List Int := (List.range xs.length).map fun j => if j < k then -7 else xs.getD j 0
theorem spK_zero (xs : List Int) : spK xs 0 = xs := by
  apply List.ext_getElem (by simp [spK])
  intro j h1 h2
  simp [spK, List.getD, h2]
theorem spK_len (xs : List Int) (k : Nat) : (spK xs k).length = xs.length := by simp [spK]
theorem spK_step (xs : List Int) (k : Nat) : i64s (spK xs (k + 1)) = (i64s (spK xs k)).set k (.int .i64 (-7)) := by
  apply List.ext_getElem (by simp [spK, i64s])
  intro j h1 h2
  have hj : j < xs.length := by simpa [spK, i64s] using h1
  rw [List.getElem_set]
  by_cases e : k = j
  · subst e; simp [spK, i64s]
  · rw [if_neg e]
    have : (j < k + 1) = (j < k) := by apply propext; omega
    simp [spK, i64s, this]

set_option maxHeartbeats 1000000 in
theorem spoil_any (base : Nat) (v : Value) (xs : List Int) (w : World) (h : w.ownsRow base 3 1 v xs.length (i64s xs)) (hl : xs.length < 4611686018427387904) :
    Calls Tryz.prog 30 #[v] w fun e w' => e = .returned (.tuple #[]) ∧ w'.ownsRow base 3 1 v xs.length (i64s (spK xs xs.length)) ∧ w.grownBy w' v.ownBlock := by
  obtain ⟨a, cap, rfl⟩ := vown_form h
  have h0 : w.ownsRow base 3 1 (.slice a xs.length cap) xs.length (i64s (spK xs 0)) := by rw [spK_zero]; exact h
  have HA : Hid (0 < xs.length → ∃ g, a = some ⟨g, 0, none⟩) := fun hp => by
    obtain ⟨g, cap', he⟩ := vown_some h hp
    simp only [Value.slice.injEq, true_and] at he
    exact ⟨g, he.1⟩
  clear h
  go_enter Tryz.func30, Tryz.ntmps30
  go_wp2_with fail
  go_loopw [2] (fun iv wr => ∃ k : Nat, k ≤ xs.length ∧ iv = .int .i64 k ∧ wr.ownsRow base 3 1 (.slice a xs.length cap) xs.length (i64s (spK xs k)) ∧ w.grownBy wr (Value.slice a xs.length cap).ownBlock) (fun iv _ => xs.length - (intOf iv).toNat)
  case atStart => exact ⟨0, Nat.zero_le _, rfl, h0, World.grownBy.refl _ _⟩
  case round =>
    clear h0
    obtain ⟨k, hk, rfl, hown, hg⟩ := hrel
    by_cases hlt : k < xs.length
    · obtain ⟨g, rfl⟩ := HA.out (by omega)
      have ST : Hid _ := hown.stored k (.int .i64 (-7))
      have HS : Hid _ := spK_step xs k
      have s0 : wr.cell? ⟨g, k, none⟩ = some (.int .i64 ((spK xs k).getD k 0)) := by
        rw [hown.cellAt k (by omega)]; simp [i64s, spK, List.getD, hlt]
      have f0 := hown.frozenAt k
      have lg : g < wr.heap.size := (hown.lt _ rfl).2
      have bk : (k : Int) < (xs.length : Int) := by omega
      have HG : Hid _ := hg
      clear hg
      go_wp2_with fail
      go_roundw
      case rel => exact ⟨k + 1, by omega, by go_num, by rw [HS.out]; exact ST.out.1, HG.out.andThen ST.out.2 (fun _ h => Or.inr h)⟩
      case measure => simp [intOf]; omega
    · have hkl : k = xs.length := by omega
      subst hkl
      go_wp2_with fail
      go_end0
      exact ⟨rfl, hown, hg⟩

end Go.Proofs.YtondkinefmjpjaaGreat
namespace Go.Proofs.YtondkinefmjpjaaGreat
open Go.RowKit

theorem cmpI_nil {x y : Int} : cmpI x y = 0 ↔ x = y := by unfold cmpI; split <;> (try split) <;> omega
theorem cmpI_neg {x y : Int} : cmpI x y < 0 ↔ x < y := by unfold cmpI; split <;> (try split) <;> omega

set_option maxHeartbeats 2000000 in
theorem less_any (v1 v2 : Value) (xs ys : List Int) (w : World) (h1 : Reads w v1 xs) (h2 : Reads w v2 ys) (l1 : xs.length < 4611686018427387904) :
    Calls Tryz.prog 53 #[v1, v2] w fun e w' => e = .returned (.bool (decide (cmpL xs ys < 0))) ∧ Below w.heap.size w w' := by
  obtain ⟨a1, c1, rfl, r1⟩ := h1
  obtain ⟨a2, c2, rfl, r2⟩ := h2
  obtain ⟨C, hC⟩ : ∃ C, decide (cmpL xs ys < 0) = C := ⟨_, rfl⟩
  have HC : Hid (decide (cmpL xs ys < 0) = C) := hC
  rw [hC]
  clear hC
  have R1 : Hid _ := r1
  have R2 : Hid _ := r2
  clear r1 r2
  go_enter Tryz.func53, Tryz.ntmps53
  go_wp2_with fail
  go_loopw [5] (fun iv wr => ∃ k : Nat, k ≤ xs.length ∧ k ≤ ys.length ∧ iv = .int .i64 k ∧ Below w.heap.size w wr ∧ decide (cmpL (xs.drop k) (ys.drop k) < 0) = C) (fun iv _ => xs.length - (intOf iv).toNat)
  case atStart => exact ⟨0, Nat.zero_le _, Nat.zero_le _, rfl, Below.refl _ _, HC.out⟩
  case round =>
    obtain ⟨k, hk1, hk2, rfl, hb, hd⟩ := hrel
    have HK : Hid (decide (cmpL (xs.drop k) (ys.drop k) < 0) = C) := hd
    clear hd
    by_cases hx : k < xs.length
    · by_cases hy : k < ys.length
      · obtain ⟨g1, o1, rfl, q1⟩ := R1.out (by omega)
        obtain ⟨g2, o2, rfl, q2⟩ := R2.out (by omega)
        have d1 := (hb.cell (p := ⟨g1, o1 + k, none⟩) (World.block_lt_of_cell? _ _ (q1 k hx))).trans (q1 k hx)
        have d2 := (hb.cell (p := ⟨g2, o2 + k, none⟩) (World.block_lt_of_cell? _ _ (q2 k (by omega)))).trans (q2 k (by omega))
        have HD : Hid _ := cmpL_drop xs ys k hx hy
        obtain ⟨X, hX⟩ : ∃ X, xs.getD k 0 = X := ⟨_, rfl⟩
        obtain ⟨Y, hY⟩ : ∃ Y, ys.getD k 0 = Y := ⟨_, rfl⟩
        rw [hX] at d1 HD
        rw [hY] at d2 HD
        clear hX hY q1 q2
        have bx : (k : Int) < (xs.length : Int) := by omega
        have byy : (k : Int) < (ys.length : Int) := by omega
        cases hz : (X != Y)
        · have HR : Hid (decide (cmpL (xs.drop (k + 1)) (ys.drop (k + 1)) < 0) = C) := by
            have := HK.out
            rw [HD.out, if_pos (cmpI_nil.2 (bne_eq_false_iff_eq.1 hz))] at this
            exact this
          go_wp2_with fail
          go_region
          all_goals go_wp2_with fail
          all_goals go_roundw
          all_goals first
            | (simp [intOf]; omega)
            | exact ⟨k + 1, by omega, by omega, by go_num, hb.drew, HR.out⟩
        · have HR : Hid (decide (X < Y) = C) := by
            have := HK.out
            rw [HD.out, if_neg (fun h => bne_iff_ne.1 hz (cmpI_nil.1 h))] at this
            rw [← this]
            exact decide_eq_decide.2 cmpI_neg.symm
          go_wp2_with fail
          go_region
          all_goals go_wp2_with fail
          all_goals go_region
          all_goals go_wp2_with fail
          all_goals go_ret
          all_goals exact ⟨vret_bool HR.out, hb.drew.drew⟩
      · have HR : Hid (decide (xs.length < ys.length) = C) := by
          have := HK.out
          rw [show ys.drop k = [] from List.drop_of_length_le (by omega), List.drop_eq_getElem_cons hx, cmpL] at this
          rw [← this]
          exact decide_eq_decide.2 ⟨fun h => absurd h (by omega), fun h => absurd h (by decide)⟩
        have byy : ¬ (k : Int) < (ys.length : Int) := by omega
        have bx : (k : Int) < (xs.length : Int) := by omega
        go_wp2_with fail
        go_ret
        exact ⟨vret_bool HR.out, hb⟩
    · have bx : ¬ (k : Int) < (xs.length : Int) := by omega
      have HR : Hid (decide (xs.length < ys.length) = C) := by
        have := HK.out
        rw [show xs.drop k = [] from List.drop_of_length_le (by omega)] at this
        rw [← this]
        by_cases hy : k < ys.length
        · rw [List.drop_eq_getElem_cons hy, cmpL]
          exact decide_eq_decide.2 ⟨fun _ => by decide, fun _ => by omega⟩
        · rw [show ys.drop k = [] from List.drop_of_length_le (by omega), cmpL]
          exact decide_eq_decide.2 ⟨fun h => absurd h (by omega), fun h => absurd h (by decide)⟩
      go_wp2_with fail
      go_ret
      exact ⟨vret_bool HR.out, hb⟩

set_option maxHeartbeats 2000000 in
theorem begins_any (a1 : Option Addr) (c1 : Nat) (v2 : Value) (xs ys : List Int) (w : World) (h1 : Reads w (.slice a1 xs.length c1) xs) (hc : xs.length ≤ c1) (h2 : Reads w v2 ys) (l1 : xs.length < 4611686018427387904) :
    Calls Tryz.prog 28 #[.slice a1 xs.length c1, v2] w fun e w' => e = .returned (.bool (decide (ys.length ≤ xs.length ∧ xs.take ys.length = ys))) ∧ Below w.heap.size w w' := by
  obtain ⟨a2, c2, rfl, r2⟩ := h2
  have h2 : Reads w (.slice a2 ys.length c2) ys := ⟨a2, c2, rfl, r2⟩
  by_cases hl : ys.length ≤ xs.length
  · have hlen : (xs.take ys.length).length = ys.length := by rw [List.length_take]; omega
    have HR : Hid (decide (xs.take ys.length = ys) = decide (ys.length ≤ xs.length ∧ xs.take ys.length = ys)) := decide_eq_decide.2 ⟨fun h => ⟨hl, h⟩, fun h => h.2⟩
    have bl : (ys.length : Int) ≤ (xs.length : Int) := by omega
    have bc : (ys.length : Int) ≤ (c1 : Int) := by omega
    have HT : ∀ c', Reads w (.slice a1 ys.length c') (xs.take ys.length) := by
      intro c'
      obtain ⟨b1, d1, e1, r1⟩ := h1
      simp only [Value.slice.injEq, true_and] at e1
      obtain ⟨rfl, rfl⟩ := e1
      refine ⟨a1, c', by rw [hlen], fun hp => ?_⟩
      rw [hlen] at hp
      obtain ⟨g, o, rfl, q⟩ := r1 (by omega)
      refine ⟨g, o, rfl, fun j hj => ?_⟩
      rw [q j (by omega)]
      have : (xs.take ys.length).getD j 0 = xs.getD j 0 := by
        simp [List.getD, show j < ys.length by omega]
      rw [this]
    have HS := fun c' => same_any (.slice a1 ys.length c') (.slice a2 ys.length c2) (xs.take ys.length) ys w (HT c') h2 (by omega)
    obtain ⟨B, hB⟩ : ∃ B, decide (ys.length ≤ xs.length ∧ xs.take ys.length = ys) = B := ⟨_, rfl⟩
    rw [hB] at HR ⊢
    rw [HR.out] at HS
    clear hB HR HT h1 h2 hlen r2
    cases a1 with
    | none =>
      go_enter Tryz.func28, Tryz.ntmps28
      go_wp2_with (go_at_call 35; refine (HS _).mono ?_; rintro e w1 ⟨rfl, hb⟩)
      go_ret
      exact ⟨rfl, hb⟩
    | some ad =>
      go_enter Tryz.func28, Tryz.ntmps28
      go_wp2_with (go_at_call 35; refine (HS _).mono ?_; rintro e w1 ⟨rfl, hb⟩)
      go_ret
      exact ⟨rfl, hb⟩
  · have HR : Hid (false = decide (ys.length ≤ xs.length ∧ xs.take ys.length = ys)) := (decide_eq_false (fun h => hl h.1)).symm
    have bl : ¬ (ys.length : Int) ≤ (xs.length : Int) := by omega
    obtain ⟨B, hB⟩ : ∃ B, decide (ys.length ≤ xs.length ∧ xs.take ys.length = ys) = B := ⟨_, rfl⟩
    rw [hB] at HR ⊢
    clear hB
    go_enter Tryz.func28, Tryz.ntmps28
    go_wp2_with fail
    go_ret
    exact ⟨vret_bool HR.out, Below.refl _ _⟩

end Go.Proofs.YtondkinefmjpjaaGreat
namespace Go.Proofs.YtondkinefmjpjaaGreat
open Go.RowKit

/-- A list of rows that can be read: of each its values and how often it is there. -/
abbrev Rws := List (List Int × Int)
def rAt (l : Rws) (j : Nat) : List Int × Int := l.getD j ([], 0)
def RRead (w : World) (v : Value) (l : Rws) : Prop :=
  ∃ a cap, v = .slice a l.length cap ∧ (0 < l.length → ∃ g off, a = some ⟨g, off, none⟩ ∧ ∀ j, j < l.length → (∃ u, w.cell? ⟨g, off + j * 2, none⟩ = some u ∧ Reads w u (rAt l j).1) ∧ w.cell? ⟨g, off + j * 2 + 1, none⟩ = some (.int .i64 (rAt l j).2))
theorem RRead.below {w w' : World} {v : Value} {l : Rws} (h : RRead w v l) (hb : Below w.heap.size w w') : RRead w' v l := by
  obtain ⟨a, cap, rfl, h2⟩ := h
  refine ⟨a, cap, rfl, fun hl => ?_⟩
  obtain ⟨g, off, rfl, h3⟩ := h2 hl
  refine ⟨g, off, rfl, fun j hj => ?_⟩
  obtain ⟨⟨u, c1, c2⟩, c3⟩ := h3 j hj
  exact ⟨⟨u, (hb.cell (p := ⟨g, off + j * 2, none⟩) (World.block_lt_of_cell? _ _ c1)).trans c1, c2.below hb⟩, (hb.cell (p := ⟨g, off + j * 2 + 1, none⟩) (World.block_lt_of_cell? _ _ c3)).trans c3⟩

theorem all_drop (l : Rws) (k : Nat) (hk : k < l.length) : (l.drop k).all (fun r => r.2 == 0) = (((rAt l k).2 == 0) && (l.drop (k + 1)).all (fun r => r.2 == 0)) := by
  rw [List.drop_eq_getElem_cons hk, List.all_cons]
  simp [rAt, List.getD, hk]

set_option maxHeartbeats 1000000 in
theorem nothing_any (v : Value) (l : Rws) (w : World) (h : RRead w v l) (hl : l.length < 4611686018427387904) :
    Calls Tryz.prog 24 #[v] w fun e w' => e = .returned (.bool (l.all fun r => r.2 == 0)) ∧ w' = w := by
  obtain ⟨a, cap, rfl, h2⟩ := h
  have R : Hid _ := h2
  clear h2
  obtain ⟨C, hC⟩ : ∃ C, (l.all fun r => r.2 == 0) = C := ⟨_, rfl⟩
  have HC : Hid ((l.all fun r => r.2 == 0) = C) := hC
  rw [hC]
  clear hC
  go_enter Tryz.func24, Tryz.ntmps24
  go_wp2_with fail
  go_loop [3] (fun iv => ∃ k : Nat, k ≤ l.length ∧ iv = .int .i64 k ∧ ((l.drop k).all fun r => r.2 == 0) = C) (fun iv => l.length - (intOf iv).toNat)
  case atStart => exact ⟨0, Nat.zero_le _, rfl, HC.out⟩
  case round =>
    obtain ⟨k, hk, rfl, hd⟩ := hrel
    have HK : Hid (((l.drop k).all fun r => r.2 == 0) = C) := hd
    clear hd
    by_cases hx : k < l.length
    · obtain ⟨g, off, rfl, q⟩ := R.out (by omega)
      have d := (q k hx).2
      have HD : Hid _ := all_drop l k hx
      obtain ⟨X, hX⟩ : ∃ X, (rAt l k).2 = X := ⟨_, rfl⟩
      rw [hX] at d HD
      clear hX q
      have bk : (k : Int) < (l.length : Int) := by omega
      cases hz : (X != 0)
      · have HR : Hid (((l.drop (k + 1)).all fun r => r.2 == 0) = C) := by
          have := HK.out
          rw [HD.out, beq_iff_eq.2 (bne_eq_false_iff_eq.1 hz), Bool.true_and] at this
          exact this
        go_wp2_with fail
        go_round
        case rel => exact ⟨k + 1, by omega, by go_num, HR.out⟩
        case measure => simp [intOf]; omega
      · have HR : Hid (false = C) := by
          have := HK.out
          rw [HD.out, beq_eq_false_iff_ne.2 (bne_iff_ne.1 hz), Bool.false_and] at this
          exact this
        go_wp2_with fail
        go_ret
        exact ⟨vret_bool HR.out, rfl⟩
    · have HR : Hid (true = C) := by
        have := HK.out
        rw [List.drop_of_length_le (by omega), List.all_nil] at this
        exact this
      go_wp2_with fail
      go_ret
      exact ⟨vret_bool HR.out, rfl⟩

end Go.Proofs.YtondkinefmjpjaaGreat
namespace Go.Proofs.YtondkinefmjpjaaGreat
open Go.RowKit

/-- Rows rise, and each is there some times. -/
def Rise (l : Rws) : Prop := (∀ j, j < l.length → (rAt l j).2 ≠ 0) ∧ ∀ j, j + 1 < l.length → cmpL (rAt l j).1 (rAt l (j + 1)).1 < 0

set_option maxHeartbeats 2000000 in
theorem sound_any (v : Value) (l : Rws) (w : World) (h : RRead w v l) (hl : l.length < 4611686018427387904) (hw : ∀ j, j < l.length → (rAt l j).1.length < 4611686018427387904) (hs : Rise l) :
    Calls Tryz.prog 20 #[v] w fun e w' => e = .returned (.bool true) ∧ Below w.heap.size w w' := by
  obtain ⟨a, cap, rfl, h2⟩ := h
  have R : Hid _ := h2
  have HS : Hid (Rise l) := hs
  have HW : Hid (∀ j, j < l.length → (rAt l j).1.length < 4611686018427387904) := hw
  clear h2 hs hw
  go_enter Tryz.func20, Tryz.ntmps20
  go_wp2_with fail
  go_loopw [3, 4] (fun iv _ wr => ∃ k : Nat, k ≤ l.length ∧ iv = .int .i64 k ∧ Below w.heap.size w wr) (fun iv _ _ => l.length - (intOf iv).toNat)
  case atStart => exact ⟨0, Nat.zero_le _, rfl, Below.refl _ _⟩
  case round =>
    obtain ⟨k, hk, rfl, hb⟩ := hrel
    by_cases hx : k < l.length
    · obtain ⟨g, off, rfl, q⟩ := R.out (by omega)
      obtain ⟨⟨u, c1, c2⟩, c3⟩ := q k hx
      have d2 := (hb.cell (p := ⟨g, off + k * 2 + 1, none⟩) (World.block_lt_of_cell? _ _ c3)).trans c3
      have d1 := (hb.cell (p := ⟨g, off + k * 2, none⟩) (World.block_lt_of_cell? _ _ c1)).trans c1
      have hX := HS.out.1 k hx
      obtain ⟨X, hXX⟩ : ∃ X, (rAt l k).2 = X := ⟨_, rfl⟩
      rw [hXX] at d2 hX
      have hz : (X == 0) = false := beq_eq_false_iff_ne.2 hX
      have bk : (k : Int) < (l.length : Int) := by omega
      clear hXX c3 hX
      by_cases h0 : k = 0
      · subst h0
        clear q c1 c2 d1
        go_wp2_with fail
        go_roundw
        case rel => exact ⟨1, by omega, by go_num, hb⟩
        case measure => simp [intOf]; omega
      · obtain ⟨m, rfl⟩ : ∃ m, k = m + 1 := ⟨k - 1, by omega⟩
        obtain ⟨⟨u', e1, e2⟩, _⟩ := q m (by omega)
        have f1 := (hb.cell (p := ⟨g, off + m * 2, none⟩) (World.block_lt_of_cell? _ _ e1)).trans e1
        have hlt : decide (cmpL (rAt l m).1 (rAt l (m + 1)).1 < 0) = true := by
          exact decide_eq_true (HS.out.2 m (by omega))
        have HL := fun (x : World) (hbx : Below w.heap.size w x) => less_any u' u (rAt l m).1 (rAt l (m + 1)).1 x (e2.below hbx) (c2.below hbx) (HW.out _ (by omega))
        rw [hlt] at HL
        have hwr : IntKind.i64.wrap (m : Int) = (m : Int) := by rw [IntKind.wrap_i64]; omega
        have b0 : (m : Int) < (l.length : Int) := by omega
        have g0 : (0 : Int) < ((m + 1 : Nat) : Int) := by omega
        obtain ⟨a1, p1, q1, _⟩ := e2
        obtain ⟨a2, p2, q2, _⟩ := c2
        subst q1 q2
        clear q c1 e1 hlt
        go_wp2_with fail
        go_region_with (go_at_call 53; refine (HL _ hb.drew).mono ?_; rintro e w1 ⟨rfl, hb1⟩)
        all_goals have hb2 := (hb.drew).trans (Below.mono hb1 (by simpa using hb.size))
        all_goals go_wp2_with fail
        all_goals go_roundw
        all_goals first
          | (simp [intOf]; omega)
          | exact ⟨m + 1 + 1, by omega, by go_num, hb2⟩
    · go_wp2_with fail
      go_ret
      exact ⟨rfl, hb⟩

end Go.Proofs.YtondkinefmjpjaaGreat
namespace Go.Proofs.YtondkinefmjpjaaGreat
open Go.RowKit

/-- A call of a Go function, as one step of a region that draws. -/
theorem step_call {P : Program} {ops : Array Oper} {o : Oper} {a : Act} {w : World} {K : Act → World → Prop} {Q : Exit → Act → World → Prop} {E : Prop} (hg : o.guard = none) (f : FuncId) (xs : Array Operand) (ts : Array TypeId)
    (hop : o.op = Op.call { callee := .value (.func f), args := xs, argTypes := ts }) (hent : ∀ vs u, (callFunc f vs).run P u = .ok (.enter f vs) u) (args : Array Value) (hargs : xs.map a.eval = args) (S : Value → World → Prop)
    (hc : Calls P f args w fun e w' => ∃ v, e = .returned v ∧ S v w') (hK : ∀ v w', S v w' → K (a.put o.dst v) w') :
    if Region.wanted o (yielded ops a.tmps) = true then Oper.wp P o a w K Q else E := by
  have hw : Region.wanted o (yielded ops a.tmps) = true := by simp [Region.wanted, hg]
  rw [if_pos hw]
  have hrun : (execOp a.eval o).run P w = .ok (.enter f args) w := by
    rw [← hargs]
    simp [execOp, hop, resolve, invoke, Act.eval, Deferred.ofValue, hent]
  unfold Oper.wp
  rw [hrun, Oper.upon_enter]
  refine hc.mono fun e w'' hh => ?_
  obtain ⟨v, rfl, hS⟩ := hh
  exact hK _ _ hS

theorem step_append_own {P : Program} {ops : Array Oper} {o : Oper} {a : Act} {w : World} {K : Act → World → Prop} {Q : Exit → Act → World → Prop} {E : Prop}
    (hg : o.guard = none) (s x : Operand) (t : TypeId) (hop : o.op = Op.call { callee := Callee.builtin Builtin.append, args := #[s, x], argTypes := #[t, t] })
    (base : Nat) (e : TypeId) (i : TypeInfo) (z : Value) (size bytes : Nat) (h1 : P.underlying t = some (.slice e)) (h2 : P.info? e = some i) (h3 : i.zero = some z) (h4 : i.size = size) (h5 : i.bytes = bytes) (h6 : z.cells.size = size) (h7 : 0 < size)
    (v : Value) (n : Nat) (xs : List Value) (hs : a.eval s = v) (hown : w.ownsRow base e size v n xs)
    (ad : Addr) (m c : Nat) (news : List Value) (hx : a.eval x = .slice (some ad) m c) (hn : news.length = m * size) (hc : ∀ j u, news[j]? = some u → w.cell? (ad.add j) = some u) (h1c : ∀ u ∈ news, u.oneCell' = true)
    (b1 : n + m ≤ maxLen) (b2 : (n + m) * bytes ≤ 140737488355328) (hb : base ≤ w.heap.size)
    (hK : ∀ v' w', w'.ownsRow base e size v' (n + m) (xs ++ news) → w.grownBy w' v.ownBlock → K (a.put o.dst v') w') :
    if Region.wanted o (yielded ops a.tmps) = true then Oper.wp P o a w K Q else E := by
  have hw : Region.wanted o (yielded ops a.tmps) = true := by simp [Region.wanted, hg]
  rw [if_pos hw]
  obtain ⟨v', w', hrun, r1, r2, _⟩ := run_append_own (P := P) w base t o.type e i z size bytes h1 h2 h3 h4 h5 h6 h7 v n xs hown ad m c news hn hc h1c b1 b2 hb
  unfold Oper.wp
  simp [execOp, hop, resolve, invoke, builtin, hs, hx, hrun, Result.andThen]
  exact hK v' w' r1 r2

end Go.Proofs.YtondkinefmjpjaaGreat
namespace Go.Proofs.YtondkinefmjpjaaGreat
open Go.RowKit

/-- The cells of a list of rows. -/
def rcells : List Value → Rws → List Value
  | u :: us, r :: l => u :: .int .i64 r.2 :: rcells us l
  | _, _ => []
theorem rcells_snoc (us : List Value) (l : Rws) (h : us.length = l.length) (u : Value) (r : List Int × Int) : rcells (us ++ [u]) (l ++ [r]) = rcells us l ++ [u, .int .i64 r.2] := by
  induction us generalizing l with
  | nil => cases l with
    | nil => rfl
    | cons => simp at h
  | cons x us ih => cases l with
    | nil => simp at h
    | cons y l => simp only [List.cons_append, rcells, ih l (by simpa using h)]
theorem rcells_at (us : List Value) (l : Rws) (h : us.length = l.length) (j : Nat) (hj : j < l.length) : (rcells us l)[j * 2]? = some (us.getD j undef) ∧ (rcells us l)[j * 2 + 1]? = some (.int .i64 (rAt l j).2) := by
  induction us generalizing l j with
  | nil => cases l with
    | nil => simp at hj
    | cons => simp at h
  | cons x us ih => cases l with
    | nil => simp at h
    | cons y l => cases j with
      | zero => simp [rcells, rAt]
      | succ j =>
        have := ih l (by simpa using h) j (by simpa using hj)
        rw [show (j + 1) * 2 = j * 2 + 1 + 1 by omega]
        simpa [rcells, rAt] using this

theorem own_weak {w : World} {B B' : Nat} {e : TypeId} {size : Nat} {v : Value} {n : Nat} {xs : List Value} (h : w.ownsRow B e size v n xs) (hB : B' ≤ B) : w.ownsRow B' e size v n xs := by
  obtain ⟨h1, h2⟩ := h
  refine ⟨h1, ?_⟩
  rcases h2 with h2 | ⟨g, cap, cur, a1, a2, a3⟩
  · exact Or.inl h2
  · exact Or.inr ⟨g, cap, cur, a1, Nat.le_trans hB a2, a3⟩
theorem own_ne {w : World} {B B' : Nat} {e e' : TypeId} {s s' : Nat} {v v' : Value} {n n' : Nat} {xs xs' : List Value} (h : w.ownsRow B e s v n xs) (h' : w.ownsRow B' e' s' v' n' xs') (hne : e ≠ e') : v.ownBlock = none ∨ v.ownBlock ≠ v'.ownBlock := by
  rcases h.2 with ⟨rfl, _⟩ | ⟨g, cap, cur, rfl, _, b3, _⟩
  · exact Or.inl rfl
  · rcases h'.2 with ⟨rfl, _⟩ | ⟨g', cap', cur', rfl, _, c3, _⟩
    · exact Or.inr (by simp [Value.ownBlock])
    · refine Or.inr fun he => hne ?_
      have : g = g' := by simpa [Value.ownBlock] using he
      subst this
      rw [b3] at c3
      simp only [Option.some.injEq, Obj.cells.injEq] at c3
      exact c3.2.1

/-- Rows of which every part is new behind B. -/
def RNew (e : TypeId) (B : Nat) (w : World) (v : Value) (us : List Value) (l : Rws) : Prop :=
  us.length = l.length ∧ w.ownsRow B e 2 v l.length (rcells us l) ∧ ∀ j, j < l.length → w.ownsRow B 3 1 (us.getD j undef) (rAt l j).1.length (i64s (rAt l j).1)
theorem RNew.read {e : TypeId} {B : Nat} {w : World} {v : Value} {us : List Value} {l : Rws} (h : RNew e B w v us l) : RRead w v l := by
  obtain ⟨h1, h2, h3⟩ := h
  obtain ⟨a, cap, rfl⟩ := vown_form h2
  refine ⟨a, cap, rfl, fun hl => ?_⟩
  obtain ⟨g, cap', he⟩ := vown_some h2 hl
  simp only [Value.slice.injEq, true_and] at he
  obtain ⟨rfl, rfl⟩ := he
  refine ⟨g, 0, rfl, fun j hj => ?_⟩
  obtain ⟨c1, c2⟩ := rcells_at us l h1 j hj
  refine ⟨⟨_, ?_, reads_own (h3 j hj) rfl⟩, ?_⟩
  · rw [Nat.zero_add, h2.cellAt (j * 2) (by omega)]; exact c1
  · rw [Nat.zero_add, h2.cellAt (j * 2 + 1) (by omega)]; exact c2
theorem RNew.below {e : TypeId} {B : Nat} {w w' : World} {v : Value} {us : List Value} {l : Rws} (h : RNew e B w v us l) (hb : Below w.heap.size w w') : RNew e B w' v us l :=
  ⟨h.1, vown_below h.2.1 hb, fun j hj => vown_below (h.2.2 j hj) hb⟩
theorem rAt_snoc (l : Rws) (r : List Int × Int) (j : Nat) (hj : j < l.length) : rAt (l ++ [r]) j = rAt l j := by simp [rAt, List.getD, hj, List.getElem?_append_left]
theorem rAt_last (l : Rws) (r : List Int × Int) : rAt (l ++ [r]) l.length = r := by simp [rAt, List.getD]
/-- One row more. -/
theorem RNew.snoc {e : TypeId} {B : Nat} {w w' : World} {v v' : Value} {us : List Value} {l : Rws} {u : Value} {r : List Int × Int} (h : RNew e B w v us l) (he : e ≠ 3) (hu : w.ownsRow B 3 1 u r.1.length (i64s r.1))
    (hown : w'.ownsRow B e 2 v' (l.length + 1) (rcells us l ++ [u, .int .i64 r.2])) (hg : w.grownBy w' v.ownBlock) : RNew e B w' v' (us ++ [u]) (l ++ [r]) := by
  obtain ⟨h1, h2, h3⟩ := h
  refine ⟨by simp [h1], ?_, fun j hj => ?_⟩
  · rw [rcells_snoc us l h1, List.length_append]; exact hown
  · by_cases hl : j < l.length
    · rw [rAt_snoc l r j hl]
      have : (us ++ [u]).getD j undef = us.getD j undef := by simp [List.getD, List.getElem?_append_left, h1, hl]
      rw [this]
      exact (h3 j hl).kept hg (own_ne (h3 j hl) h2 (Ne.symm he))
    · have hjl : j = l.length := by simp at hj; omega
      subst hjl
      rw [rAt_last]
      have : (us ++ [u]).getD l.length undef = u := by simp [List.getD, ← h1]
      rw [this]
      exact hu.kept hg (own_ne hu h2 (Ne.symm he))

end Go.Proofs.YtondkinefmjpjaaGreat
namespace Go.Proofs.YtondkinefmjpjaaGreat
open Go.RowKit

theorem Tryz.info55 : (Tryz.prog.info? 55).map (fun i => (i.zero, i.size, i.bytes)) = some (some (.agg #[.slice none 0 0, .int .i64 0]), 2, 32) := by kernel_rfl
theorem vtwo_new (w : World) (x y : Value) (t : TypeId) : ∀ j u, [x, y][j]? = some u → (w.alloc (.cells #[x, y] t)).cell? ((⟨w.heap.size, 0, none⟩ : Addr).add j) = some u := by
  intro j u hj
  match j, hj with
  | 0, hj => simp at hj; subst hj; simp [Addr.add]
  | 1, hj => simp at hj; subst hj; simp [Addr.add]
theorem enter17 : ∀ vs u, (callFunc 17 vs).run Tryz.prog u = .ok (.enter 17 vs) u := enters_of Tryz.func17 (by kernel_rfl) rfl
def negR (r : List Int × Int) : List Int × Int := (r.1, IntKind.i64.wrap (-r.2))
theorem take_map {f : List Int × Int → List Int × Int} (l : Rws) (k : Nat) (hk : k < l.length) : (l.take (k + 1)).map f = (l.take k).map f ++ [f (rAt l k)] := by
  rw [List.take_succ_eq_append_getElem hk, List.map_append]
  simp [rAt, List.getD, hk]
/-- Lists and values that are not too long for memory. -/
def Small (l : Rws) : Prop := l.length * 32 ≤ 140737488355328 ∧ ∀ j, j < l.length → (rAt l j).1.length * 8 ≤ 140737488355328

/-- What 'copied' has made, and a cell that is as it was. -/
def CpS (wr : World) (V : List Int) (p : Addr) (x : Value) (v1 : Value) (w1 : World) : Prop :=
  ∃ a1 p1, v1 = .slice a1 V.length p1 ∧ w1.ownsRow wr.heap.size 3 1 (.slice a1 V.length p1) V.length (i64s V) ∧ Below wr.heap.size wr w1 ∧ w1.cell? p = some x
theorem copied_step (u : Value) (V : List Int) (wr : World) (p : Addr) (x : Value) (h : Reads wr u V) (hl : V.length * 8 ≤ 140737488355328) (hp : wr.cell? p = some x) :
    Calls Tryz.prog 17 #[u] wr.drew fun e w' => ∃ v, e = .returned v ∧ CpS wr V p x v w' := by
  refine (copied_any u V wr.drew h hl).mono ?_
  rintro e w1 ⟨a1, p1, rfl, o1, b1⟩
  have b2 : Below wr.heap.size wr w1 := ⟨b1.os, b1.tape, b1.output, b1.size, b1.block⟩
  exact ⟨_, rfl, a1, p1, rfl, o1, b2, (b2.cell (World.block_lt_of_cell? _ _ hp)).trans hp⟩

set_option maxHeartbeats 4000000 in
set_option maxRecDepth 100000 in
theorem negated_any (v : Value) (l : Rws) (w : World) (h : RRead w v l) (hs : Small l) :
    Calls Tryz.prog 22 #[v] w fun e w' => ∃ m us, e = .returned m ∧ RNew 55 w.heap.size w' m us (l.map negR) ∧ Below w.heap.size w w' := by
  obtain ⟨a, cap, rfl, h2⟩ := h
  have R : Hid _ := h2
  have HS : Hid (∀ j, j < l.length → (rAt l j).1.length * 8 ≤ 140737488355328) := hs.2
  have hl := hs.1
  clear h2 hs
  obtain ⟨i0, hi, hz0, hz1, hz2⟩ := info_parts Tryz.info55
  have HI : Hid _ := hi
  have HZ0 : Hid _ := hz0
  have HZ1 : Hid _ := hz1
  have HZ2 : Hid _ := hz2
  clear hi hz0 hz1 hz2
  go_enter Tryz.func22, Tryz.ntmps22
  go_wp2_with fail
  go_loopw [3, 4] (fun mv iv wr => ∃ (k : Nat) (us : List Value), k ≤ l.length ∧ iv = .int .i64 k ∧ RNew 55 w.heap.size wr mv us ((l.take k).map negR) ∧ Below w.heap.size w wr) (fun _ iv _ => l.length - (intOf iv).toNat)
  case atStart => exact ⟨0, [], Nat.zero_le _, rfl, ⟨rfl, World.ownsRow_nil _ _ _ _, fun j hj => absurd hj (by simp)⟩, Below.refl _ _⟩
  case round =>
    obtain ⟨k, us, hk, rfl, hrow, hb⟩ := hrel
    have hws : w.heap.size ≤ wr.heap.size := hb.size
    have HRW : Hid _ := hrow
    have ho := hrow.2.1
    rw [show ((l.take k).map negR).length = k by simp; omega] at ho
    obtain ⟨ma, mcap, hmv⟩ := vown_form ho
    subst hmv
    clear hrow
    by_cases hlt : k < l.length
    · obtain ⟨g, off, rfl, q⟩ := R.out (by omega)
      obtain ⟨⟨u, c1, c2⟩, c3⟩ := q k hlt
      have d1 := (hb.cell (p := ⟨g, off + k * 2, none⟩) (World.block_lt_of_cell? _ _ c1)).trans c1
      have d2 := (hb.cell (p := ⟨g, off + k * 2 + 1, none⟩) (World.block_lt_of_cell? _ _ c3)).trans c3
      have lg : g < wr.heap.size := World.block_lt_of_cell? _ _ d1
      have HTK : Hid _ := take_map (f := negR) l k hlt
      have HC := copied_step u (rAt l k).1 wr ⟨g, off + k * 2 + 1, none⟩ _ (c2.below hb) (HS.out k hlt) d2
      obtain ⟨ua, uc, hu, _⟩ := c2
      subst hu
      have HX : Hid (negR (rAt l k) = ((rAt l k).1, IntKind.i64.wrap (-(rAt l k).2))) := rfl
      rw [HX.out] at HTK
      obtain ⟨X, hX⟩ : ∃ X, (rAt l k).2 = X := ⟨_, rfl⟩
      obtain ⟨V, hV⟩ : ∃ V, (rAt l k).1 = V := ⟨_, rfl⟩
      rw [hX] at d2 HTK HC
      rw [hV] at HC d1 HTK
      clear hX hV q c1 c3 HX
      have bk : (k : Int) < (l.length : Int) := by omega
      go_wp2_with fail
      go_region_law (first | (refine step_call rfl 17 #[.tmp 16] #[28] rfl enter17 #[.slice ua V.length uc] (by kernel_rfl) _ HC ?_; rintro v1 w1 ⟨a1, p1, rfl, o1, b1, d3⟩) | (refine step_append_own rfl (.tmp 11) (.tmp 25) 31 rfl w.heap.size 55 i0 (.agg #[.slice none 0 0, .int .i64 0]) 2 32 Tryz.underlying31 HI.out HZ0.out HZ1.out HZ2.out rfl (by decide) (.slice ma k mcap) _ _ rfl ((vown_below ho b1).alloc _) ⟨w1.heap.size, 0, none⟩ 1 1 [.slice a1 V.length p1, .int .i64 (IntKind.i64.wrap (-X))] rfl rfl (vtwo_new _ _ _ _) (by intro u hu; simp at hu; rcases hu with rfl | rfl <;> rfl) (by unfold maxLen; omega) (by omega) (by have := b1.size; simp; omega) ?_; intro v6 w6 hown6 hgrow6))
      all_goals have FIN := RNew.snoc (r := (V, IntKind.i64.wrap (-X))) (RNew.below (RNew.below (e := 55) (B := w.heap.size) (w := wr) (v := .slice ma k mcap) (us := us) (l := (l.take k).map negR) HRW.out b1) ((Below.refl _ _).alloc (Nat.le_refl _) (.cells #[.slice a1 V.length p1, .int .i64 (IntKind.i64.wrap (-X))] 55))) (by decide) (own_weak (o1.alloc _) hws) (by rw [show ((l.take k).map negR).length = k by simp; omega]; exact hown6) hgrow6
      all_goals have hb6 : Below w.heap.size w w6 := ((hb.trans (b1.mono hws)).alloc (by have := b1.size; omega) _).grown hgrow6 (by have := b1.size; simp; omega) (fun j hj => by have := (ho.lt j hj).1; exact this)
      all_goals obtain ⟨ma6, mcap6, rfl⟩ := vown_form hown6
      all_goals go_wp2_with fail
      all_goals go_roundw
      all_goals first
        | (simp [intOf]; omega)
        | exact ⟨k + 1, us ++ [.slice a1 V.length p1], by omega, by go_num, by rw [HTK.out]; exact FIN, hb6⟩
    · have hkl : k = l.length := by omega
      subst hkl
      rw [List.take_length] at HRW
      go_wp2_with fail
      go_ret
      exact ⟨_, us, rfl, HRW.out, hb⟩

end Go.Proofs.YtondkinefmjpjaaGreat
