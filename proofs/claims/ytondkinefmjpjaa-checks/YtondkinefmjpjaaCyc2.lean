import Derived.Test.YtondkinefmjpjaaCyc1
namespace Go.Proofs.Ytondkinefmjpjaa
open Go.RowKit

/-- Do terms have a variable? -/
def hasV (ts : List (Int × Int)) (v : Nat) : Bool := ts.any fun t => t.1 == (v : Int)
def tsAt (l : List AD) (i : Nat) : List (Int × Int) := ((l.map AD.ts)[i]?).getD []
theorem tsAt_eq (l : List AD) (i : Nat) (h : i < l.length) : tsAt l i = l[i].ts := by simp [tsAt, h]
def shr (l : List AD) (i j k v : Nat) : Bool := hasV (tsAt l i) v && hasV (tsAt l j) v && !hasV (tsAt l k) v
def earJ (nv : Nat) (l : List AD) (i k j : Nat) : Bool := (List.range nv).all fun v => !shr l i j k v
def earB (nv : Nat) (left : List Bool) (l : List AD) (i k : Nat) : Bool := (List.range l.length).all fun j => !(left.getD j false) || j == i || earJ nv l i k j

theorem all_yes {n : Nat} {p : Nat → Bool} (h : ∀ j, j < n → p j = true) : (List.range n).all p = true := by
  rw [List.all_eq_true]; intro x hx; exact h x (List.mem_range.1 hx)
theorem all_no {n : Nat} {p : Nat → Bool} (k : Nat) (hk : k < n) (h : p k = false) : (List.range n).all p = false := by
  rw [List.all_eq_false]; exact ⟨k, List.mem_range.2 hk, by simp [h]⟩

theorem bls_at {w : World} {base g nv cap : Nat} {ts : List (Int × Int)} (h : w.ownsRow base 4 1 (.slice (some ⟨g, 0, none⟩) nv cap) nv (bls nv ts)) (v : Nat) (hv : v < nv) : w.cell? ⟨g, v, none⟩ = some (.bool (hasV ts v)) := by
  rw [h.cellAt v (by omega)]; simp [bls, List.getElem?_map, List.getElem?_range hv, hasV]
theorem bools_at {w : World} {base g n cap : Nat} {bs : List Bool} (h : w.ownsRow base 4 1 (.slice (some ⟨g, 0, none⟩) n cap) n (bs.map Value.bool)) (hl : bs.length = n) (j : Nat) (hj : j < n) : w.cell? ⟨g, j, none⟩ = some (.bool (bs.getD j false)) := by
  rw [h.cellAt j (by omega)]; simp [List.getElem?_map, List.getElem?_eq_getElem (show j < bs.length by omega)]

set_option maxHeartbeats 2000000 in
set_option maxRecDepth 100000 in
theorem ear_any (qb base nv i k lg lcap lb : Nat) (l : List AD) (left : List Bool) (w : World) (h : QSt w qb base nv l) (hi : i < l.length) (hk : k < l.length) (hl : l.length ≤ 100) (hnv : nv ≤ 1000)
    (hleft : w.ownsRow lb 4 1 (.slice (some ⟨lg, 0, none⟩) l.length lcap) l.length (left.map Value.bool)) (hll : left.length = l.length) :
    Calls Try.prog 21 #[.pointer (some ⟨qb, 0, none⟩), .slice (some ⟨lg, 0, none⟩) l.length lcap, .int .i64 i, .int .i64 k] w fun x w' => x = .returned (.bool (earB nv left l i k)) ∧ Below w.heap.size w w' := by
  go_enter Try.func21, Try.ntmps21
  go_wp2_with fail
  refine (vars_any qb base nv i l _ h hi hl hnv).mono ?_
  rintro e w1 ⟨gm, capm, rfl, hm1, hb1⟩
  have h1 := h.below hb1
  go_wp2_with fail
  refine (vars_any qb base nv k l _ h1 hk hl hnv).mono ?_
  rintro e w2 ⟨gk, capk, rfl, hk2, hb2⟩
  have h2 := h1.below hb2
  have hm2 := own_below hm1 hb2
  have hb02 : Below w.heap.size w w2 := hb1.trans (hb2.mono hb1.size)
  have hleft2 := own_below hleft hb02
  rw [← tsAt_eq l i hi] at hm2
  rw [← tsAt_eq l k hk] at hk2
  clear hm1 hb1 hb2 h1 h hleft
  go_wp2_with fail
  go_loopw [11, 12, 13] (fun jv _ _ wr => ∃ j : Nat, j ≤ l.length ∧ jv = .int .i64 j ∧ Below w2.heap.size w2 wr ∧ ∀ j', j' < j → (!(left.getD j' false) || j' == i || earJ nv l i k j') = true) (fun jv _ _ _ => l.length - (intOf jv).toNat)
  case atStart => exact ⟨0, Nat.zero_le _, rfl, Below.refl _ _, fun _ h => absurd h (Nat.not_lt_zero _)⟩
  case round =>
    obtain ⟨j, hj, rfl, hb, hall⟩ := hrel
    have HALL : Hid (∀ j', j' < j → (!(left.getD j' false) || j' == i || earJ nv l i k j') = true) := hall
    clear hall
    have hstep : ∀ (b : Prop), (!(left.getD j false) || j == i || earJ nv l i k j) = true → Hid (∀ j', j' < j + 1 → (!(left.getD j' false) || j' == i || earJ nv l i k j') = true) := by
      intro _ hx j' hj'
      by_cases e : j' = j
      · rw [e]; exact hx
      · exact HALL.out j' (by omega)
    have HSTEP : Hid _ := hstep
    clear hstep
    by_cases hlt : j < l.length
    · have c1 := (hb.cell (p := ⟨lg, j, none⟩) (by have := (hleft2.lt lg rfl).2; exact this)).trans (bools_at hleft2 hll j hlt)
      cases hlf : left.getD j false
      · rw [hlf] at c1
        go_wp2_with fail
        go_roundw
        case rel => exact ⟨j + 1, by omega, by go_num, hb, (HSTEP.out True (by rw [hlf]; rfl)).out⟩
        case measure => simp [intOf]; omega
      · rw [hlf] at c1
        cases hji : ((j : Int) == (i : Int))
        · have h3 := h2.below hb
          go_wp2_with fail
          refine (vars_any qb base nv j l _ h3 hlt hl hnv).mono ?_
          rintro e w3 ⟨go, capo, rfl, ho3, hb3⟩
          rw [← tsAt_eq l j hlt] at ho3
          have hb23 : Below w2.heap.size w2 w3 := hb.trans (hb3.mono hb.size)
          have hm3 := own_below hm2 hb23
          have hk3 := own_below hk2 hb23
          have HJI : Hid (¬ j = i) := by have := beq_eq_false_iff_ne.1 hji; unfold Hid; omega
          go_wp2_with fail
          go_loop [13] (fun v => ∃ u : Nat, u ≤ nv ∧ v = .int .i64 u ∧ ∀ u', u' < u → shr l i j k u' = false) (fun v => nv - (intOf v).toNat)
          case atStart => exact ⟨0, Nat.zero_le _, rfl, fun _ h => absurd h (Nat.not_lt_zero _)⟩
          case round =>
            obtain ⟨u, hu, rfl, hsh⟩ := hrel
            have HSH : Hid (∀ u', u' < u → shr l i j k u' = false) := hsh
            clear hsh
            by_cases hul : u < nv
            · have m1 := bls_at hm3 u hul
              have m2 := bls_at hk3 u hul
              have m3 := bls_at ho3 u hul
              have hdef : Hid (shr l i j k u = (hasV (tsAt l i) u && hasV (tsAt l j) u && !hasV (tsAt l k) u)) := rfl
              cases e1 : hasV (tsAt l i) u
              · rw [e1] at m1
                have hno : Hid (shr l i j k u = false) := by unfold Hid; rw [hdef.out, e1]; rfl
                go_wp2_with fail
                go_round
                case rel => exact ⟨u + 1, by omega, by go_num, fun u' hu' => by
                  by_cases e : u' = u
                  · rw [e]; exact hno.out
                  · exact HSH.out u' (by omega)⟩
                case measure => simp [intOf]; omega
              · cases e2 : hasV (tsAt l j) u
                · rw [e1] at m1
                  rw [e2] at m3
                  have hno : Hid (shr l i j k u = false) := by unfold Hid; rw [hdef.out, e1, e2]; rfl
                  go_wp2_with fail
                  go_round
                  case rel => exact ⟨u + 1, by omega, by go_num, fun u' hu' => by
                    by_cases e : u' = u
                    · rw [e]; exact hno.out
                    · exact HSH.out u' (by omega)⟩
                  case measure => simp [intOf]; omega
                · cases e3 : hasV (tsAt l k) u
                  · rw [e1] at m1
                    rw [e2] at m3
                    rw [e3] at m2
                    have hyes : Hid (shr l i j k u = true) := by unfold Hid; rw [hdef.out, e1, e2, e3]; rfl
                    go_wp2_with fail
                    go_ret
                    refine ⟨ret_bool ?_, hb02.trans (hb23.mono hb02.size)⟩
                    unfold earB
                    rw [all_no j hlt]
                    rw [hlf, beq_eq_false_iff_ne.2 HJI.out]
                    unfold earJ
                    rw [all_no u hul (by rw [hyes.out]; rfl)]; rfl
                  · rw [e1] at m1
                    rw [e2] at m3
                    rw [e3] at m2
                    have hno : Hid (shr l i j k u = false) := by unfold Hid; rw [hdef.out, e1, e2, e3]; rfl
                    go_wp2_with fail
                    go_round
                    case rel => exact ⟨u + 1, by omega, by go_num, fun u' hu' => by
                      by_cases e : u' = u
                      · rw [e]; exact hno.out
                      · exact HSH.out u' (by omega)⟩
                    case measure => simp [intOf]; omega
            · have hej : Hid (earJ nv l i k j = true) := by unfold Hid earJ; exact all_yes (fun u' hu' => by rw [HSH.out u' (by omega)]; rfl)
              go_wp2_with fail
              go_roundw
              case rel => exact ⟨j + 1, by omega, by go_num, hb23, (HSTEP.out True (by rw [hej.out]; simp)).out⟩
              case measure => simp [intOf]; omega
        · go_wp2_with fail
          go_roundw
          case rel => exact ⟨j + 1, by omega, by go_num, hb, (HSTEP.out True (by have : j = i := by have := beq_iff_eq.1 hji; omega
                                                                                 rw [this]; simp)).out⟩
          case measure => simp [intOf]; omega
    · go_wp2_with fail
      go_ret
      exact ⟨ret_bool (by unfold earB; rw [all_yes (fun j' hj' => HALL.out j' (by omega))]), hb02.trans (hb.mono hb02.size)⟩

end Go.Proofs.Ytondkinefmjpjaa
