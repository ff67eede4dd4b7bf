import Derived.Test.YtofalpfippdgjaaCode4
import Derived.Deep.QuietTactic
import Derived.BigQuiet
namespace Go.Proofs.Ytofalpfippdgjaa
open Go.RowKit

def u8s (l : List Int) : List Value := l.map (Value.int .u8)
/-- The variables of the first k atoms, but for atom i. -/
def allK (sets : List Int) (i k : Nat) : Int := (List.range k).foldl (fun acc j => if j = i then acc else bits BinOp.or IntKind.u8 acc (sets.getD j 0)) 0
theorem allK_succ (sets : List Int) (i k : Nat) : allK sets i (k + 1) = if k = i then allK sets i k else bits BinOp.or IntKind.u8 (allK sets i k) (sets.getD k 0) := by
  unfold allK; rw [List.range_succ, List.foldl_append]; rfl
theorem u8s_at {w : World} {base g n cap : Nat} {l : List Int} (h : w.ownsRow base 89 1 (.slice (some ⟨g, 0, none⟩) n cap) n (u8s l)) (hl : l.length = n) (j : Nat) (hj : j < n) : w.cell? ⟨g, j, none⟩ = some (.int .u8 (l.getD j 0)) := by
  rw [h.cellAt j (by omega)]; simp [u8s, List.getElem?_map, List.getElem?_eq_getElem (show j < l.length by omega)]

set_option maxHeartbeats 1000000 in
theorem allBut_any (base : Nat) (sets : List Int) (sv : Value) (i : Nat) (w : World) (ho : w.ownsRow base 89 1 sv sets.length (u8s sets)) (hl : sets.length ≤ 100) :
    Calls Try.prog 60 #[sv, .int .i64 i] w fun x w' => x = .returned (.int .u8 (allK sets i sets.length)) ∧ w' = w := by
  obtain ⟨va, cap, rfl⟩ := own_form ho
  go_enter Try.func60, Try.ntmps60
  go_wp2
  go_loop [5, 6, 7, 10] (fun acc _ _ j => ∃ k : Nat, k ≤ sets.length ∧ j = .int .i64 k ∧ acc = .int .u8 (allK sets i k)) (fun _ _ _ j => sets.length - (intOf j).toNat)
  case atStart => exact ⟨0, Nat.zero_le _, rfl, rfl⟩
  case round =>
    obtain ⟨k, hk, rfl, rfl⟩ := hrel
    have HS : Hid _ := allK_succ sets i k
    generalize hA : allK sets i k = A at HS
    have HA : Hid (allK sets i k = A) := hA
    clear hA
    by_cases hlt : k < sets.length
    · obtain ⟨g, cap', he⟩ := own_some ho (by omega)
      simp only [Value.slice.injEq, true_and] at he
      obtain ⟨rfl, rfl⟩ := he
      have hc := u8s_at ho rfl k hlt
      generalize hZ : sets.getD k 0 = Z at hc HS
      clear hZ
      cases hne : ((k : Int) != (i : Int))
      · have HN : Hid (allK sets i (k + 1) = A) := by unfold Hid; rw [HS.out, if_pos (by have := bne_eq_false_iff_eq.1 hne; omega)]
        go_wp2
        go_round
        case rel => exact ⟨k + 1, by omega, by go_num, by rw [HN.out]⟩
        case measure => simp [intOf]; omega
      · have HN : Hid (allK sets i (k + 1) = bits BinOp.or IntKind.u8 A Z) := by unfold Hid; rw [HS.out, if_neg (by have := bne_iff_ne.1 hne; omega)]
        go_wp2
        go_round
        case rel => exact ⟨k + 1, by omega, by go_num, by rw [HN.out]⟩
        case measure => simp [intOf]; omega
    · have HL : Hid (sets.length = k) := by unfold Hid; omega
      go_wp2
      go_ret
      refine ⟨?_, rfl⟩
      have e : allK sets i sets.length = A := by rw [HL.out, HA.out]
      rw [e]; rfl

/-- What atom i shares; is it in another one? -/
def shrd (sets : List Int) (i : Nat) : Int := bits BinOp.and IntKind.u8 (sets.getD i 0) (allK sets i sets.length)
def inJ (sets : List Int) (i j : Nat) : Bool := !(j == i) && (bits BinOp.andNot IntKind.u8 (shrd sets i) (sets.getD j 0) == 0)
def goB (sets : List Int) (i : Nat) : Bool := (List.range sets.length).any fun j => inJ sets i j
theorem any_no' {n : Nat} {p : Nat → Bool} (h : ∀ j, j < n → p j = false) : (List.range n).any p = false := by
  rw [List.any_eq_false]; intro x hx; simp [h x (List.mem_range.1 hx)]
theorem any_yes' {n : Nat} {p : Nat → Bool} (k : Nat) (hk : k < n) (h : p k = true) : (List.range n).any p = true := by
  rw [List.any_eq_true]; exact ⟨k, List.mem_range.2 hk, h⟩

set_option maxHeartbeats 1000000 in
theorem canGo_any (base : Nat) (sets : List Int) (sv : Value) (i : Nat) (w : World) (ho : w.ownsRow base 89 1 sv sets.length (u8s sets)) (hl : sets.length ≤ 100) (hi : i < sets.length) :
    Calls Try.prog 53 #[sv, .int .i64 i] w fun x w' => x = .returned (.bool (goB sets i)) ∧ Below w.heap.size w w' := by
  obtain ⟨g, cap, rfl⟩ := own_some ho (by omega)
  have ci := u8s_at ho rfl i hi
  have bi : (i : Int) < (sets.length : Int) := by omega
  have HDEF : Hid (shrd sets i = bits BinOp.and IntKind.u8 (sets.getD i 0) (allK sets i sets.length)) := rfl
  generalize hZ : sets.getD i 0 = Z at ci HDEF
  clear hZ
  go_enter Try.func53, Try.ntmps53
  go_wp2_with fail
  go_quiet ((go_at_call 60; exact Calls.quiet_of_same (allBut_any base sets _ i _ (by exact ho) (by omega))))
  rw [← HDEF.out]
  obtain ⟨S, hS⟩ : ∃ S, shrd sets i = S := ⟨_, rfl⟩
  have HS : Hid (shrd sets i = S) := hS
  rw [hS]
  clear hS HDEF ci
  go_wp2_with fail
  go_loop [6, 7, 18] (fun _ _ jv => ∃ j : Nat, j ≤ sets.length ∧ jv = .int .i64 j ∧ ∀ j', j' < j → inJ sets i j' = false) (fun _ _ jv => sets.length - (intOf jv).toNat)
  case atStart => exact ⟨0, Nat.zero_le _, rfl, fun _ h => absurd h (Nat.not_lt_zero _)⟩
  case round =>
    obtain ⟨j, hj, rfl, hno⟩ := hrel
    have HNO : Hid (∀ j', j' < j → inJ sets i j' = false) := hno
    clear hno
    by_cases hlt : j < sets.length
    · have cj := u8s_at ho rfl j hlt
      have HIN : Hid (inJ sets i j = (!(j == i) && (bits BinOp.andNot IntKind.u8 S (sets.getD j 0) == 0))) := by unfold Hid inJ; rw [HS.out]
      generalize hZ : sets.getD j 0 = Z' at cj HIN
      clear hZ
      have HST : Hid (inJ sets i j = false → ∀ j', j' < j + 1 → inJ sets i j' = false) := by
        intro hx j' hj'
        by_cases e : j' = j
        · rw [e]; exact hx
        · exact HNO.out j' (by omega)
      cases hne : ((j : Int) != (i : Int))
      · have HF : Hid (inJ sets i j = false) := by
          have : j = i := by have := bne_eq_false_iff_eq.1 hne; omega
          unfold Hid; rw [HIN.out, this]; simp
        go_wp2_with fail
        go_round
        case rel => exact ⟨j + 1, by omega, by go_num, HST.out HF.out⟩
        case measure => simp [intOf]; omega
      · have HEQ : Hid (inJ sets i j = (bits BinOp.andNot IntKind.u8 S Z' == 0)) := by
          have : (j == i) = false := beq_eq_false_iff_ne.2 (by have := bne_iff_ne.1 hne; omega)
          unfold Hid; rw [HIN.out, this]; rfl
        cases hz : (bits BinOp.andNot IntKind.u8 S Z' == 0)
        · go_wp2_with fail
          go_round
          case rel => exact ⟨j + 1, by omega, by go_num, HST.out (by rw [HEQ.out]; exact hz)⟩
          case measure => simp [intOf]; omega
        · have HY : Hid (goB sets i = true) := by unfold Hid goB; exact any_yes' j hlt (by rw [HEQ.out]; exact hz)
          go_wp2_with fail
          go_ret
          exact ⟨ret_bool HY.out.symm, ⟨rfl, rfl, rfl, Nat.le_refl _, fun _ _ => rfl⟩⟩
    · have HY : Hid (goB sets i = false) := by unfold Hid goB; exact any_no' (fun j' hj' => HNO.out j' (by omega))
      go_wp2_with fail
      go_ret
      exact ⟨ret_bool HY.out.symm, ⟨rfl, rfl, rfl, Nat.le_refl _, fun _ _ => rfl⟩⟩

def fgo (sets : List Int) : Int := match (List.range sets.length).find? (fun i => goB sets i) with
  | some i => i
  | none => -1

set_option maxHeartbeats 1000000 in
theorem firstToGo_any (base : Nat) (sets : List Int) (sv : Value) (w : World) (ho : w.ownsRow base 89 1 sv sets.length (u8s sets)) (hl : sets.length ≤ 100) :
    Calls Try.prog 48 #[sv] w fun x w' => x = .returned (.int .i64 (fgo sets)) ∧ Below w.heap.size w w' := by
  obtain ⟨va, cap, rfl⟩ := own_form ho
  go_enter Try.func48, Try.ntmps48
  go_wp2_with fail
  go_loopw [3, 6] (fun _ iv wr => ∃ i : Nat, i ≤ sets.length ∧ iv = .int .i64 i ∧ Below w.heap.size w wr ∧ ∀ i', i' < i → goB sets i' = false) (fun _ iv _ => sets.length - (intOf iv).toNat)
  case atStart => exact ⟨0, Nat.zero_le _, rfl, Below.refl _ _, fun _ h => absurd h (Nat.not_lt_zero _)⟩
  case round =>
    obtain ⟨i, hi, rfl, hb, hno⟩ := hrel
    have HNO : Hid (∀ i', i' < i → goB sets i' = false) := hno
    clear hno
    have hor := own_below' ho hb
    by_cases hlt : i < sets.length
    · go_wp2_with fail
      refine (canGo_any base sets _ i _ hor hl hlt).mono ?_
      rintro x w1 ⟨rfl, hb1⟩
      have hb01 : Below w.heap.size w w1 := hb.trans (hb1.mono hb.size)
      cases hx : goB sets i
      · go_wp2_with fail
        go_roundw
        case rel => exact ⟨i + 1, by omega, by go_num, hb01, fun i' hi' => by
          by_cases e : i' = i
          · rw [e]; exact hx
          · exact HNO.out i' (by omega)⟩
        case measure => simp [intOf]; omega
      · have HF : Hid (fgo sets = (i : Int)) := by
          have : (List.range sets.length).find? (fun i => goB sets i) = some i := by
            rw [List.find?_range_eq_some]
            exact ⟨hx, List.mem_range.2 hlt, fun j hj => by simp [HNO.out j hj]⟩
          unfold Hid fgo; rw [this]
        go_wp2_with fail
        go_ret
        exact ⟨ret_int64 HF.out.symm, hb01⟩
    · have HF : Hid (fgo sets = -1) := by
        have : (List.range sets.length).find? (fun i => goB sets i) = none := by
          rw [List.find?_eq_none]; intro x hx; simp [HNO.out x (by have := List.mem_range.1 hx; omega)]
        unfold Hid fgo; rw [this]
      go_wp2_with fail
      go_ret
      exact ⟨ret_int64 HF.out.symm, hb⟩

end Go.Proofs.Ytofalpfippdgjaa
