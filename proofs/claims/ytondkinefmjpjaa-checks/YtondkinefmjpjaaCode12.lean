import Derived.Test.YtondkinefmjpjaaCode4
import Derived.Deep.QuietTactic
import Derived.BigQuiet
namespace Go.Proofs.Ytondkinefmjpjaa
open Go.RowKit

def u8s (l : List Int) : List Value := l.map (Value.int .u8)
def nats (l : List Nat) : List Value := l.map fun (n : Nat) => Value.int .i64 n
theorem u8s_at {w : World} {base g n cap : Nat} {l : List Int} (h : w.ownsRow base 93 1 (.slice (some ⟨g, 0, none⟩) n cap) n (u8s l)) (hl : l.length = n) (j : Nat) (hj : j < n) : w.cell? ⟨g, j, none⟩ = some (.int .u8 (l.getD j 0)) := by
  rw [h.cellAt j (by omega)]; simp [u8s, List.getElem?_map, List.getElem?_eq_getElem (show j < l.length by omega)]
theorem nats_at {w : World} {base g n cap : Nat} {l : List Nat} (h : w.ownsRow base 3 1 (.slice (some ⟨g, 0, none⟩) n cap) n (nats l)) (hl : l.length = n) (j : Nat) (hj : j < n) : w.cell? ⟨g, j, none⟩ = some (.int .i64 ((l.getD j 0 : Nat) : Int)) := by
  rw [h.cellAt j (by omega)]; simp [nats, List.getElem?_map, List.getElem?_eq_getElem (show j < l.length by omega)]
theorem getD_mem {l : List Nat} {k : Nat} (hk : k < l.length) : l.getD k 0 ∈ l := by
  rw [List.getD_eq_getElem?_getD, List.getElem?_eq_getElem hk]; exact List.getElem_mem hk
theorem take_snocD {l : List Nat} {k : Nat} (hk : k < l.length) : l.take (k + 1) = l.take k ++ [l.getD k 0] := by
  rw [List.take_succ_eq_append_getElem hk, List.getD_eq_getElem?_getD, List.getElem?_eq_getElem hk]; rfl

/-- The variables of these atoms, but for atom i. -/
def orK (sets : List Int) (i : Nat) (l : List Nat) : Int := l.foldl (fun acc j => if j = i then acc else bits BinOp.or IntKind.u8 acc (sets.getD j 0)) 0
theorem orK_snoc (sets : List Int) (i : Nat) (l : List Nat) (k : Nat) (hk : k < l.length) : orK sets i (l.take (k + 1)) = if l.getD k 0 = i then orK sets i (l.take k) else bits BinOp.or IntKind.u8 (orK sets i (l.take k)) (sets.getD (l.getD k 0) 0) := by
  rw [take_snocD hk]; unfold orK; rw [List.foldl_append]; rfl
/-- What atom i shares with others that are left. -/
def shV (sets : List Int) (left : List Nat) (i : Nat) : Int := bits BinOp.and IntKind.u8 (sets.getD i 0) (orK sets i left)

set_option maxHeartbeats 1000000 in
theorem sharedVars_any (base base2 : Nat) (sets : List Int) (left : List Nat) (sv lv : Value) (i : Nat) (w : World) (ho : w.ownsRow base 93 1 sv sets.length (u8s sets)) (hlo : w.ownsRow base2 3 1 lv left.length (nats left)) (hl : sets.length ≤ 100) (hll : left.length ≤ 100) (hin : ∀ j, j ∈ left → j < sets.length) (hi : i < sets.length) :
    Calls Try.prog 51 #[sv, lv, .int .i64 i] w fun x w' => x = .returned (.int .u8 (shV sets left i)) ∧ w' = w := by
  obtain ⟨g, cap, rfl⟩ := own_some ho (by omega)
  obtain ⟨la, lcap, rfl⟩ := own_form hlo
  have ci := u8s_at ho rfl i hi
  have HDEF : Hid (shV sets left i = bits BinOp.and IntKind.u8 (sets.getD i 0) (orK sets i left)) := rfl
  generalize hZ : sets.getD i 0 = Z at ci HDEF
  clear hZ
  have bi : (i : Int) < (sets.length : Int) := by omega
  go_enter Try.func51, Try.ntmps51
  go_wp2
  go_loop [7, 9, 12] (fun acc _ jv => ∃ k : Nat, k ≤ left.length ∧ jv = .int .i64 k ∧ acc = .int .u8 (orK sets i (left.take k))) (fun _ _ jv => left.length - (intOf jv).toNat)
  case atStart => exact ⟨0, Nat.zero_le _, rfl, rfl⟩
  case round =>
    obtain ⟨k, hk, rfl, rfl⟩ := hrel
    by_cases hlt : k < left.length
    · obtain ⟨lg, lcap', he⟩ := own_some hlo (by omega)
      simp only [Value.slice.injEq, true_and] at he
      obtain ⟨rfl, rfl⟩ := he
      have hc := nats_at hlo rfl k hlt
      have hJ := hin _ (getD_mem hlt)
      have HS : Hid _ := orK_snoc sets i left k hlt
      generalize hA : orK sets i (left.take k) = A at HS
      clear hA
      generalize hJJ : left.getD k 0 = J at hc hJ HS
      clear hJJ
      have cj := u8s_at ho rfl J hJ
      have bj : (J : Int) < (sets.length : Int) := by omega
      generalize hZ : sets.getD J 0 = Y at cj HS
      clear hZ
      cases hne : ((J : Int) != (i : Int))
      · have HN : Hid (orK sets i (left.take (k + 1)) = A) := by unfold Hid; rw [HS.out, if_pos (by have := bne_eq_false_iff_eq.1 hne; omega)]
        go_wp2
        go_round
        case rel => exact ⟨k + 1, by omega, by go_num, by rw [HN.out]⟩
        case measure => simp [intOf]; omega
      · have HN : Hid (orK sets i (left.take (k + 1)) = bits BinOp.or IntKind.u8 A Y) := by unfold Hid; rw [HS.out, if_neg (by have := bne_iff_ne.1 hne; omega)]
        go_wp2
        go_round
        case rel => exact ⟨k + 1, by omega, by go_num, by rw [HN.out]⟩
        case measure => simp [intOf]; omega
    · have HL : Hid (left.take k = left) := List.take_of_length_le (by omega)
      rw [HL.out]
      obtain ⟨A, hA⟩ : ∃ A, orK sets i left = A := ⟨_, rfl⟩
      rw [hA]
      have HA : Hid (shV sets left i = bits BinOp.and IntKind.u8 Z A) := by unfold Hid; rw [HDEF.out, hA]
      clear hA
      go_wp2
      go_ret
      exact ⟨by rw [HA.out]; rfl, rfl⟩

/-- Can atom i go, because atom j has all that it shares? -/
def prB (sets : List Int) (left : List Nat) (i j : Nat) : Bool := !(j == i) && (bits BinOp.andNot IntKind.u8 (shV sets left i) (sets.getD j 0) == 0)
def gnB (sets : List Int) (left : List Nat) (i : Nat) : Bool := left.any fun j => prB sets left i j
def gon (sets : List Int) (left : List Nat) : Option Nat := left.find? fun i => gnB sets left i

theorem Try.info3' : (Try.prog.info? 3).map (fun i => (i.zero, i.size, i.bytes)) = some (some (.int .i64 0), 1, 8) := by kernel_rfl

set_option maxHeartbeats 1000000 in
theorem numbersBelow_any (n : Nat) (w : World) (hn : n ≤ 100) :
    Calls Try.prog 30 #[.int .i64 n] w fun x w' => ∃ sa cap, x = .returned (.slice sa n cap) ∧ w'.ownsRow w.heap.size 3 1 (.slice sa n cap) n (nats (List.range n)) ∧ Below w.heap.size w w' := by
  obtain ⟨i0, hi, hz0, hz1, hz2⟩ := info_parts Try.info3'
  have HI : Hid _ := hi
  have HZ0 : Hid _ := hz0
  have HZ1 : Hid _ := hz1
  have HZ2 : Hid _ := hz2
  clear hi hz0 hz1 hz2
  go_enter Try.func30, Try.ntmps30
  go_wp2_with fail
  go_loopw [3, 4, 6] (fun sv _ jv wr => ∃ j : Nat, j ≤ n ∧ jv = .int .i64 j ∧ wr.ownsRow w.heap.size 3 1 sv j (nats (List.range j)) ∧ Below w.heap.size w wr) (fun _ _ jv _ => n - (intOf jv).toNat)
  case atStart => exact ⟨0, Nat.zero_le _, rfl, World.ownsRow_nil _ _ _ _, Below.refl _ _⟩
  case round =>
    obtain ⟨j, hj, rfl, hrow, hb⟩ := hrel
    obtain ⟨sa, scap, hsv⟩ := own_form hrow
    subst hsv
    have hws : w.heap.size ≤ wr.heap.size := hb.size
    by_cases hlt : j < n
    · have HTK : Hid (nats (List.range (j + 1)) = nats (List.range j) ++ [.int .i64 (j : Int)]) := by
        unfold Hid nats; rw [List.range_succ, List.map_append]; rfl
      go_wp2_with (at_builtin; refine wpList_append_own _ rfl (.tmp 9) (.tmp 11) 23 rfl w.heap.size 3 i0 (.int .i64 0) 1 8 Try.underlying23 HI.out HZ0.out HZ1.out HZ2.out rfl (by decide) (.slice sa j scap) _ _ rfl (hrow.alloc _) ⟨wr.heap.size, 0, none⟩ 1 1 [.int .i64 (j : Int)] rfl rfl (one_new _ _ _) (by intro u hu; simp at hu; subst hu; rfl) (by unfold maxLen; omega) (by omega) (by simp; omega) ?_; intro v6 w6 hown6 hgrow6 _; obtain ⟨sa6, scap6, rfl⟩ := own_form hown6)
      have hb6 : Below w.heap.size w w6 := (hb.alloc hws _).grown hgrow6 (by simp; omega) (fun k hk => by have := (hrow.lt k hk).1; exact this)
      clear hgrow6
      go_roundw
      case rel => exact ⟨j + 1, by omega, by go_num, by rw [HTK.out]; exact hown6, hb6⟩
      case measure => simp [intOf]; omega
    · have hjl : j = n := by omega
      subst hjl
      go_wp2_with fail
      go_ret
      exact ⟨_, _, rfl, hrow, hb⟩

end Go.Proofs.Ytondkinefmjpjaa
