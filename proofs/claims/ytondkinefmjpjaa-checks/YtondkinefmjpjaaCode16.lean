import Derived.Test.YtondkinefmjpjaaCode12
import Derived.Deep.CutBlock
namespace Go.Proofs.Ytondkinefmjpjaa
open Go.RowKit

theorem any_left {l : List Nat} {p : Nat → Bool} (k : Nat) (hk : k < l.length) (h : p (l.getD k 0) = true) : l.any p = true := by
  rw [List.any_eq_true]; exact ⟨_, getD_mem hk, h⟩
theorem any_left_no {l : List Nat} {p : Nat → Bool} (h : ∀ k, k < l.length → p (l.getD k 0) = false) : l.any p = false := by
  rw [List.any_eq_false]; intro x hx
  obtain ⟨k, hk, rfl⟩ := List.getElem_of_mem hx
  have := h k hk
  rw [List.getD_eq_getElem?_getD, List.getElem?_eq_getElem hk] at this
  simpa using this
theorem find_left {l : List Nat} {p : Nat → Bool} (k : Nat) (hk : k < l.length) (h : p (l.getD k 0) = true) (hn : ∀ j, j < k → p (l.getD j 0) = false) : l.find? p = some (l.getD k 0) := by
  have e : l.getD k 0 = l[k] := by rw [List.getD_eq_getElem?_getD, List.getElem?_eq_getElem hk]; rfl
  rw [List.find?_eq_some_iff_getElem]
  refine ⟨h, k, hk, e.symm, fun j hj => ?_⟩
  have := hn j hj
  rw [List.getD_eq_getElem?_getD, List.getElem?_eq_getElem (by omega)] at this
  simp at this; simp [this]
theorem find_left_no {l : List Nat} {p : Nat → Bool} (hn : ∀ j, j < l.length → p (l.getD j 0) = false) : l.find? p = none := by
  rw [List.find?_eq_none]; intro x hx
  obtain ⟨k, hk, rfl⟩ := List.getElem_of_mem hx
  have := hn k hk
  rw [List.getD_eq_getElem?_getD, List.getElem?_eq_getElem hk] at this
  simp at this; simp [this]

set_option maxHeartbeats 4000000 in
set_option maxRecDepth 100000 in
theorem firstToGo_any (base base2 : Nat) (sets : List Int) (left : List Nat) (sv lv : Value) (w : World) (ho : w.ownsRow base 93 1 sv sets.length (u8s sets)) (hlo : w.ownsRow base2 3 1 lv left.length (nats left)) (hl : sets.length ≤ 100) (hl1 : 1 ≤ sets.length) (hll : left.length ≤ 100) (hin : ∀ j, j ∈ left → j < sets.length) :
    Calls Try.prog 31 #[sv, lv] w fun x w' => (∃ g h : Int, x = .returned (.tuple #[.agg #[.int .i64 g, .int .i64 h], .bool (gon sets left).isSome]) ∧ ∀ i, gon sets left = some i → g = (i : Int)) ∧ Below w.heap.size w w' := by
  obtain ⟨g, cap, rfl⟩ := own_some ho (by omega)
  obtain ⟨la, lcap, rfl⟩ := own_form hlo
  have HIN : Hid (∀ j, j ∈ left → j < sets.length) := hin
  clear hin
  go_enter Try.func31, Try.ntmps31
  go_wp2_with fail
  go_loopw [7, 12] (fun _ iv wr => ∃ i : Nat, i ≤ left.length ∧ iv = .int .i64 i ∧ Below w.heap.size w wr ∧ wr.heap[w.heap.size]? = some (.cells #[.int .i64 0, .int .i64 0] 86 (0, 0)) ∧ ∀ k, k < i → gnB sets left (left.getD k 0) = false) (fun _ iv _ => left.length - (intOf iv).toNat)
  case atStart => exact ⟨0, Nat.zero_le _, rfl, (Below.refl _ _).alloc (Nat.le_refl _) _, heap_alloc_new _ _, fun _ h => absurd h (Nat.not_lt_zero _)⟩
  case round =>
    obtain ⟨i, hi, rfl, hb, hblk, hno⟩ := hrel
    have HNO : Hid (∀ k, k < i → gnB sets left (left.getD k 0) = false) := hno
    clear hno
    have hor := own_below' ho hb
    have hlr := own_below' hlo hb
    have hB : w.heap.size < wr.heap.size := lt_of_block hblk
    by_cases hlt : i < left.length
    · obtain ⟨lg, lcap', he⟩ := own_some hlr (by omega)
      simp only [Value.slice.injEq, true_and] at he
      obtain ⟨rfl, rfl⟩ := he
      have hc := nats_at hlr rfl i hlt
      have hI := HIN.out _ (getD_mem hlt)
      obtain ⟨I, hII⟩ : ∃ I, left.getD i 0 = I := ⟨_, rfl⟩
      rw [hII] at hc hI
      have HII : Hid (left.getD i 0 = I) := hII
      clear hII
      go_wp2_with fail
      go_loopw [9, 18] (fun _ jv wx => ∃ j : Nat, j ≤ left.length ∧ jv = .int .i64 j ∧ Below w.heap.size w wx ∧ wx.heap[w.heap.size]? = some (.cells #[.int .i64 0, .int .i64 0] 86 (0, 0)) ∧ ∀ k, k < j → prB sets left I (left.getD k 0) = false) (fun _ jv _ => left.length - (intOf jv).toNat)
      case atStart => exact ⟨0, Nat.zero_le _, rfl, hb, hblk, fun _ h => absurd h (Nat.not_lt_zero _)⟩
      case round =>
        clear hor hlr hb hblk hB hc
        obtain ⟨j, hj, rfl, hb, hblk, hnj⟩ := hrel
        have HNJ : Hid (∀ k, k < j → prB sets left I (left.getD k 0) = false) := hnj
        clear hnj
        have hor := own_below' ho hb
        have hlr := own_below' hlo hb
        have hB : w.heap.size < wr.heap.size := lt_of_block hblk
        by_cases hjl : j < left.length
        · have hc := nats_at hlr rfl j hjl
          have hJ := HIN.out _ (getD_mem hjl)
          have HPR : Hid (prB sets left I (left.getD j 0) = (!(left.getD j 0 == I) && (bits BinOp.andNot IntKind.u8 (shV sets left I) (sets.getD (left.getD j 0) 0) == 0))) := rfl
          have HST : Hid (prB sets left I (left.getD j 0) = false → ∀ k, k < j + 1 → prB sets left I (left.getD k 0) = false) := by
            intro hx k hk
            by_cases e : k = j
            · rw [e]; exact hx
            · exact HNJ.out k (by omega)
          have HYES : Hid (prB sets left I (left.getD j 0) = true → gon sets left = some I) := by
            intro hx
            have h1 : gnB sets left I = true := any_left (p := fun j => prB sets left I j) j hjl hx
            have := find_left (p := fun i => gnB sets left i) i hlt (by rw [HII.out]; exact h1) HNO.out
            rw [HII.out] at this; exact this
          obtain ⟨J, hJJ⟩ : ∃ J, left.getD j 0 = J := ⟨_, rfl⟩
          rw [hJJ] at hc hJ HPR HST HYES
          clear hJJ
          have cj := u8s_at hor rfl J hJ
          have bj : (J : Int) < (sets.length : Int) := by omega
          obtain ⟨Y, hY⟩ : ∃ Y, sets.getD J 0 = Y := ⟨_, rfl⟩
          rw [hY] at cj HPR
          clear hY
          obtain ⟨S, hS⟩ : ∃ S, shV sets left I = S := ⟨_, rfl⟩
          have HS : Hid (shV sets left I = S) := hS
          rw [hS] at HPR
          clear hS
          cases hne : ((J : Int) != (I : Int))
          · have HF : Hid (prB sets left I J = false) := by
              have : J = I := by have := bne_eq_false_iff_eq.1 hne; omega
              unfold Hid; rw [HPR.out, this]; simp
            go_wp2_with fail
            go_quiet (fail)
            go_wp2_with fail
            go_roundw
            case rel => exact ⟨j + 1, by omega, by go_num, ⟨hb.os, hb.tape, hb.output, hb.size, hb.block⟩, hblk, HST.out HF.out⟩
            case measure => simp [intOf]; omega
          · have HEQ : Hid (prB sets left I J = (bits BinOp.andNot IntKind.u8 S Y == 0)) := by
              have : (J == I) = false := beq_eq_false_iff_ne.2 (by have := bne_iff_ne.1 hne; omega)
              unfold Hid; rw [HPR.out, this]; rfl
            cases hz : (bits BinOp.andNot IntKind.u8 S Y == 0)
            · go_wp2_with fail
              go_quiet ((go_at_call 51; exact Calls.quiet_of_same (sharedVars_any base base2 sets left _ _ I _ (by exact hor) (by exact hlr) (by omega) (by omega) HIN.out hI)))
              rw [HS.out]
              go_wp2_with fail
              go_roundw
              case rel => exact ⟨j + 1, by omega, by go_num, ⟨hb.os, hb.tape, hb.output, hb.size, hb.block⟩, hblk, HST.out (by rw [HEQ.out]; exact hz)⟩
              case measure => simp [intOf]; omega
            · have HY : Hid (gon sets left = some I) := HYES.out (by rw [HEQ.out]; exact hz)
              have z0 : wr.cell? ⟨w.heap.size, 0, none⟩ = some (.int .i64 0) := by simp [World.cell?, hblk]
              have z1 : wr.cell? ⟨w.heap.size, 1, none⟩ = some (.int .i64 0) := by simp [World.cell?, hblk]
              have f0 : wr.frozen? ⟨w.heap.size, 0, none⟩ = false := by simp [World.frozen?, hblk]
              have f1 : wr.frozen? ⟨w.heap.size, 1, none⟩ = false := by simp [World.frozen?, hblk]
              go_wp2_with fail
              go_quiet ((go_at_call 51; exact Calls.quiet_of_same (sharedVars_any base base2 sets left _ _ I _ (by exact hor) (by exact hlr) (by omega) (by omega) HIN.out hI)))
              rw [HS.out]
              go_wp2_with fail
              refine bodyPost_ret (v := .tuple #[.agg #[.int .i64 I, .int .i64 J], .bool true]) (by simp [results, Try.results31, go_sem, z0, z1]) rfl ⟨⟨I, J, by rw [HY.out]; rfl, fun i' hi' => by rw [HY.out] at hi'; cases hi'; rfl⟩, ?_⟩
              have hb1 : Below w.heap.size w (wr.drewN nq) := ⟨hb.os, hb.tape, hb.output, hb.size, hb.block⟩
              exact (hb1.setCell (p := ⟨w.heap.size, 0, none⟩) (Nat.le_refl _) _).setCell (p := ⟨w.heap.size, 1, none⟩) (Nat.le_refl _) _
        · have HG : Hid (gnB sets left I = false) := any_left_no (p := fun j => prB sets left I j) (fun k hk => HNJ.out k (by omega))
          go_wp2_with fail
          go_roundw
          case rel =>
            refine ⟨i + 1, by omega, by go_num, hb, hblk, fun k hk => ?_⟩
            by_cases e : k = i
            · rw [e, HII.out]; exact HG.out
            · exact HNO.out k (by omega)
          case measure => simp [intOf]; omega
    · have HN : Hid (gon sets left = none) := find_left_no (p := fun i => gnB sets left i) (fun k hk => HNO.out k (by omega))
      have z0 : wr.cell? ⟨w.heap.size, 0, none⟩ = some (.int .i64 0) := by simp [World.cell?, hblk]
      have z1 : wr.cell? ⟨w.heap.size, 1, none⟩ = some (.int .i64 0) := by simp [World.cell?, hblk]
      have f0 : wr.frozen? ⟨w.heap.size, 0, none⟩ = false := by simp [World.frozen?, hblk]
      have f1 : wr.frozen? ⟨w.heap.size, 1, none⟩ = false := by simp [World.frozen?, hblk]
      go_wp2_with fail
      refine bodyPost_ret (v := .tuple #[.agg #[.int .i64 0, .int .i64 0], .bool false]) (by simp [results, Try.results31, go_sem, z0, z1]) rfl ⟨⟨0, 0, by rw [HN.out]; rfl, fun i' hi' => by rw [HN.out] at hi'; cases hi'⟩, ?_⟩
      exact (hb.setCell (p := ⟨w.heap.size, 0, none⟩) (Nat.le_refl _) _).setCell (p := ⟨w.heap.size, 1, none⟩) (Nat.le_refl _) _

end Go.Proofs.Ytondkinefmjpjaa
