import Derived.Test.YtondkinefmjpjaaCyc2
import Derived.Deep.CutBlock
namespace Go.Proofs.Ytondkinefmjpjaa
open Go.RowKit

def pairB (nv : Nat) (left : List Bool) (l : List AD) (i k : Nat) : Bool := left.getD i false && left.getD k false && !(i == k) && earB nv left l i k
def goneB (nv : Nat) (left : List Bool) (l : List AD) (i : Nat) : Bool := (List.range l.length).any fun k => pairB nv left l i k
def gone1 (nv : Nat) (left : List Bool) (l : List AD) : Option Nat := (List.range l.length).find? fun i => goneB nv left l i
/-- Do atoms go round? (n: how many are left, but for one) -/
def cyc (nv : Nat) (l : List AD) : Nat → List Bool → Bool
  | 0, _ => false
  | n + 1, left => match gone1 nv left l with
    | none => true
    | some g => cyc nv l n (left.set g false)

theorem find_none {n : Nat} {p : Nat → Bool} (h : ∀ j, j < n → p j = false) : (List.range n).find? p = none := by
  rw [List.find?_eq_none]; intro x hx; simp [h x (List.mem_range.1 hx)]
theorem find_some {n : Nat} {p : Nat → Bool} (g : Nat) (hg : g < n) (hp : p g = true) (h : ∀ j, j < g → p j = false) : (List.range n).find? p = some g := by
  rw [List.find?_range_eq_some]
  exact ⟨hp, List.mem_range.2 hg, fun j hj => by simp [h j hj]⟩
theorem any_no {n : Nat} {p : Nat → Bool} (h : ∀ j, j < n → p j = false) : (List.range n).any p = false := by
  rw [List.any_eq_false]; intro x hx; simp [h x (List.mem_range.1 hx)]
theorem any_yes {n : Nat} {p : Nat → Bool} (k : Nat) (hk : k < n) (h : p k = true) : (List.range n).any p = true := by
  rw [List.any_eq_true]; exact ⟨k, List.mem_range.2 hk, h⟩

theorem bools_true (n j : Nat) (hj : j < n) : (List.replicate j true ++ List.replicate (n - j) false).set j true = List.replicate (j + 1) true ++ List.replicate (n - (j + 1)) false := by
  rw [show n - j = (n - (j + 1)) + 1 by omega, List.replicate_succ, List.set_append_right _ _ (by simp)]
  simp [List.replicate_succ']

set_option maxHeartbeats 4000000 in
set_option maxRecDepth 100000 in
theorem Cyclic_any (qb base nv : Nat) (l : List AD) (w : World) (h : QSt w qb base nv l) (hl : l.length ≤ 100) (hnv : nv ≤ 1000) :
    Calls Try.prog 13 #[.pointer (some ⟨qb, 0, none⟩)] w fun x w' => x = .returned (.bool (cyc nv l (l.length - 1) (List.replicate l.length true))) ∧ Below w.heap.size w w' := by
  obtain ⟨va, vcap, hv, av, hq, har⟩ := h.ex
  obtain ⟨aa, acap, rfl⟩ := own_form har
  have q2 : w.cell? ⟨qb, 2, none⟩ = some (.slice aa l.length acap) := by simp [World.cell?, hq]
  clear hq har
  obtain ⟨i0, hi0, hz0, hz1, hz2⟩ := info_parts Try.info4
  go_enter Try.func13, Try.ntmps13
  go_wp2_with (at_make; refine wpList_make_full _ rfl (.tmp 14) (.tmp 14) 75 rfl w.heap.size 4 i0 (.bool false) 1 Try.underlying75 hi0 hz0 hz1 .i64 .i64 (l.length : Int) (l.length : Int) l.length rfl rfl rfl rfl (by rw [hz2]; omega) (by unfold maxLen; omega) (Nat.le_refl _) ?_; intro w1 hown1 hgrow1)
  rw [made_bools] at hown1
  have hb1 : Below w.heap.size w w1 := (Below.refl _ _).grown hgrow1 (Nat.le_refl _) (fun k e => by cases e)
  clear hgrow1 hi0 hz0 hz1 hz2 q2
  generalize hC : cyc nv l (l.length - 1) (List.replicate l.length true) = C
  have HC : Hid (cyc nv l (l.length - 1) (List.replicate l.length true) = C) := hC
  clear hC
  go_loopw [4] (fun jv wr => ∃ j : Nat, j ≤ l.length ∧ jv = .int .i64 j ∧ wr.ownsRow w.heap.size 4 1 (.slice (some ⟨w.heap.size, 0, none⟩) l.length l.length) l.length ((List.replicate j true ++ List.replicate (l.length - j) false).map Value.bool) ∧ Below w.heap.size w wr) (fun jv _ => l.length - (intOf jv).toNat)
  case atStart => exact ⟨0, Nat.zero_le _, rfl, by simpa using hown1, hb1⟩
  case round =>
    obtain ⟨j, hj, rfl, hown, hb⟩ := hrel
    by_cases hlt : j < l.length
    · have st := hown.stored j (.bool true)
      have s0 := bools_at hown (by simp; omega) j hlt
      have f0 := hown.frozenAt j
      have ST : Hid _ := st
      clear st
      go_wp2_with fail
      go_roundw
      case rel =>
        refine ⟨j + 1, by omega, by go_num, ?_, hb.setCell (p := ⟨w.heap.size, j, none⟩) (Nat.le_refl _) _⟩
        have := ST.out.1
        rw [← bools_true l.length j hlt, List.map_set]
        exact this
      case measure => simp [intOf]; omega
    · have hjl : j = l.length := by omega
      subst hjl
      simp only [Nat.sub_self, List.replicate_zero, List.append_nil] at hown
      obtain ⟨w3, hw3⟩ : ∃ w3 : World, w3 = wr := ⟨_, rfl⟩
      subst hw3
      go_wp2_with fail
      go_loopw [5, 6, 7, 8, 9] (fun nn _ _ _ _ wr => ∃ (m : Nat) (left : List Bool), m ≤ l.length ∧ nn = .int .i64 m ∧ left.length = l.length ∧ wr.ownsRow w.heap.size 4 1 (.slice (some ⟨w.heap.size, 0, none⟩) l.length l.length) l.length (left.map Value.bool) ∧ Below w.heap.size w wr ∧ cyc nv l (m - 1) left = C) (fun nn _ _ _ _ _ => (intOf nn).toNat)
      case atStart => exact ⟨l.length, _, Nat.le_refl _, rfl, by simp, hown, hb, HC.out⟩
      case round =>
        obtain ⟨m, left, hm, rfl, hleft, hown5, hb5, hc⟩ := hrel
        have HCC : Hid (cyc nv l (m - 1) left = C) := hc
        clear hc
        by_cases hm1 : 1 < m
        · obtain ⟨w5, hw5⟩ : ∃ w5 : World, w5 = wr := ⟨_, rfl⟩
          subst hw5
          have lB : w.heap.size < w5.heap.size := (hown5.lt _ rfl).2
          have hm1d : decide ((1 : Int) < (m : Int)) = true := decide_eq_true (by omega)
          go_upto_block 4 with fail
          go_cut [6, 7, 8, 9] (fun γ _ _ _ wx => Below w5.heap.size w5 wx ∧ ((γ = .int .i64 (-1) ∧ gone1 nv left l = none) ∨ ∃ g : Nat, g < l.length ∧ γ = .int .i64 g ∧ gone1 nv left l = some g))
          case first =>
            go_wp2_with fail
            go_loopw [6, 7, 8, 9] (fun γ iv _ _ wr => ∃ i : Nat, i ≤ l.length ∧ iv = .int .i64 i ∧ Below w5.heap.size w5 wr ∧ ((γ = .int .i64 (-1) ∧ ∀ i', i' < i → goneB nv left l i' = false) ∨ ∃ g : Nat, g < l.length ∧ γ = .int .i64 g ∧ gone1 nv left l = some g)) (fun _ iv _ _ _ => l.length - (intOf iv).toNat)
            case atStart => exact ⟨0, Nat.zero_le _, rfl, Below.refl _ _, Or.inl ⟨rfl, fun _ h => absurd h (Nat.not_lt_zero _)⟩⟩
            case round =>
              obtain ⟨i, hi, rfl, hb6, hcase⟩ := hrel
              rcases hcase with ⟨rfl, hno⟩ | ⟨g, hg, rfl, hgone⟩
              · have HNO : Hid (∀ i', i' < i → goneB nv left l i' = false) := hno
                clear hno
                by_cases hil : i < l.length
                · obtain ⟨w6, hw6⟩ : ∃ w6 : World, w6 = wr := ⟨_, rfl⟩
                  subst hw6
                  go_wp2_with fail
                  go_loopw [6, 8, 9] (fun γ kv _ wr => ∃ k : Nat, k ≤ l.length ∧ kv = .int .i64 k ∧ Below w5.heap.size w5 wr ∧ ((γ = .int .i64 (-1) ∧ ∀ k', k' < k → pairB nv left l i k' = false) ∨ (γ = .int .i64 i ∧ goneB nv left l i = true))) (fun _ kv _ _ => l.length - (intOf kv).toNat)
                  case atStart => exact ⟨0, Nat.zero_le _, rfl, hb6, Or.inl ⟨rfl, fun _ h => absurd h (Nat.not_lt_zero _)⟩⟩
                  case round =>
                    obtain ⟨k, hk, rfl, hb7, hcase⟩ := hrel
                    have hown7 := own_below hown5 hb7
                    have h7 : QSt wr qb base nv l := (h.below hb5).below hb7
                    rcases hcase with ⟨rfl, hnok⟩ | ⟨rfl, hyes⟩
                    · have HNK : Hid (∀ k', k' < k → pairB nv left l i k' = false) := hnok
                      clear hnok
                      by_cases hkl : k < l.length
                      · have ci := bools_at hown7 hleft i hil
                        have ck := bools_at hown7 hleft k hkl
                        have hstep : pairB nv left l i k = false → ∀ k', k' < k + 1 → pairB nv left l i k' = false := by
                          intro hx k' hk'
                          by_cases e : k' = k
                          · rw [e]; exact hx
                          · exact HNK.out k' (by omega)
                        have HST : Hid _ := hstep
                        clear hstep
                        have hdef : Hid (pairB nv left l i k = (left.getD i false && left.getD k false && !(i == k) && earB nv left l i k)) := rfl
                        cases e1 : left.getD i false
                        · rw [e1] at ci
                          have hno : Hid (pairB nv left l i k = false) := by unfold Hid; rw [hdef.out, e1]; rfl
                          go_wp2_with fail
                          go_roundw
                          case rel => exact ⟨k + 1, by omega, by go_num, hb7, Or.inl ⟨rfl, HST.out hno.out⟩⟩
                          case measure => simp [intOf]; omega
                        · rw [e1] at ci
                          cases e2 : left.getD k false
                          · rw [e2] at ck
                            have hno : Hid (pairB nv left l i k = false) := by unfold Hid; rw [hdef.out, e2]; simp
                            go_wp2_with fail
                            go_roundw
                            case rel => exact ⟨k + 1, by omega, by go_num, hb7, Or.inl ⟨rfl, HST.out hno.out⟩⟩
                            case measure => simp [intOf]; omega
                          · rw [e2] at ck
                            cases e3 : ((i : Int) != (k : Int))
                            · have hno : Hid (pairB nv left l i k = false) := by
                                have : i = k := by have := (bne_eq_false_iff_eq.1 e3); omega
                                unfold Hid; rw [hdef.out, this]; simp
                              go_wp2_with fail
                              go_roundw
                              case rel => exact ⟨k + 1, by omega, by go_num, hb7, Or.inl ⟨rfl, HST.out hno.out⟩⟩
                              case measure => simp [intOf]; omega
                            · have hne : Hid ((i == k) = false) := by have := bne_iff_ne.1 e3; exact beq_eq_false_iff_ne.2 (by omega)
                              have hdef2 : Hid (pairB nv left l i k = earB nv left l i k) := by unfold Hid; rw [hdef.out, e1, e2, hne.out]; simp
                              go_wp2_with fail
                              refine (ear_any qb base nv i k w.heap.size l.length w.heap.size l left _ h7 hil hkl hl hnv hown7 hleft).mono ?_
                              rintro e w8 ⟨rfl, hb8⟩
                              have hb78 : Below w5.heap.size w5 w8 := hb7.trans (hb8.mono hb7.size)
                              cases e4 : earB nv left l i k
                              · go_wp2_with fail
                                go_roundw
                                case rel => first | exact ⟨k + 1, by omega, by go_num, hb78, Or.inl ⟨rfl, HST.out (by rw [hdef2.out]; exact e4)⟩⟩ | ((repeat apply Exists.intro); exact ⟨⟨k + 1, by omega, by go_num, hb78, Or.inl ⟨rfl, HST.out (by rw [hdef2.out]; exact e4)⟩⟩, rfl⟩)
                                case measure => simp [intOf]; omega
                              · go_wp2_with fail
                                go_roundw
                                case rel => first | exact ⟨k + 1, by omega, by go_num, hb78, Or.inr ⟨rfl, any_yes k hkl (by rw [hdef2.out]; exact e4)⟩⟩ | ((repeat apply Exists.intro); exact ⟨⟨k + 1, by omega, by go_num, hb78, Or.inr ⟨rfl, any_yes k hkl (by rw [hdef2.out]; exact e4)⟩⟩, rfl⟩)
                                case measure => simp [intOf]; omega
                      · have hgi : Hid (goneB nv left l i = false) := by unfold Hid goneB; exact any_no (fun k' hk' => HNK.out k' (by omega))
                        go_wp2_with fail
                        go_roundw
                        case rel => exact ⟨i + 1, by omega, by go_num, hb7, Or.inl ⟨rfl, fun i' hi' => by
                          by_cases e : i' = i
                          · rw [e]; exact hgi.out
                          · exact HNO.out i' (by omega)⟩⟩
                        case measure => simp [intOf]; omega
                    · have hgg : Hid (gone1 nv left l = some i) := by unfold Hid gone1; exact find_some i hil hyes (fun j hj => HNO.out j hj)
                      by_cases hkl : k < l.length
                      all_goals
                        go_wp2_with fail
                        go_roundw
                        case rel => exact ⟨i + 1, by omega, by go_num, hb7, Or.inr ⟨i, hil, rfl, hgg.out⟩⟩
                        case measure => simp [intOf]; omega
                · go_wp2_with fail
                  go_meet
                  exact ⟨hb6, Or.inl ⟨rfl, find_none (fun j hj => HNO.out j (by omega))⟩⟩
              · have HG : Hid (gone1 nv left l = some g) := hgone
                clear hgone
                by_cases hil : i < l.length
                all_goals
                  go_wp2_with fail
                  go_meet
                  exact ⟨hb6, Or.inr ⟨g, hg, rfl, HG.out⟩⟩
          case rest =>
            obtain ⟨hb9, hcase⟩ := hcut
            have hown9 := own_below hown5 hb9
            have hb09 : Below w.heap.size w wc := hb5.trans (hb9.mono (by omega))
            rcases hcase with ⟨rfl, hgone⟩ | ⟨g, hg, rfl, hgone⟩
            · have HR : Hid (true = cyc nv l (l.length - 1) (List.replicate l.length true)) := by
                unfold Hid; rw [HC.out, ← HCC.out, show m - 1 = (m - 2) + 1 by omega, cyc, hgone]
              clear hgone
              go_wp2_with fail
              go_ret
              exact ⟨ret_bool HR.out, hb09⟩
            · have HR : Hid (cyc nv l (m - 1 - 1) (left.set g false) = C) := by
                unfold Hid; rw [← HCC.out, show m - 1 = (m - 2) + 1 by omega, cyc, hgone]; rfl
              clear hgone
              have st := hown9.stored g (.bool false)
              have s0 := bools_at hown9 hleft g hg
              have f0 := hown9.frozenAt g
              have ST : Hid _ := st
              clear st
              go_wp2_with fail
              go_roundw
              case rel =>
                refine ⟨m - 1, left.set g false, by omega, ?_, by simpa using hleft, ?_, hb09.setCell (p := ⟨w.heap.size, g, none⟩) (Nat.le_refl _) _, HR.out⟩
                · have : ((m - 1 : Nat) : Int) = (m : Int) - 1 := by omega
                  rw [this]
                · rw [List.map_set]; exact ST.out.1
              case measure => simp [intOf]; omega
        · go_wp2_with fail
          go_ret
          refine ⟨ret_bool ?_, hb5⟩
          rw [HC.out, ← HCC.out, show m - 1 = 0 by omega]; rfl

end Go.Proofs.Ytondkinefmjpjaa
