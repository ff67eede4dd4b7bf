import Derived.Deep.Onto
import Derived.Deep.CutBlock
import Derived.Test.YtondkinefmjpjaaGreatW09
import Derived.Test.YtondkinefmjpjaaGreatW22
/-
  The document's view: find, Start.
-/
namespace Go.Proofs.YtondkinefmjpjaaGreat
open Go.RowKit

/-- A relation of the document's: its name, how many values, its rows. -/
abbrev RfD := ByteArray × Nat × Value
def rfcells (l : List RfD) : List Value := l.flatMap fun d => [.string d.1, .int .i64 d.2.1, d.2.2]
theorem rfcells_at (l : List RfD) (k : Nat) (hk : k < l.length) : (rfcells l)[k * 3]? = some (.string l[k].1) ∧ (rfcells l)[k * 3 + 1]? = some (.int .i64 l[k].2.1) ∧ (rfcells l)[k * 3 + 2]? = some l[k].2.2 := by
  induction l generalizing k with
  | nil => simp at hk
  | cons d l ih =>
    cases k with
    | zero => simp [rfcells]
    | succ k =>
      have := ih k (by simpa using hk)
      have e : rfcells (d :: l) = [.string d.1, .int .i64 d.2.1, d.2.2] ++ rfcells l := by simp [rfcells]
      rw [e]
      have e0 : (k + 1) * 3 = k * 3 + 3 := by omega
      rw [e0, List.getElem?_append_right (by simp), List.getElem?_append_right (by simp), List.getElem?_append_right (by simp)]
      simpa using this
theorem rfcells_snoc (l : List RfD) (d : RfD) : rfcells (l ++ [d]) = rfcells l ++ [.string d.1, .int .i64 d.2.1, d.2.2] := by simp [rfcells]
def fixOf (l : List RfD) (t : ByteArray) : Int := if l.findIdx (fun p => p.1.toList == t.toList) < l.length then (l.findIdx (fun p => p.1.toList == t.toList) : Int) else -1

set_option maxHeartbeats 2000000 in
theorem find_any (vb base : Nat) (l : List RfD) (rv : Value) (t : ByteArray) (w : World) (hc : w.cell? ⟨vb, 1, none⟩ = some rv) (ho : w.ownsRow base 140 3 rv l.length (rfcells l)) (hl : l.length ≤ 1000) :
    Calls Tryz.prog 63 #[.pointer (some ⟨vb, 0, none⟩), .string t] w fun x w' => x = .returned (.int .i64 (fixOf l t)) ∧ w' = w := by
  obtain ⟨ha, cap, rfl⟩ := vown_form ho
  go_enter Tryz.func63, Tryz.ntmps63
  go_wp2_with fail
  go_loop [5] (fun i => ∃ k : Nat, k ≤ l.length ∧ i = .int .i64 k ∧ ∀ j (hj : j < l.length), j < k → (l[j].1.toList == t.toList) = false) (fun i => l.length - (intOf i).toNat)
  case atStart => exact ⟨0, Nat.zero_le _, rfl, fun _ _ h => absurd h (Nat.not_lt_zero _)⟩
  case round =>
    obtain ⟨k, hk, rfl, hd'⟩ := hrel
    have HD : Hid (∀ j (hj : j < l.length), j < k → (l[j].1.toList == t.toList) = false) := hd'
    clear hd'
    by_cases hlt : k < l.length
    · obtain ⟨g, cap', he⟩ := vown_some ho (by omega)
      simp only [Value.slice.injEq, true_and] at he
      obtain ⟨rfl, rfl⟩ := he
      obtain ⟨x0, x1, x2⟩ := rfcells_at l k hlt
      have y0 := (ho.cellAt (k * 3) (by omega)).trans x0
      clear x0 x1 x2
      cases hx : (l[k].1.toList == t.toList)
      · go_wp2_with fail
        go_round
        case rel => exact ⟨k + 1, by omega, by go_num, fun j hj hjk => by
          by_cases e : j = k
          · subst e; exact hx
          · exact HD.out j hj (by omega)⟩
        case measure => simp [intOf]; omega
      · have HX : Hid (fixOf l t = (k : Int)) := by
          have e : l.findIdx (fun p => p.1.toList == t.toList) = k := (List.findIdx_eq hlt).2 ⟨hx, fun j hj => HD.out j (by omega) hj⟩
          unfold Hid fixOf; rw [e, if_pos hlt]
        go_wp2_with fail
        go_ret
        exact ⟨vret_int HX.out.symm, rfl⟩
    · have HX : Hid (fixOf l t = -1) := by
        have e : l.findIdx (fun p => p.1.toList == t.toList) = l.length := by
          refine List.findIdx_eq_length.2 (fun x hx => ?_)
          obtain ⟨j, hj, rfl⟩ := List.getElem_of_mem hx
          exact HD.out j hj (by omega)
        unfold Hid fixOf; rw [e, if_neg (by omega)]
      go_wp2_with fail
      go_ret
      exact ⟨vret_int HX.out.symm, rfl⟩
end Go.Proofs.YtondkinefmjpjaaGreat
namespace Go.Proofs.YtondkinefmjpjaaGreat
open Go.RowKit

theorem Tryz.info140 : (Tryz.prog.info? 140).map (fun i => (i.zero, i.size, i.bytes)) = some (some (.agg #[.string ⟨#[]⟩, .int .i64 0, .slice none 0 0]), 3, 48) := by kernel_rfl
theorem wthree_new (w : World) (x y z : Value) (t : TypeId) : ∀ j u, [x, y, z][j]? = some u → (w.alloc (.cells #[x, y, z] t)).cell? ((⟨w.heap.size, 0, none⟩ : Addr).add j) = some u := by
  intro j u hj
  match j, hj with
  | 0, hj => simp at hj; subst hj; simp [Addr.add]
  | 1, hj => simp at hj; subst hj; simp [Addr.add]
  | 2, hj => simp at hj; subst hj; simp [Addr.add]
/-- The document's view while its relations are gathered. -/
structure RvS (w : World) (vb : Nat) (qp rv : Value) (l : List RfD) : Prop where
  blk : w.heap[vb]? = some (.cells #[qp, rv] 101 (0, 0))
  row : w.ownsRow vb 140 3 rv l.length (rfcells l)
theorem RvS.below {w w' : World} {vb : Nat} {qp rv : Value} {l : List RfD} (h : RvS w vb qp rv l) (hb : Below w.heap.size w w') : RvS w' vb qp rv l := ⟨(hb.block _ (vlt_of_block h.blk)).trans h.blk, vown_below h.row hb⟩
theorem RvS.more {w w1 w2 : World} {vb m : Nat} {qp rv rv' : Value} {l : List RfD} {d : RfD} (h : RvS w vb qp rv l) (hb : Below w.heap.size w w1) (hg : w1.grownBy w2 rv.ownBlock) (ho : w2.ownsRow vb 140 3 rv' m (rfcells l ++ [.string d.1, .int .i64 d.2.1, d.2.2])) (hm : m = l.length + 1) :
    RvS (w2.setCell ⟨vb, 1, none⟩ rv') vb qp rv' (l ++ [d]) ∧ w2.cell? ⟨vb, 1, none⟩ = some rv ∧ w2.frozen? ⟨vb, 1, none⟩ = false := by
  have nb : rv.ownBlock ≠ some vb := fun e => by
    rcases h.row.2 with ⟨rfl, _⟩ | ⟨g, cap, cur, rfl, _, h1, _⟩
    · cases e
    · cases e; rw [h.blk] at h1; simp at h1
  have b2 : w2.heap[vb]? = some (.cells #[qp, rv] 101 (0, 0)) := by
    have lt := vlt_of_block h.blk
    rw [hg.block vb (Nat.lt_of_lt_of_le lt hb.size) (fun e => nb e.symm), hb.block vb lt]; exact h.blk
  refine ⟨⟨?_, ?_⟩, by simp [World.cell?, b2], by simp [World.frozen?, b2]⟩
  · rw [blk_setCell b2 1 rv']; simp [Array.setIfInBounds]
  · rw [rfcells_snoc, List.length_append, show l.length + [d].length = m by simp; omega]
    refine ⟨ho.1, ?_⟩
    rcases ho.2 with hn | ⟨g, cap, cur, rfl, h1, h2, rest⟩
    · exact .inl hn
    · refine .inr ⟨g, cap, cur, rfl, h1, ?_, rest⟩
      rw [Below.heap_setCell _ _ _ _ (fun e => by rw [e, b2] at h2; simp at h2)]; exact h2

set_option maxHeartbeats 8000000 in
set_option maxRecDepth 100000 in
theorem RefStart_no (s : ByteArray) (w : World) (hs : s.size ≤ maxLen) (hE : K.refE s ≠ 0) :
    Calls Tryz.prog 33 #[.string s] w fun e w' => e = .returned (.tuple #[.pointer none, .int .i64 (K.refE s), .int .i64 (K.refP s)]) ∧ Below w.heap.size w w' := by
  have PA := K.Parse_any s w hs
  obtain ⟨E, hEE⟩ : ∃ E, K.refE s = E := ⟨_, rfl⟩
  obtain ⟨A, hAA⟩ : ∃ A, K.refP s = A := ⟨_, rfl⟩
  rw [hEE, hAA] at PA
  rw [hEE] at hE
  rw [hEE, hAA]
  have hne : (E != 0) = true := by rw [bne_iff_ne]; exact hE
  clear hEE hAA
  have HPA : Hid _ := PA
  go_enter Tryz.func33, Tryz.ntmps33
  go_wp2_with fail
  refine PA.mono ?_
  rintro x w1 ⟨⟨q, rfl, _⟩, hb1⟩
  go_wp2_with fail
  refine bodyPost_ret (v := .tuple #[.pointer none, .int .i64 E, .int .i64 A]) (by simp [results, Tryz.results33, go_sem]) rfl ⟨rfl, hb1⟩

set_option maxHeartbeats 8000000 in
set_option maxRecDepth 100000 in
theorem RefStart_ok (s : ByteArray) (w : World) (hs : s.size ≤ maxLen) (hE : K.refE s = 0) :
    Calls Tryz.prog 33 #[.string s] w fun e w' => ∃ vb, e = .returned (.tuple #[.pointer (some ⟨vb, 0, none⟩), .int .i64 0, .int .i64 0]) ∧ Below w.heap.size w w' := by
  have PA := K.Parse_any s w hs
  rw [hE] at PA
  obtain ⟨A, hAA⟩ : ∃ A, K.refP s = A := ⟨_, rfl⟩
  rw [hAA] at PA
  clear hAA hE
  obtain ⟨i0, hi, hz0, hz1, hz2⟩ := info_parts Tryz.info140
  have HI : Hid _ := hi
  have HZ0 : Hid _ := hz0
  have HZ1 : Hid _ := hz1
  have HZ2 : Hid _ := hz2
  clear hi hz0 hz1 hz2
  go_enter Tryz.func33, Tryz.ntmps33
  go_wp2_with fail
  refine PA.mono ?_
  rintro x w1 ⟨⟨q, rfl, hq⟩, hb1⟩
  obtain ⟨qb, base, nv, l, rfl, hQ, hl⟩ := hq trivial
  obtain ⟨va, vcap, hv, av, h1, h2⟩ := hQ.ex
  obtain ⟨aa, ac, rfl⟩ := vown_form h2
  have HTS : Hid _ := hQ.ts
  have HQB : Hid _ := h1
  have HRW : Hid _ := h2
  have HB1 : Hid _ := hb1
  have lqb := vlt_of_block h1
  clear hQ hq PA h1 h2 hb1
  go_wp2_with fail
  go_loopw [9, 10] (fun iv _ wr => ∃ (k : Nat) (ra : Option Addr) (rc : Nat) (m : List RfD), k ≤ l.length ∧ iv = .int .i64 k ∧ RvS wr w1.heap.size (.pointer (some ⟨qb, 0, none⟩)) (.slice ra m.length rc) m ∧ m.length ≤ k ∧ Below w1.heap.size w1 wr) (fun iv _ _ => l.length - (intOf iv).toNat)
  case atStart => exact ⟨0, none, 0, [], Nat.zero_le _, rfl, ⟨vheap_alloc_new _ _, World.ownsRow_nil _ _ _ _⟩, Nat.le_refl _, (Below.refl _ _).alloc (Nat.le_refl _) _⟩
  case round =>
    obtain ⟨k, ra, rc, m, hk, rfl, hR, hmk, hb⟩ := hrel
    have qbl := (hb.block qb lqb).trans HQB.out
    have c2 : wr.cell? ⟨qb, 2, none⟩ = some (.slice aa l.length ac) := by simp [World.cell?, qbl]
    have lq2 := vlt_of_block qbl
    by_cases hlt : k < l.length
    · have hpr := vown_below HRW.out hb
      obtain ⟨g, cap', he⟩ := vown_some hpr (by omega)
      simp only [Value.slice.injEq, true_and] at he
      obtain ⟨rfl, rfl⟩ := he
      obtain ⟨y0, y1, y2⟩ := K.acells_at' l k hlt
      have d0 := (hpr.cellAt (k * 3) (by omega)).trans y0
      have d1 := (hpr.cellAt (k * 3 + 1) (by omega)).trans y1
      have d2 := (hpr.cellAt (k * 3 + 2) (by omega)).trans y2
      have lg := World.block_lt_of_cell? _ _ d0
      obtain ⟨ta, tc, htv⟩ := vown_form (HTS.out _ (List.getElem_mem hlt))
      rw [htv] at d1
      obtain ⟨TN, hTN⟩ : ∃ x, l[k].ts.length = x := ⟨_, rfl⟩
      obtain ⟨RL, hRL⟩ : ∃ x, l[k].rel = x := ⟨_, rfl⟩
      obtain ⟨AT, hAT⟩ : ∃ x, l[k].at_ = x := ⟨_, rfl⟩
      rw [hTN] at d1
      rw [hRL] at d0
      rw [hAT] at d2
      have v1 : wr.cell? ⟨w1.heap.size, 1, none⟩ = some (.slice ra m.length rc) := by simp [World.cell?, hR.blk]
      have lv := vlt_of_block hR.blk
      obtain ⟨M, hM⟩ : ∃ M, m.length = M := ⟨_, rfl⟩
      have HM : Hid _ := hM
      have hrow := hR.row
      rw [hM] at hrow hmk v1 hR
      have HR : Hid _ := hR
      have hM100 : M ≤ 100 := by omega
      obtain ⟨I, hI⟩ : ∃ I, fixOf m RL = I := ⟨_, rfl⟩
      have FA := find_any w1.heap.size w1.heap.size m (.slice ra m.length rc) RL (wr.alloc (.cells #[.string RL, .slice ta TN tc, .int .i64 AT] 138)) (by rw [hM]; exact (((Below.refl wr.heap.size wr).alloc (Nat.le_refl _) _).cell (p := ⟨w1.heap.size, 1, none⟩) lv).trans v1) (by have := hrow.alloc (.cells #[.string RL, .slice ta TN tc, .int .i64 AT] 138); rw [← hM] at this; exact this) (by omega)
      rw [hI] at FA
      clear hR hM y0 y1 y2 hpr htv hTN hRL hAT hI
      go_wp2_with fail
      refine FA.mono ?_
      rintro x w2 ⟨rfl, hw2⟩
      subst hw2
      by_cases hneg : I < 0
      · go_upto_region 10 with fail
        go_region_law (refine step_append_own rfl (.tmp 49) (.tmp 56) 99 rfl w1.heap.size 140 i0 (.agg #[.string ⟨#[]⟩, .int .i64 0, .slice none 0 0]) 3 48 Tryz.underlying99 HI.out HZ0.out HZ1.out HZ2.out rfl (by decide) (.slice ra M rc) M (rfcells m) rfl (by exact ((hrow.alloc _).alloc _)) ⟨wr.heap.size + 1, 0, none⟩ 1 1 [.string RL, .int .i64 TN, .slice none 0 0] rfl rfl (by have := wthree_new (wr.alloc (.cells #[.string RL, .slice ta TN tc, .int .i64 AT] 138)) (.string RL) (.int .i64 TN) (.slice none 0 0) 140; simpa using this) (by intro u hu; simp at hu; rcases hu with rfl | rfl | rfl <;> rfl) (by unfold maxLen; omega) (by omega) (by simp; omega) ?_; intro v6 w6 hown6 hgrow6; obtain ⟨va6, vc6, rfl⟩ := vown_form hown6; have FIN := RvS.more (d := (RL, TN, .slice none 0 0)) (w1 := ((wr.alloc (.cells #[.string RL, .slice ta TN tc, .int .i64 AT] 138)).alloc (.cells #[.string RL, .int .i64 TN, .slice none 0 0] 140)).drew) HR.out ((((Below.refl _ _).alloc (Nat.le_refl _) _).alloc (by simp) _).drew) (by exact hgrow6) hown6 (by rw [HM.out]); have e2 := FIN.2.1; have e3 := FIN.2.2)
        all_goals go_wp2_with fail
        all_goals go_roundw
        all_goals first
          | (simp [intOf]; omega)
          | exact ⟨k + 1, va6, vc6, m ++ [(RL, TN, Value.slice none 0 0)], by omega, by go_num, by rw [show (m ++ [(RL, TN, Value.slice none 0 0)]).length = M + 1 by rw [List.length_append, HM.out]; rfl]; exact FIN.1, by rw [List.length_append, HM.out]; simp; omega, (((hb.alloc hb.size _).alloc (by have := hb.size; simp; omega) _).drew.grown (by exact hgrow6) (by have := hb.size; simp; omega) (fun j hj => (hrow.lt j hj).1)).setCell (p := ⟨w1.heap.size, 1, none⟩) (Nat.le_refl _) _⟩
      · go_wp2_with fail
        go_roundw
        case rel => exact ⟨k + 1, ra, rc, m, by omega, by go_num, by rw [HM.out]; exact HR.out.below ((Below.refl _ _).alloc (Nat.le_refl _) _), by rw [HM.out]; omega, hb.alloc hb.size _⟩
        case measure => simp [intOf]; omega
    · go_wp2_with fail
      refine bodyPost_ret (v := .tuple #[.pointer (some ⟨w1.heap.size, 0, none⟩), .int .i64 0, .int .i64 0]) (by simp [results, Tryz.results33, go_sem]) rfl ⟨w1.heap.size, rfl, HB1.out.trans (hb.mono HB1.out.size)⟩
end Go.Proofs.YtondkinefmjpjaaGreat
