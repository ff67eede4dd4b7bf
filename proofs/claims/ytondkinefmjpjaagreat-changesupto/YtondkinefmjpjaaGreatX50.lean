import Derived.Deep.CutBlock
import Derived.Deep.AppendLies
import Derived.Test.YtondkinefmjpjaaGreatX22
import Derived.Test.YtondkinefmjpjaaGreatX25
import Derived.Test.YtondkinefmjpjaaGreatX37
import Derived.Test.YtondkinefmjpjaaGreatX39
import Derived.Test.YtondkinefmjpjaaGreatX48
namespace Go.Proofs.YtondkinefmjpjaaGreat
open Go.RowKit
theorem Tryz.info103 : (Tryz.prog.info? 103).map (fun i => (i.zero, i.size, i.bytes)) = some (some (.agg #[.slice none 0 0, .int .i64 0]), 2, 32) := by kernel_rfl
theorem enter35 : ∀ vs u, (callFunc 35 vs).run Tryz.prog u = .ok (.enter 35 vs) u := enters_of Tryz.func35 (by kernel_rfl) rfl
def sIx (l : Rws) (xs : List Int) : Nat := l.findIdx fun r => decide (r.1 = xs)
def addS (l : Rws) (r : List Int × Int) : Rws := if sIx l r.1 < l.length then l.set (sIx l r.1) ((rAt l (sIx l r.1)).1, wr ((rAt l (sIx l r.1)).2 + r.2)) else l ++ [r]
def sumL (l m : Rws) : Rws := m.foldl addS l
theorem sumL_take (l m : Rws) (k : Nat) (hk : k < m.length) : sumL l (m.take (k + 1)) = addS (sumL l (m.take k)) (rAt m k) := by
  unfold sumL
  rw [List.take_succ_eq_append_getElem hk, List.foldl_append]
  have : rAt m k = m[k] := by unfold rAt; rw [List.getD_eq_getElem?_getD, List.getElem?_eq_getElem hk]; rfl
  rw [this]; rfl
theorem addS_len (l : Rws) (r : List Int × Int) : (addS l r).length ≤ l.length + 1 := by
  unfold addS; split <;> simp
theorem sumL_len (l m : Rws) : (sumL l m).length ≤ l.length + m.length := by
  induction m generalizing l with
  | nil => simp [sumL]
  | cons r m ih =>
    have := ih (addS l r)
    have := addS_len l r
    show (sumL (addS l r) m).length ≤ _
    simp only [List.length_cons]; omega
theorem rAt_set (l : Rws) (j : Nat) (v : List Int × Int) (i : Nat) (hi : i < l.length) : rAt (l.set j v) i = if i = j then v else rAt l i := by
  unfold rAt
  rw [List.getD_eq_getElem?_getD, List.getD_eq_getElem?_getD, List.getElem?_set]
  by_cases e : j = i
  · subst e; simp [hi]
  · rw [if_neg e, if_neg (fun x => e x.symm)]
theorem rcells_set (us : List Value) (l : Rws) (h : us.length = l.length) (j : Nat) (hj : j < l.length) (z : Int) : (rcells us l).set (j * 2 + 1) (.int .i64 z) = rcells us (l.set j ((rAt l j).1, z)) := by
  induction l generalizing us j with
  | nil => simp at hj
  | cons r l ih =>
    cases us with
    | nil => simp at h
    | cons u us =>
      cases j with
      | zero => rfl
      | succ j =>
        have e := ih us (by simpa using h) j (by simpa using hj)
        have ra : rAt (r :: l) (j + 1) = rAt l j := rfl
        rw [ra, show (r :: l).set (j + 1) ((rAt l j).1, z) = r :: l.set j ((rAt l j).1, z) from rfl]
        show (u :: .int .i64 r.2 :: rcells us l).set ((j + 1) * 2 + 1) _ = u :: .int .i64 r.2 :: rcells us (l.set j ((rAt l j).1, z))
        rw [show (j + 1) * 2 + 1 = (j * 2 + 1) + 1 + 1 by omega, List.set_cons_succ, List.set_cons_succ, e]
theorem RNew.setBy {B : Nat} {w : World} {g cap n : Nat} {us : List Value} {l : Rws} (h : RNew 103 B w (.slice (some ⟨g, 0, none⟩) n cap) us l) {j : Nat} (hj : j < l.length) (z : Int) :
    RNew 103 B (w.setCell ⟨g, j * 2 + 1, none⟩ (.int .i64 z)) (.slice (some ⟨g, 0, none⟩) n cap) us (l.set j ((rAt l j).1, z)) ∧ Kp (fun k => k = g) w (w.setCell ⟨g, j * 2 + 1, none⟩ (.int .i64 z)) := by
  obtain ⟨h1, h2, h3⟩ := h
  obtain ⟨_, _, he⟩ := vown_form h2
  simp only [Value.slice.injEq] at he
  have hn : n = l.length := he.2.1
  subst hn
  have hk : Kp (fun k => k = g) w (w.setCell ⟨g, j * 2 + 1, none⟩ (.int .i64 z)) := Kp.set _ _ _ rfl
  obtain ⟨c, hc⟩ := own_cells h2 (k := g) rfl
  refine ⟨⟨by simp [h1], ?_, fun i hi => ?_⟩, hk⟩
  · rw [List.length_set, ← rcells_set us l h1 j hj z]
    exact (h2.stored (j * 2 + 1) (.int .i64 z)).1
  · rw [List.length_set] at hi
    rw [rAt_set _ _ _ _ hi]
    have h4 := hk.own (h3 i hi) (fun k hk' e => by
      obtain ⟨c', hc'⟩ := own_cells (h3 i hi) hk'
      rw [show k = g from e, hc] at hc'; simp at hc')
    split
    · rename_i e; subst e; exact h4
    · exact h4
theorem RNew.kp {e B : Nat} {P : Nat → Prop} {w w' : World} {v : Value} {us : List Value} {l : Rws} (h : RNew e B w v us l) (hk : Kp P w w') (hP : ∀ k, P k → ∃ c, w.heap[k]? = some (.cells c 103 (0, 0))) (he : e ≠ 103) : RNew e B w' v us l :=
  ⟨h.1, hk.own h.2.1 (fun k hk' hp => by
    obtain ⟨c, hc⟩ := own_cells h.2.1 hk'
    obtain ⟨c', hc'⟩ := hP k hp
    rw [hc] at hc'; simp at hc'; exact he hc'.2), fun j hj => hk.own (h.2.2 j hj) (fun k hk' hp => by
    obtain ⟨c, hc⟩ := own_cells (h.2.2 j hj) hk'
    obtain ⟨c', hc'⟩ := hP k hp
    rw [hc] at hc'; simp at hc')⟩
end Go.Proofs.YtondkinefmjpjaaGreat
namespace Go.Proofs.YtondkinefmjpjaaGreat
open Go.RowKit
theorem rAt_get (l : Rws) (k : Nat) (hk : k < l.length) : rAt l k = l[k] := by
  unfold rAt; rw [List.getD_eq_getElem?_getD, List.getElem?_eq_getElem hk]; rfl
theorem addS_hit (l : Rws) (r : List Int × Int) (k : Nat) (hk : k < l.length) (h1 : (rAt l k).1 = r.1) (h2 : ∀ j, j < k → (rAt l j).1 ≠ r.1) : addS l r = l.set k ((rAt l k).1, wr ((rAt l k).2 + r.2)) := by
  have e : sIx l r.1 = k := by
    unfold sIx
    rw [List.findIdx_eq hk]
    refine ⟨by rw [← rAt_get l k hk]; simpa using h1, fun j hj => ?_⟩
    rw [← rAt_get l j (by omega)]; simpa using h2 j hj
  unfold addS; rw [e, if_pos hk]
theorem addS_miss (l : Rws) (r : List Int × Int) (h2 : ∀ j, j < l.length → (rAt l j).1 ≠ r.1) : addS l r = l ++ [r] := by
  have e : sIx l r.1 = l.length := by
    unfold sIx
    rw [List.findIdx_eq_length]
    intro x hx
    obtain ⟨j, hj, rfl⟩ := List.getElem_of_mem hx
    rw [← rAt_get l j hj]; simpa using h2 j hj
  unfold addS; rw [e, if_neg (by omega)]
def SmallV (l : Rws) : Prop := ∀ j, j < l.length → (rAt l j).1.length * 8 ≤ 140737488355328
theorem addS_small {l : Rws} {r : List Int × Int} (h : SmallV l) (hr : r.1.length * 8 ≤ 140737488355328) : SmallV (addS l r) := by
  intro j hj
  unfold addS at hj ⊢
  split
  · rename_i hs
    rw [if_pos hs, List.length_set] at hj
    rw [rAt_set _ _ _ _ hj]
    split
    · exact h _ hs
    · exact h j hj
  · rename_i hs
    rw [if_neg hs, List.length_append] at hj
    by_cases hl : j < l.length
    · rw [rAt_snoc l r j hl]; exact h j hl
    · have : j = l.length := by simp at hj; omega
      subst this; rw [rAt_last]; exact hr
theorem sumL_small {l m : Rws} (h : SmallV l) (hm : SmallV m) (k : Nat) (hk : k ≤ m.length) : SmallV (sumL l (m.take k)) := by
  induction k with
  | zero => simpa [sumL] using h
  | succ k ih => rw [sumL_take l m k (by omega)]; exact addS_small (ih (by omega)) (hm k (by omega))
theorem sumL_len_take (l m : Rws) (k : Nat) (hk : k ≤ m.length) : (sumL l (m.take k)).length ≤ l.length + k := by
  have := sumL_len l (m.take k)
  rw [List.length_take] at this; omega
structure SumS (B : Nat) (w wr : World) (lv0 lv : Value) (us : List Value) (L : Rws) : Prop where
  row : RNew 103 B wr lv us L
  kp : Kp (fun k => lv0.ownBlock = some k) w wr
  fr : ∀ k, lv.ownBlock = some k → lv0.ownBlock = some k ∨ w.heap.size ≤ k
theorem SumS.below {B : Nat} {w wr wx : World} {lv0 lv : Value} {us : List Value} {L : Rws} (h : SumS B w wr lv0 lv us L) (hb : Below wr.heap.size wr wx) : SumS B w wx lv0 lv us L :=
  ⟨h.row.below hb, h.kp.trans (Kp.of_below hb) (fun _ _ q => q), h.fr⟩
theorem SumS.hit {B : Nat} {w wr : World} {lv0 : Value} {g n cap : Nat} {us : List Value} {L : Rws} (h : SumS B w wr lv0 (.slice (some ⟨g, 0, none⟩) n cap) us L) {r : List Int × Int} {k : Nat} (hk : k < L.length) (h1 : (rAt L k).1 = r.1) (h2 : ∀ j, j < k → (rAt L j).1 ≠ r.1) :
    SumS B w (wr.setCell ⟨g, k * 2 + 1, none⟩ (.int .i64 (Go.Proofs.YtondkinefmjpjaaGreat.wr ((rAt L k).2 + r.2)))) lv0 (.slice (some ⟨g, 0, none⟩) n cap) us (addS L r) := by
  obtain ⟨q1, q2⟩ := h.row.setBy hk (Go.Proofs.YtondkinefmjpjaaGreat.wr ((rAt L k).2 + r.2))
  refine ⟨by rw [addS_hit L r k hk h1 h2]; exact q1, h.kp.trans q2 (fun k hk' e => ?_), h.fr⟩
  rcases h.fr k (by rw [e]; rfl) with q | q
  · exact q
  · omega
theorem SumS.miss {B : Nat} {w wr w1 w6 : World} {lv0 lv v6 : Value} {us : List Value} {L : Rws} {u : Value} {r : List Int × Int} {o : Obj} (h : SumS B w wr lv0 lv us L) (hb : Below wr.heap.size wr w1) (hB : B ≤ wr.heap.size) (hu : w1.ownsRow wr.heap.size 3 1 u r.1.length (i64s r.1)) (h2 : ∀ j, j < L.length → (rAt L j).1 ≠ r.1)
    (hown : w6.ownsRow B 103 2 v6 (L.length + 1) (rcells us L ++ [u, .int .i64 r.2])) (hg : (w1.alloc o).grownBy w6 lv.ownBlock) (hf : ∀ k, v6.ownBlock = some k → lv.ownBlock = some k ∨ k = (w1.alloc o).heap.size) : SumS B w w6 lv0 v6 (us ++ [u]) (addS L r) := by
  have hb1 : Below wr.heap.size wr (w1.alloc o) := hb.alloc hb.size o
  have hr := RNew.snoc (r := r) (u := u) (h.row.below hb1) (by decide) (own_weak (hu.alloc o) hB) hown hg
  have hs := h.kp.size
  refine ⟨by rw [addS_miss L r h2]; exact hr, (h.kp.trans (Kp.of_below hb1) (fun _ _ q => q)).trans (Kp.grown hg (fun k hk => hk)) (fun k hk q => ?_), fun k hk => ?_⟩
  · rcases h.fr k q with e | e
    · exact e
    · omega
  · rcases hf k hk with q | q
    · exact h.fr k q
    · right; have := hb1.size; omega
end Go.Proofs.YtondkinefmjpjaaGreat
namespace Go.Proofs.YtondkinefmjpjaaGreat
open Go.RowKit
set_option maxHeartbeats 4000000 in
set_option maxRecDepth 100000 in
theorem sum_any (B Bm : Nat) (lv mv : Value) (us ms : List Value) (l m : Rws) (w : World) (h : RNew 103 B w lv us l) (hm : RNew 55 Bm w mv ms m) (hB : B ≤ w.heap.size) (hl : SmallV l) (hs : SmallV m) (hn : (l.length + m.length) * 32 ≤ 140737488355328) :
    Calls Tryz.prog 21 #[lv, mv] w fun e w' => ∃ rv us', e = .returned rv ∧ SumS B w w' lv rv us' (sumL l m) := by
  have H0 : SumS B w w lv lv us l := ⟨h, Kp.refl _ _, fun k hk => Or.inl hk⟩
  have HT : Hid (∀ k, lv.ownBlock = some k → ∃ c, w.heap[k]? = some (.cells c 103 (0, 0))) := fun k hk => own_cells h.2.1 hk
  have HM : Hid _ := hm
  have HL : Hid _ := hl
  have HS : Hid _ := hs
  obtain ⟨ma, mcap, hmv⟩ := vown_form hm.2.1
  obtain ⟨la, lcap, hlv⟩ := vown_form h.2.1
  subst hmv hlv
  clear hm hl hs h
  obtain ⟨i0, hi, hz0, hz1, hz2⟩ := info_parts Tryz.info103
  have HI : Hid _ := hi
  have HZ0 : Hid _ := hz0
  have HZ1 : Hid _ := hz1
  have HZ2 : Hid _ := hz2
  clear hi hz0 hz1 hz2
  go_enter Tryz.func21, Tryz.ntmps21
  go_wp2_with fail
  go_loopw [0, 5, 6, 7, 8] (fun xv iv _ _ _ wx => ∃ (i : Nat) (us' : List Value), i ≤ m.length ∧ iv = .int .i64 i ∧ SumS B w wx (.slice la l.length lcap) xv us' (sumL l (m.take i))) (fun _ iv _ _ _ _ => m.length - (intOf iv).toNat)
  case atStart => exact ⟨0, us, Nat.zero_le _, rfl, by simpa [sumL] using H0⟩
  case round =>
    obtain ⟨i, us1, hi, rfl, hS⟩ := hrel
    have HSS : Hid _ := hS
    have hKp : Hid _ := hS.kp
    have hM1 := RNew.kp HM.out hS.kp HT.out (by decide)
    have hLn := sumL_len_take l m i hi
    obtain ⟨L, hL⟩ : ∃ L, sumL l (m.take i) = L := ⟨_, rfl⟩
    have hLs : Hid (SmallV L) := by rw [← hL]; exact sumL_small HL.out HS.out i hi
    have HLE : Hid (sumL l (m.take i) = L) := hL
    rw [hL] at HSS hLn
    have ho := HSS.out.row.2.1
    obtain ⟨xa, xcap, hxv⟩ := vown_form ho
    subst hxv
    have hBx : B ≤ wr.heap.size := Nat.le_trans hB hKp.out.size
    clear hS hL
    by_cases hlt : i < m.length
    · have hMr := hM1.read
      obtain ⟨ma', mcap', hme, hMr⟩ := hMr
      simp only [Value.slice.injEq, true_and] at hme
      obtain ⟨rfl, rfl⟩ := hme
      obtain ⟨gm, om, rfl, qm⟩ := hMr (by omega)
      obtain ⟨⟨um, c1, c2⟩, c3⟩ := qm i hlt
      have lgm : gm < wr.heap.size := World.block_lt_of_cell? _ _ c1
      have bi : (i : Int) < (m.length : Int) := by omega
      have HTK : Hid _ := sumL_take l m i hlt
      have hVs := HS.out i hlt
      obtain ⟨V, X, hVX⟩ : ∃ V X, rAt m i = (V, X) := ⟨_, _, rfl⟩
      rw [hVX] at c2 c3 hVs HTK
      rw [HLE.out] at HTK
      have HC2 : Hid (Reads wr um V) := c2
      obtain ⟨ua, uc, hu, _⟩ := c2
      subst hu
      clear qm hMr hVX
      obtain ⟨wi, hwi⟩ : ∃ wi : World, wi = wr := ⟨_, rfl⟩
      subst hwi
      go_wp2_with fail
      go_loopw [6, 7, 8] (fun dv kv _ wx => ∃ (k : Nat) (d : Bool), k ≤ L.length ∧ kv = .int .i64 k ∧ dv = .bool d ∧ ((d = false ∧ (∀ j, j < k → (rAt L j).1 ≠ V) ∧ Below wi.heap.size wi wx) ∨ (d = true ∧ SumS B w wx (.slice la l.length lcap) (.slice xa L.length xcap) us1 (addS L (V, X))))) (fun _ kv _ _ => L.length - (intOf kv).toNat)
      case atStart => exact ⟨0, false, Nat.zero_le _, rfl, rfl, Or.inl ⟨rfl, fun j hj => absurd hj (by omega), Below.refl _ _⟩⟩
      case round =>
        obtain ⟨k, d, hk, rfl, rfl, hor⟩ := hrel
        rcases hor with ⟨rfl, hno, hb⟩ | ⟨rfl, hD⟩
        · have HNO : Hid (∀ j, j < k → (rAt L j).1 ≠ V) := hno
          clear hno
          by_cases hkl : k < L.length
          · obtain ⟨g, cap', he⟩ := vown_some ho (by omega)
            simp only [Value.slice.injEq, true_and] at he
            obtain ⟨rfl, rfl⟩ := he
            have hSx := HSS.out.below hb
            have HSX : Hid _ := hSx
            have hrx := hSx.row
            have e1 := rcells_at us1 L hrx.1 k hkl
            have d1 : wr.cell? ⟨g, k * 2, none⟩ = some (us1.getD k undef) := by rw [hrx.2.1.cellAt (k * 2) (by omega)]; exact e1.1
            have d2 : wr.cell? ⟨g, k * 2 + 1, none⟩ = some (.int .i64 (rAt L k).2) := by rw [hrx.2.1.cellAt (k * 2 + 1) (by omega)]; exact e1.2
            have f2 : wr.frozen? ⟨g, k * 2 + 1, none⟩ = false := hrx.2.1.frozenAt _
            have hRd := reads_own (hrx.2.2 k hkl) rfl
            obtain ⟨ka, kc, hkv⟩ := vown_form (hrx.2.2 k hkl)
            rw [hkv] at d1 hRd
            have hks := hLs.out k hkl
            have HHIT : Hid _ := fun q1 => SumS.hit (r := (V, X)) hSx hkl q1 HNO.out
            obtain ⟨KV, KX, hKX⟩ : ∃ KV KX, rAt L k = (KV, KX) := ⟨_, _, rfl⟩
            have HKX : Hid (rAt L k = (KV, KX)) := hKX
            rw [hKX] at d1 d2 hRd hks HHIT
            have m1 := (hb.cell (p := ⟨gm, om + i * 2, none⟩) lgm).trans c1
            have m3 := (hb.cell (p := ⟨gm, om + i * 2 + 1, none⟩) lgm).trans c3
            have hCm := HC2.out.below hb
            clear hSx hrx e1 hKX hkv
            have HC : Calls Tryz.prog 35 #[.slice ka KV.length kc, .slice ua V.length uc] wr.drew fun e w' => ∃ v, e = .returned v ∧ v = .bool (decide (KV = V)) ∧ Below wr.heap.size wr w' := by
              refine (same_any _ _ KV V wr.drew hRd hCm (by simp only at hks; omega)).mono ?_
              rintro e w' ⟨rfl, hb'⟩
              exact ⟨_, rfl, rfl, ⟨hb'.os, hb'.tape, hb'.output, hb'.size, hb'.block⟩⟩
            clear hRd hCm
            have bk : (k : Int) < (L.length : Int) := by omega
            by_cases hVV : KV = V
            · subst hVV
              have hCt : decide (KV = KV) = true := decide_eq_true rfl
              rw [hCt] at HC
              have HCC : Hid _ := HC
              have HWR : Hid (Go.Proofs.YtondkinefmjpjaaGreat.wr (KX + X) = wrap64 (KX + X)) := by unfold Hid; rw [wr_eq (KX + X), wrap64]
              clear HC
              go_wp2_with fail
              go_region_law (refine step_call rfl 35 #[.tmp 29, .tmp 34] #[28, 28] rfl enter35 #[.slice ka KV.length kc, .slice ua KV.length uc] (by kernel_rfl) _ HCC.out ?_; rintro v1 w1 ⟨rfl, b1⟩)
              all_goals have lgg := World.block_lt_of_cell? _ _ d2
              all_goals have e2 := (b1.cell (p := ⟨g, k * 2 + 1, none⟩) lgg).trans d2
              all_goals have e3 := (b1.cell (p := ⟨gm, om + i * 2 + 1, none⟩) (World.block_lt_of_cell? _ _ m3)).trans m3
              all_goals have HF := SumS.hit (r := (KV, X)) (HSX.out.below b1) hkl (by rw [HKX.out]) HNO.out
              all_goals rw [HKX.out] at HF
              all_goals have e4 : w1.frozen? ⟨g, k * 2 + 1, none⟩ = false := (HSX.out.below b1).row.2.1.frozenAt _
              all_goals go_wp2_with fail
              all_goals go_region
              all_goals go_wp2_with fail
              all_goals go_roundw
              all_goals first
                | (simp [intOf]; omega)
                | exact ⟨k + 1, true, by omega, by go_num, rfl, Or.inr ⟨rfl, by rw [← HWR.out]; exact HF.below ⟨rfl, rfl, rfl, Nat.le_refl _, fun _ _ => rfl⟩⟩⟩
            · have hCf : decide (KV = V) = false := decide_eq_false hVV
              rw [hCf] at HC
              have HNX : Hid (∀ j, j < k + 1 → (rAt L j).1 ≠ V) := fun j hj => by
                by_cases e : j < k
                · exact HNO.out j e
                · have : j = k := by omega
                  subst this; rw [HKX.out]; exact hVV
              go_wp2_with fail
              go_region_law (refine step_call rfl 35 #[.tmp 29, .tmp 34] #[28, 28] rfl enter35 #[.slice ka KV.length kc, .slice ua V.length uc] (by kernel_rfl) _ HC ?_; rintro v1 w1 ⟨rfl, b1⟩)
              all_goals go_wp2_with fail
              all_goals go_roundw
              all_goals first
                | (simp [intOf]; omega)
                | exact ⟨k + 1, false, by omega, by go_num, rfl, Or.inl ⟨rfl, HNX.out, hb.trans (b1.mono hb.size)⟩⟩
          · have hke : k = L.length := by omega
            subst hke
            have hSx := HSS.out.below hb
            have HSX : Hid _ := hSx
            have hox := hSx.row.2.1
            have m1 := (hb.cell (p := ⟨gm, om + i * 2, none⟩) lgm).trans c1
            have m3 := (hb.cell (p := ⟨gm, om + i * 2 + 1, none⟩) lgm).trans c3
            have hBy : B ≤ wr.heap.size := Nat.le_trans hBx hb.size
            have HC := copied_step _ V wr ⟨gm, om + i * 2 + 1, none⟩ _ (HC2.out.below hb) hVs m3
            have lgx := World.block_lt_of_cell? _ _ m3
            have HOX : Hid _ := hox
            clear hSx hox
            go_wp2_with fail
            all_goals go_region_law (first | (refine step_call rfl 17 #[.tmp 59] #[28] rfl enter17 #[.slice ua V.length uc] (by kernel_rfl) _ HC ?_; rintro v1 w1 ⟨a1, p1, rfl, o1, b1, d3⟩) | (refine step_append_lies _ rfl (.tmp 54) (.tmp 67) 33 rfl B 103 i0 (.agg #[.slice none 0 0, .int .i64 0]) 2 32 Tryz.underlying33 HI.out HZ0.out HZ1.out HZ2.out rfl (by decide) (.slice xa L.length xcap) _ _ rfl ((vown_below HOX.out b1).alloc _) ⟨w1.heap.size, 0, none⟩ 1 1 [.slice a1 V.length p1, .int .i64 X] rfl rfl (vtwo_new _ _ _ _) (by intro u hu; simp at hu; rcases hu with rfl | rfl <;> rfl) (by decide) (by unfold maxLen; omega) (by omega) (by have := b1.size; simp; omega) _ rfl ?_; intro va6 vc6 w6 hown6 hgrow6 hfr6 _))
            all_goals have FIN := SumS.miss (r := (V, X)) HSX.out b1 hBy o1 HNO.out hown6 hgrow6 (by intro k hk; cases hk; exact hfr6)
            all_goals go_wp2_with fail
            all_goals go_roundw
            all_goals first
              | (simp [intOf]; omega)
              | exact ⟨i + 1, us1 ++ [.slice a1 V.length p1], by omega, by go_num, by rw [HTK.out]; exact FIN⟩
        · have HD : Hid _ := hD
          clear hD
          go_wp2_with fail
          all_goals go_roundw
          all_goals first
            | (simp [intOf]; omega)
            | exact ⟨i + 1, us1, by omega, by go_num, by rw [HTK.out]; exact HD.out⟩
    · have hkl : i = m.length := by omega
      subst hkl
      rw [List.take_length] at HLE
      go_wp2_with fail
      go_ret
      exact ⟨_, us1, rfl, by rw [HLE.out]; exact HSS.out⟩
end Go.Proofs.YtondkinefmjpjaaGreat
namespace Go.Proofs.YtondkinefmjpjaaGreat
open Go.RowKit
def totK (l : Rws) (ys : List Int) : Int := Sg l fun r => if r.1 = ys then r.2 else 0
theorem S_set (l : Rws) (k : Nat) (hk : k < l.length) (v : List Int × Int) (f : List Int × Int → Int) : Sg (l.set k v) f = Sg l f - f (rAt l k) + f v := by
  induction l generalizing k with
  | nil => simp at hk
  | cons r l ih =>
    cases k with
    | zero =>
      rw [show (r :: l).set 0 v = v :: l from rfl, S_cons, S_cons, show rAt (r :: l) 0 = r from rfl]; omega
    | succ k =>
      rw [show (r :: l).set (k + 1) v = r :: l.set k v from rfl, S_cons, S_cons, ih k (by simpa using hk), show rAt (r :: l) (k + 1) = rAt l k from rfl]; omega
theorem sIx_spec (l : Rws) (r : List Int × Int) (h : sIx l r.1 < l.length) : (rAt l (sIx l r.1)).1 = r.1 := by
  have := List.findIdx_getElem (w := h)
  rw [rAt_get l _ h]
  exact of_decide_eq_true this
theorem sIx_none (l : Rws) (r : List Int × Int) (h : ¬ sIx l r.1 < l.length) : ∀ x, x ∈ l → x.1 ≠ r.1 := by
  intro x hx e
  refine h (List.findIdx_lt_length_of_exists ⟨x, hx, by simpa using e⟩)
theorem wr_to {a b : Int} (h : a = b) : wr a = wr b := by rw [h]
theorem addS_tot (l : Rws) (r : List Int × Int) (ys : List Int) : wr (totK (addS l r) ys) = wr (totK l ys + if r.1 = ys then r.2 else 0) := by
  unfold addS totK
  split
  · rename_i h
    have e := sIx_spec l r h
    rw [S_set l _ h]
    obtain ⟨k, hk⟩ : ∃ k, sIx l r.1 = k := ⟨_, rfl⟩
    rw [hk] at e ⊢
    simp only [e]
    split
    · obtain ⟨q, hq⟩ := wr_cases ((rAt l k).2 + r.2)
      rw [hq, show Sg l (fun r => if r.1 = ys then r.2 else 0) - (rAt l k).2 + ((rAt l k).2 + r.2 + 18446744073709551616 * q) = Sg l (fun r => if r.1 = ys then r.2 else 0) + r.2 + 18446744073709551616 * q by omega, wr_shift]
    · exact wr_to (by omega)
  · rw [S_append, S_cons, S_nil]
    exact wr_to (by omega)
theorem wr_tr {a b c : Int} (h : wr a = wr b) : wr (a + c) = wr (b + c) := by rw [← wr_add_l, h, wr_add_l]
theorem sumL_tot (l m : Rws) (ys : List Int) : wr (totK (sumL l m) ys) = wr (totK l ys + totK m ys) := by
  induction m generalizing l with
  | nil => exact wr_to (by rw [show totK [] ys = 0 from rfl]; show totK l ys = _; omega)
  | cons r m ih =>
    show wr (totK (sumL (addS l r) m) ys) = _
    rw [ih, wr_tr (addS_tot l r ys)]
    exact wr_to (by show _ = totK l ys + Sg (r :: m) _; rw [S_cons]; unfold totK; omega)
def Once (l : Rws) : Prop := (l.map fun r => r.1).Nodup ∧ ∀ r, r ∈ l → wr r.2 = r.2
theorem once_nil : Once [] := ⟨List.nodup_nil, fun _ h => by cases h⟩
theorem set_keys (l : Rws) (k : Nat) (hk : k < l.length) (z : Int) : (l.set k ((rAt l k).1, z)).map (fun r => r.1) = l.map fun r => r.1 := by
  induction l generalizing k with
  | nil => simp at hk
  | cons r l ih =>
    cases k with
    | zero => rfl
    | succ k =>
      rw [show rAt (r :: l) (k + 1) = rAt l k from rfl, show (r :: l).set (k + 1) ((rAt l k).1, z) = r :: l.set k ((rAt l k).1, z) from rfl, List.map_cons, List.map_cons, ih k (by simpa using hk)]
theorem addS_once {l : Rws} {r : List Int × Int} (h : Once l) (hr : wr r.2 = r.2) : Once (addS l r) := by
  unfold addS
  split
  · rename_i hs
    refine ⟨by rw [set_keys l _ hs]; exact h.1, fun x hx => ?_⟩
    rcases List.mem_or_eq_of_mem_set hx with hx | rfl
    · exact h.2 x hx
    · exact wr_self _
  · rename_i hs
    refine ⟨?_, fun x hx => ?_⟩
    · rw [List.map_append, List.nodup_append]
      refine ⟨h.1, List.nodup_cons.2 ⟨by simp, List.nodup_nil⟩, fun a ha b hb e => ?_⟩
      simp only [List.map_cons, List.map_nil, List.mem_singleton] at hb
      obtain ⟨x, hx, rfl⟩ := List.mem_map.1 ha
      exact sIx_none l r hs x hx (by rw [e, hb])
    · rcases List.mem_append.1 hx with hx | hx
      · exact h.2 x hx
      · rw [List.mem_singleton] at hx; subst hx; exact hr
theorem sumL_once {l m : Rws} (h : Once l) (hm : ∀ r, r ∈ m → wr r.2 = r.2) : Once (sumL l m) := by
  induction m generalizing l with
  | nil => exact h
  | cons r m ih => exact ih (addS_once h (hm r (by simp))) (fun x hx => hm x (by simp [hx]))
theorem once_tot {l : Rws} (h : (l.map fun r => r.1).Nodup) {r : List Int × Int} (hr : r ∈ l) : totK l r.1 = r.2 := by
  induction l with
  | nil => simp at hr
  | cons x l ih =>
    rw [List.map_cons, List.nodup_cons] at h
    unfold totK
    rw [S_cons]
    rcases List.mem_cons.1 hr with rfl | hm
    · have : Sg l (fun x => if x.1 = r.1 then x.2 else 0) = 0 := S_zero fun y hy => by
        rw [if_neg]
        intro e
        exact h.1 (List.mem_map.2 ⟨y, hy, e⟩)
      rw [this, if_pos rfl]; omega
    · have : x.1 ≠ r.1 := fun e => h.1 (List.mem_map.2 ⟨r, hm, e.symm⟩)
      rw [if_neg this]
      have := ih h.2 hm
      unfold totK at this
      rw [this]; omega
theorem sum_nothing {l m : Rws} (h : Once l) (hm : ∀ r, r ∈ m → wr r.2 = r.2) (h0 : ∀ ys, wr (totK l ys + totK m ys) = 0) : ((sumL l m).all fun r => r.2 == 0) = true := by
  have ho := sumL_once h hm
  rw [List.all_eq_true]
  intro r hr
  have e := once_tot ho.1 hr
  have := sumL_tot l m r.1
  rw [h0, e, ho.2 r hr] at this
  simpa using this
theorem sum_two {l m : Rws} (hl : ∀ r, r ∈ l → wr r.2 = r.2) (hm : ∀ r, r ∈ m → wr r.2 = r.2) (h0 : ∀ ys, wr (totK l ys + totK m ys) = 0) : ((sumL (sumL [] l) m).all fun r => r.2 == 0) = true := by
  refine sum_nothing (sumL_once once_nil hl) hm (fun ys => ?_)
  have := sumL_tot [] l ys
  rw [show totK [] ys = 0 from rfl, Int.zero_add] at this
  rw [wr_tr this]; exact h0 ys
theorem wr_S {α : Type} {l : List α} {f g : α → Int} (h : ∀ x, x ∈ l → wr (f x) = wr (g x)) : wr (Sg l f) = wr (Sg l g) := by
  induction l with
  | nil => rfl
  | cons x l ih => rw [S_cons, S_cons, ← wr_add, h x (by simp), ih (fun y hy => h y (by simp [hy])), wr_add]
def totF (v : List Int → List Int) (f : List Int → Int) (ys : List Int) : Int := Sg (boxN 6) fun a => if v a = ys then f a else 0
theorem rows_tot {v : List Int → List Int} {f : List Int → Int} {l : Rws} (h : l.Perm (rowsL v f (live 6 f))) (ys : List Int) : wr (totK l ys) = wr (totF v f ys) := by
  unfold totK totF
  rw [S_perm h]
  unfold rowsL live
  rw [S_map, S_filter]
  refine wr_S fun a _ => ?_
  by_cases e : v a = ys
  · rw [if_pos e, if_pos e]
    by_cases z : wr (f a) = 0
    · rw [if_neg (by simp [z]), z]; rfl
    · rw [if_pos (by simpa using z), wr_self]
  · rw [if_neg e, if_neg e]
    split <;> rfl
theorem rows_wr {v : List Int → List Int} {f : List Int → Int} {l : Rws} (h : l.Perm (rowsL v f (live 6 f))) : ∀ r, r ∈ l → wr r.2 = r.2 := by
  intro r hr
  have := h.mem_iff.1 hr
  unfold rowsL at this
  obtain ⟨a, _, rfl⟩ := List.mem_map.1 this
  exact wr_self _
theorem neg_tot (l : Rws) (ys : List Int) : wr (totK (l.map negR) ys) = wr (-(totK l ys)) := by
  unfold totK
  rw [S_map]
  have : -(Sg l fun r => if r.1 = ys then r.2 else 0) = Sg l fun r => (-1) * (if r.1 = ys then r.2 else 0) := by rw [S_mul]; omega
  rw [this]
  refine wr_S fun r _ => ?_
  unfold negR
  by_cases e : r.1 = ys
  · rw [if_pos e, if_pos e]
    show wr (wr (-r.2)) = _
    rw [wr_self]; exact wr_to (by omega)
  · rw [if_neg e, if_neg e]; rfl
theorem neg_wr (l : Rws) : ∀ r, r ∈ l.map negR → wr r.2 = r.2 := by
  intro r hr
  obtain ⟨x, _, rfl⟩ := List.mem_map.1 hr
  exact wr_self (-x.2)
theorem totF_add (v : List Int → List Int) (f g : List Int → Int) (ys : List Int) : totF v f ys + totF v g ys = totF v (fun a => f a + g a) ys := by
  unfold totF
  rw [← S_add]
  refine S_congr fun a _ => ?_
  split
  · rfl
  · rfl
end Go.Proofs.YtondkinefmjpjaaGreat
namespace Go.Proofs.YtondkinefmjpjaaGreat
open Go.RowKit Go.WideMaps Go.WideElems Go.Maps Go.Shelf
def Fit (N : Nat) (l : Rws) : Prop := l.length ≤ N ∧ SmallV l
theorem rows_fit {l : Rws} {head : List Nat} {f : List Int → Int} (hp : l.Perm (rowsL (hvals head) f (live 6 f))) (hh : head.length ≤ 6) {N : Nat} (hf : (live 6 f).length ≤ N) : Fit N l := by
  refine ⟨?_, fun j hj => ?_⟩
  · have h1 := hp.length_eq
    rw [rowsL, List.length_map] at h1
    omega
  · rw [rows_len hp j hj]; omega
theorem fit_neg {N : Nat} {l : Rws} (h : Fit N l) : Fit N (l.map negR) := by
  refine ⟨by rw [List.length_map]; exact h.1, fun j hj => ?_⟩
  rw [List.length_map] at hj
  have : (rAt (l.map negR) j).1 = (rAt l j).1 := by
    rw [rAt_get _ _ (by rw [List.length_map]; exact hj), rAt_get _ _ hj, List.getElem_map]; rfl
  rw [this]; exact h.2 j hj
theorem fit_sum {N M : Nat} {l m : Rws} (h : Fit N l) (hm : Fit M m) : Fit (N + M) (sumL l m) := by
  refine ⟨by have := sumL_len l m; have := h.1; have := hm.1; omega, ?_⟩
  have := sumL_small h.2 hm.2 m.length (Nat.le_refl _)
  rw [List.take_length] at this
  exact this
theorem fit_nil : Fit 0 [] := ⟨Nat.le_refl _, fun j hj => absurd hj (by simp)⟩
theorem sum_nil (Bm : Nat) (mv : Value) (ms : List Value) (m : Rws) (u : World) (hm : RNew 55 Bm u mv ms m) (hf : Fit 1000000 m) :
    Calls Tryz.prog 21 #[.slice none 0 0, mv] u fun e w' => ∃ rv us', e = .returned rv ∧ RNew 103 u.heap.size w' rv us' (sumL [] m) ∧ Below u.heap.size u w' := by
  refine (sum_any u.heap.size Bm (.slice none 0 0) mv [] ms [] m u ⟨rfl, World.ownsRow_nil _ _ _ _, fun j hj => absurd hj (by simp)⟩ hm (Nat.le_refl _) fit_nil.2 hf.2 (by have := hf.1; simp only [List.length_nil]; omega)).mono ?_
  rintro e w' ⟨rv, us', rfl, hS⟩
  exact ⟨rv, us', rfl, hS.row, hS.kp.below (fun k hk => by cases hk) (Nat.le_refl _)⟩
theorem RNew.fr {e B : Nat} {M : Nat → Prop} {w w' : World} {v : Value} {us : List Value} {l : Rws} (h : RNew e B w v us l) (hf : Fr M w w') (hm : Mps w M) : RNew e B w' v us l :=
  ⟨h.1, hf.own hm h.2.1, fun j hj => hf.own hm (h.2.2 j hj)⟩
end Go.Proofs.YtondkinefmjpjaaGreat
