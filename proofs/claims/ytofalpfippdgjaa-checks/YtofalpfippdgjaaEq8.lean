/-
  Going round: the list that shrinks against the flags.
-/
import Derived.Test.YtofalpfippdgjaaEq7
namespace Go.Proofs.Ytofalpfippdgjaa
open Go.RowKit

/-- Those that are left, in order. -/
def idxs (N : Nat) (left : List Bool) : List Nat := (List.range N).filter fun i => left.getD i false
theorem idxs_nodup (N : Nat) (left : List Bool) : (idxs N left).Nodup := List.Nodup.sublist List.filter_sublist List.nodup_range
theorem idxs_mem {N : Nat} {left : List Bool} {i : Nat} : i ∈ idxs N left ↔ i < N ∧ left.getD i false = true := by
  unfold idxs; rw [List.mem_filter, List.mem_range]
theorem eraseIdx_nodup {l : List Nat} (h : l.Nodup) (q : Nat) (hq : q < l.length) : l.eraseIdx q = l.filter (fun x => x != l[q]) := by
  induction l generalizing q with
  | nil => simp at hq
  | cons x l ih =>
    obtain ⟨h1, h2⟩ := List.nodup_cons.1 h
    cases q with
    | zero =>
      simp only [List.eraseIdx_cons_zero, List.getElem_cons_zero, List.filter_cons, bne_self_eq_false, Bool.false_eq_true, if_false]
      refine (List.filter_eq_self.2 fun y hy => ?_).symm
      exact bne_iff_ne.2 fun e => h1 (e ▸ hy)
    | succ q =>
      have hq' : q < l.length := by simpa using hq
      simp only [List.eraseIdx_cons_succ, List.getElem_cons_succ, List.filter_cons]
      have hne : x ≠ l[q] := fun e => h1 (by rw [e]; exact List.getElem_mem hq')
      rw [if_pos (bne_iff_ne.2 hne), ih h2 q hq']
theorem idxs_set (N : Nat) (left : List Bool) (hl : left.length = N) (q : Nat) (hq : q < (idxs N left).length) :
    (idxs N left).eraseIdx q = idxs N (left.set (idxs N left)[q] false) := by
  rw [eraseIdx_nodup (idxs_nodup N left) q hq]
  generalize (idxs N left)[q] = g
  unfold idxs
  rw [List.filter_filter]
  apply List.filter_congr
  intro i hi
  have hi := List.mem_range.1 hi
  by_cases e : g = i
  · subst e; simp [List.getD, List.getElem?_set_self (show g < left.length by omega)]
  · have : i ≠ g := fun x => e x.symm
    simp [List.getD, List.getElem?_set_ne e, this]
theorem find_congr {l : List Nat} {f g : Nat → Bool} (h : ∀ q ∈ l, f q = g q) : l.find? f = l.find? g := by
  induction l with
  | nil => rfl
  | cons x l ih => rw [List.find?_cons, List.find?_cons, h x (by simp), ih fun q hq => h q (by simp [hq])]
theorem erase_map (l : List Nat) (S : Nat → Int) (q : Nat) : (l.map S).eraseIdx q = (l.eraseIdx q).map S := by
  induction l generalizing q with
  | nil => rfl
  | cons x l ih =>
    cases q with
    | zero => rfl
    | succ q => simp only [List.map_cons, List.eraseIdx_cons_succ, ih]
theorem find_pos (l : List Nat) (g : Nat → Bool) : l.find? g = ((List.range l.length).find? (fun q => g (l.getD q 0))).map (fun q => l.getD q 0) := by
  have h : l = (List.range l.length).map (fun q => l.getD q 0) := List.ext_getElem (by simp) fun i h1 h2 => by simp [List.getD, h1]
  conv => lhs; rw [h]
  rw [List.find?_map]; rfl

theorem allK_SR (sets : List Int) (F : Nat → Nat → Bool) (i k : Nat) (h : ∀ j, j < k → SR (sets.getD j 0) (F j)) : SR (allK sets i k) (fun v => (List.range k).any fun j => !(j == i) && F j v) := by
  induction k with
  | zero => exact SR.zero
  | succ k ih =>
    have hk := ih fun j hj => h j (by omega)
    unfold allK at hk ⊢
    rw [List.range_succ, List.foldl_append]
    simp only [List.foldl_cons, List.foldl_nil]
    by_cases e : k = i
    · rw [if_pos e]
      refine hk.congr fun v _ => ?_
      rw [List.any_append]; simp [e]
    · rw [if_neg e]
      refine (hk.or (h k (by omega))).congr fun v _ => ?_
      have e' : (k == i) = false := beq_eq_false_iff_ne.2 e
      rw [List.any_append]; simp [e']

theorem goB_iff (sets : List Int) (F : Nat → Nat → Bool) (i : Nat) (hi : i < sets.length) (h : ∀ j, j < sets.length → SR (sets.getD j 0) (F j)) :
    goB sets i = true ↔ ∃ k, k < sets.length ∧ k ≠ i ∧ ∀ v, v < 8 → F i v = true → (∃ j, j < sets.length ∧ j ≠ i ∧ F j v = true) → F k v = true := by
  unfold goB
  rw [List.any_eq_true]
  constructor
  · rintro ⟨k, hk, hj⟩
    have hk := List.mem_range.1 hk
    unfold inJ shrd at hj
    rw [Bool.and_eq_true, (((h i hi).and (allK_SR sets F i sets.length h)).andNot (h k hk)).isZero, List.all_eq_true] at hj
    refine ⟨k, hk, by simpa using hj.1, fun v hv h1 ⟨j, hj1, hj2, hj3⟩ => ?_⟩
    have := hj.2 v (List.mem_range.2 hv)
    have ha : ((List.range sets.length).any fun j => !(j == i) && F j v) = true := List.any_eq_true.2 ⟨j, List.mem_range.2 hj1, by simp [hj2, hj3]⟩
    simp only [h1, ha] at this
    simpa using this
  · rintro ⟨k, hk, hki, hv⟩
    refine ⟨k, List.mem_range.2 hk, ?_⟩
    unfold inJ shrd
    rw [Bool.and_eq_true, (((h i hi).and (allK_SR sets F i sets.length h)).andNot (h k hk)).isZero, List.all_eq_true]
    refine ⟨by simpa using hki, fun v hv8 => ?_⟩
    have hv8 := List.mem_range.1 hv8
    cases h1 : F i v
    · rfl
    · cases ha : ((List.range sets.length).any fun j => !(j == i) && F j v)
      · rfl
      · obtain ⟨j, hj, hp⟩ := List.any_eq_true.1 ha
        have hp : j ≠ i ∧ F j v = true := by simpa using hp
        rw [hv v hv8 h1 ⟨j, List.mem_range.1 hj, hp.1, hp.2⟩]; rfl

/-- May the atom go, as the document says it. -/
def goP (nv : Nat) (left : List Bool) (pl : List PA) (i : Nat) : Bool := (List.range pl.length).any fun k => left.getD k false && !(i == k) && earP nv left pl i k
theorem goP_iff (nv : Nat) (left : List Bool) (pl : List PA) (i : Nat) :
    goP nv left pl i = true ↔ ∃ k, k ∈ idxs pl.length left ∧ k ≠ i ∧ ∀ j, j ∈ idxs pl.length left → j ≠ i → ∀ v, v < nv → hasP pl i v = true → hasP pl j v = true → hasP pl k v = true := by
  unfold goP earP
  rw [List.any_eq_true]
  constructor
  · rintro ⟨k, hk, h⟩
    simp only [Bool.and_eq_true, List.all_eq_true] at h
    obtain ⟨⟨h1, h2⟩, h3⟩ := h
    refine ⟨k, idxs_mem.2 ⟨List.mem_range.1 hk, h1⟩, fun e => by simp [e] at h2, fun j hj hne v hv a b => ?_⟩
    obtain ⟨j1, j2⟩ := idxs_mem.1 hj
    have := h3 j (List.mem_range.2 j1)
    rw [j2, beq_eq_false_iff_ne.2 hne] at this
    simp only [Bool.not_true, Bool.false_or, List.all_eq_true] at this
    have := this v (List.mem_range.2 hv)
    rw [a, b] at this
    simpa using this
  · rintro ⟨k, hk, hne, h⟩
    obtain ⟨k1, k2⟩ := idxs_mem.1 hk
    refine ⟨k, List.mem_range.2 k1, ?_⟩
    simp only [Bool.and_eq_true, List.all_eq_true]
    refine ⟨⟨k2, by have : ¬ i = k := fun e => hne e.symm; simp [this]⟩, fun j hj => ?_⟩
    cases hl : left.getD j false
    · rfl
    · by_cases e : j = i
      · simp [e]
      · rw [beq_eq_false_iff_ne.2 e]
        simp only [Bool.not_true, Bool.false_or, List.all_eq_true]
        intro v hv
        cases a : hasP pl i v
        · rfl
        · cases b : hasP pl j v
          · rfl
          · rw [h j (idxs_mem.2 ⟨List.mem_range.1 hj, hl⟩) e v (List.mem_range.1 hv) a b]; rfl

/-- The one may go where the other may. -/
theorem go_same (nv : Nat) (left : List Bool) (pl : List PA) (S : Nat → Int) (hnv : nv ≤ 8) (hS : ∀ i, i < pl.length → SR (S i) (hasP pl i)) (hb : ∀ i, i < pl.length → ∀ v, nv ≤ v → hasP pl i v = false) (q : Nat) (hq : q < (idxs pl.length left).length) :
    goB ((idxs pl.length left).map S) q = goP nv left pl ((idxs pl.length left).getD q 0) := by
  have nd := idxs_nodup pl.length left
  have hm : ∀ j, j ∈ idxs pl.length left → j < pl.length := fun j hj => (idxs_mem.1 hj).1
  have hlen : ((idxs pl.length left).map S).length = (idxs pl.length left).length := by simp
  have hG : ∀ j (hj : j < (idxs pl.length left).length), (idxs pl.length left).getD j 0 = (idxs pl.length left)[j] := fun j hj => by simp [List.getD, hj]
  have hSR : ∀ j, j < ((idxs pl.length left).map S).length → SR (((idxs pl.length left).map S).getD j 0) (fun v => hasP pl ((idxs pl.length left).getD j 0) v) := fun j hj => by
    rw [hlen] at hj
    rw [hG j hj, show ((idxs pl.length left).map S).getD j 0 = S (idxs pl.length left)[j] by simp [List.getD, hj]]
    exact hS _ (hm _ (List.getElem_mem hj))
  rw [Bool.eq_iff_iff, goB_iff _ _ q (by rw [hlen]; exact hq) hSR, goP_iff, hlen]
  have inj : ∀ j (hj : j < (idxs pl.length left).length), j ≠ q → (idxs pl.length left)[j] ≠ (idxs pl.length left).getD q 0 := fun j hj hne e => by
    rw [hG q hq] at e
    exact hne ((List.getElem_inj nd).1 e)
  constructor
  · rintro ⟨k, hk, hkq, h⟩
    refine ⟨_, List.getElem_mem hk, inj k hk hkq, fun j hj hne v hv a b => ?_⟩
    obtain ⟨x, hx, rfl⟩ := List.getElem_of_mem hj
    have := h v (by omega) a ⟨x, hx, fun e => hne (by rw [hG q hq]; simp [e]), by rw [hG x hx]; exact b⟩
    rw [hG k hk] at this; exact this
  · rintro ⟨k, hk, hne, h⟩
    obtain ⟨x, hx, rfl⟩ := List.getElem_of_mem hk
    refine ⟨x, hx, fun e => hne (by rw [hG q hq]; simp [e]), fun v hv a ⟨j, hj, hjq, b⟩ => ?_⟩
    rw [hG j hj] at b
    have hvn : v < nv := by
      apply Nat.lt_of_not_le
      intro hle
      rw [hb _ (hm _ (List.getElem_mem hj)) v hle] at b; cases b
    rw [hG x hx]
    exact h _ (List.getElem_mem hj) (inj j hj hjq) v hvn a b

theorem cyc_core (nv : Nat) (pl : List PA) (S : Nat → Int) (hnv : nv ≤ 8) (hS : ∀ i, i < pl.length → SR (S i) (hasP pl i)) (hb : ∀ i, i < pl.length → ∀ v, nv ≤ v → hasP pl i v = false) (n : Nat) (left : List Bool) (hl : left.length = pl.length) :
    mt n ((idxs pl.length left).map S) = !cycP nv pl n left := by
  induction n generalizing left with
  | zero => rfl
  | succ n ih =>
    have hf : (List.range pl.length).find? (fun i => (List.range pl.length).any fun k => left.getD i false && left.getD k false && !(i == k) && earP nv left pl i k) = (idxs pl.length left).find? (goP nv left pl) := by
      unfold idxs
      rw [List.find?_filter]
      congr 1
      funext i
      unfold goP
      rw [Bool.eq_iff_iff]
      simp only [List.any_eq_true, Bool.and_eq_true, decide_eq_true_eq]
      constructor
      · rintro ⟨k, hk, ⟨⟨h1, h2⟩, h3⟩, h4⟩; exact ⟨h1, k, hk, ⟨h2, h3⟩, h4⟩
      · rintro ⟨h1, k, hk, ⟨h2, h3⟩, h4⟩; exact ⟨k, hk, ⟨⟨h1, h2⟩, h3⟩, h4⟩
    have hg : fgo ((idxs pl.length left).map S) = match (List.range (idxs pl.length left).length).find? (fun q => goP nv left pl ((idxs pl.length left).getD q 0)) with | some i => (i : Int) | none => -1 := by
      unfold fgo
      rw [List.length_map]
      have : (List.range (idxs pl.length left).length).find? (fun i => goB ((idxs pl.length left).map S) i) = (List.range (idxs pl.length left).length).find? (fun q => goP nv left pl ((idxs pl.length left).getD q 0)) := by
        apply find_congr
        intro q hq
        exact go_same nv left pl S hnv hS hb q (List.mem_range.1 hq)
      rw [this]
      generalize (List.range (idxs pl.length left).length).find? (fun q => goP nv left pl ((idxs pl.length left).getD q 0)) = o
      cases o <;> rfl
    unfold mt cycP
    rw [hf, find_pos, hg]
    cases hx : (List.range (idxs pl.length left).length).find? (fun q => goP nv left pl ((idxs pl.length left).getD q 0)) with
    | none => simp
    | some q =>
      have hq := List.mem_range.1 (List.mem_of_find?_eq_some hx)
      simp only [Option.map_some, Int.toNat_natCast]
      rw [if_neg (by omega), erase_map, idxs_set pl.length left hl q hq, ih _ (by simp [hl])]
      simp [List.getD, hq]

end Go.Proofs.Ytofalpfippdgjaa
