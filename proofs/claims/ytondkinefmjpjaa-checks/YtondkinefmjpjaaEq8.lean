/-
  Going round: the list that shrinks against the flags.
-/
import Derived.Test.YtondkinefmjpjaaEq7
namespace Go.Proofs.Ytondkinefmjpjaa
open Go.RowKit

/-- Those that are left, in order. -/
def idxs (N : Nat) (left : List Bool) : List Nat := (List.range N).filter fun i => left.getD i false
theorem idxs_mem {N : Nat} {left : List Bool} {i : Nat} : i ∈ idxs N left ↔ i < N ∧ left.getD i false = true := by
  unfold idxs; rw [List.mem_filter, List.mem_range]
theorem idxs_set (N : Nat) (left : List Bool) (hl : left.length = N) (g : Nat) :
    (idxs N left).filter (· != g) = idxs N (left.set g false) := by
  unfold idxs
  rw [List.filter_filter]
  apply List.filter_congr
  intro i hi
  have hi := List.mem_range.1 hi
  by_cases e : g = i
  · subst e; simp [List.getD, List.getElem?_set_self (show g < left.length by omega)]
  · have : i ≠ g := fun x => e x.symm
    simp [List.getD, List.getElem?_set_ne e, this]
theorem find_congr {l : List Nat} {f g : Nat → Bool} (h : ∀ q ∈ l, f q = g q) : l.find? f = l.find? g := by
  induction l with
  | nil => rfl
  | cons x l ih => rw [List.find?_cons, List.find?_cons, h x (by simp), ih fun q hq => h q (by simp [hq])]

theorem orK_SR' (sets : List Int) (F : Nat → Nat → Bool) (i : Nat) (l : List Nat) (h : ∀ j, j ∈ l → SR (sets.getD j 0) (F j)) (acc : Int) (f : Nat → Bool) (ha : SR acc f) :
    SR (l.foldl (fun acc j => if j = i then acc else bits BinOp.or IntKind.u8 acc (sets.getD j 0)) acc) (fun v => f v || l.any fun j => !(j == i) && F j v) := by
  induction l generalizing acc f with
  | nil => exact ha.congr fun v _ => by simp
  | cons x l ih =>
    rw [List.foldl_cons]
    by_cases e : x = i
    · rw [if_pos e]
      refine (ih (fun j hj => h j (by simp [hj])) acc f ha).congr fun v _ => ?_
      simp [e]
    · rw [if_neg e]
      refine (ih (fun j hj => h j (by simp [hj])) _ _ (ha.or (h x (by simp)))).congr fun v _ => ?_
      have e' : (x == i) = false := beq_eq_false_iff_ne.2 e
      simp [e', Bool.or_assoc]
theorem orK_SR (sets : List Int) (F : Nat → Nat → Bool) (i : Nat) (l : List Nat) (h : ∀ j, j ∈ l → SR (sets.getD j 0) (F j)) : SR (orK sets i l) (fun v => l.any fun j => !(j == i) && F j v) :=
  (orK_SR' sets F i l h 0 (fun _ => false) SR.zero).congr fun v _ => by simp

theorem gnB_iff (sets : List Int) (F : Nat → Nat → Bool) (left : List Nat) (i : Nat) (hi : i ∈ left) (h : ∀ j, j ∈ left → SR (sets.getD j 0) (F j)) :
    gnB sets left i = true ↔ ∃ k, k ∈ left ∧ k ≠ i ∧ ∀ v, v < 8 → F i v = true → (∃ j, j ∈ left ∧ j ≠ i ∧ F j v = true) → F k v = true := by
  unfold gnB
  rw [List.any_eq_true]
  constructor
  · rintro ⟨k, hk, hj⟩
    unfold prB shV at hj
    rw [Bool.and_eq_true, (((h i hi).and (orK_SR sets F i left h)).andNot (h k hk)).isZero, List.all_eq_true] at hj
    refine ⟨k, hk, by simpa using hj.1, fun v hv h1 ⟨j, hj1, hj2, hj3⟩ => ?_⟩
    have := hj.2 v (List.mem_range.2 hv)
    have ha : (left.any fun j => !(j == i) && F j v) = true := List.any_eq_true.2 ⟨j, hj1, by simp [hj2, hj3]⟩
    simp only [h1, ha] at this
    simpa using this
  · rintro ⟨k, hk, hki, hv⟩
    refine ⟨k, hk, ?_⟩
    unfold prB shV
    rw [Bool.and_eq_true, (((h i hi).and (orK_SR sets F i left h)).andNot (h k hk)).isZero, List.all_eq_true]
    refine ⟨by simpa using hki, fun v hv8 => ?_⟩
    have hv8 := List.mem_range.1 hv8
    cases h1 : F i v
    · rfl
    · cases ha : (left.any fun j => !(j == i) && F j v)
      · rfl
      · obtain ⟨j, hj, hp⟩ := List.any_eq_true.1 ha
        have hp : j ≠ i ∧ F j v = true := by simpa using hp
        rw [hv v hv8 h1 ⟨j, hj, hp.1, hp.2⟩]; rfl

/-- May the atom go, as the document says it. -/
def goP (nv : Nat) (left : List Bool) (pl : List PA) (i : Nat) : Bool := (List.range pl.length).any fun k => left.getD k false && !(i == k) && earP nv left pl i k
theorem goP_iff (nv : Nat) (left : List Bool) (pl : List PA) (i : Nat) :
    goP nv left pl i = true ↔ ∃ k, k ∈ idxs pl.length left ∧ k ≠ i ∧ ∀ j, j ∈ idxs pl.length left → j ≠ i → ∀ v, v < nv → hasP pl i v = true → hasP pl j v = true → hasP pl k v = true := by
  unfold goP earP
  rw [List.any_eq_true]
  constructor
  · rintro ⟨k, hk, h⟩
    simp only [Bool.and_eq_true, List.all_eq_true] at h
    obtain ⟨⟨h1, h2⟩, h3⟩ := h
    refine ⟨k, idxs_mem.2 ⟨List.mem_range.1 hk, h1⟩, fun e => by simp [e] at h2, fun j hj hne v hv a b => ?_⟩
    obtain ⟨j1, j2⟩ := idxs_mem.1 hj
    have := h3 j (List.mem_range.2 j1)
    rw [j2, beq_eq_false_iff_ne.2 hne] at this
    simp only [Bool.not_true, Bool.false_or, List.all_eq_true] at this
    have := this v (List.mem_range.2 hv)
    rw [a, b] at this
    simpa using this
  · rintro ⟨k, hk, hne, h⟩
    obtain ⟨k1, k2⟩ := idxs_mem.1 hk
    refine ⟨k, List.mem_range.2 k1, ?_⟩
    simp only [Bool.and_eq_true, List.all_eq_true]
    refine ⟨⟨k2, by have : ¬ i = k := fun e => hne e.symm; simp [this]⟩, fun j hj => ?_⟩
    cases hl : left.getD j false
    · rfl
    · by_cases e : j = i
      · simp [e]
      · rw [beq_eq_false_iff_ne.2 e]
        simp only [Bool.not_true, Bool.false_or, List.all_eq_true]
        intro v hv
        cases a : hasP pl i v
        · rfl
        · cases b : hasP pl j v
          · rfl
          · rw [h j (idxs_mem.2 ⟨List.mem_range.1 hj, hl⟩) e v (List.mem_range.1 hv) a b]; rfl

/-- The one may go where the other may. -/
theorem go_same (nv : Nat) (left : List Bool) (pl : List PA) (sets : List Int) (hnv : nv ≤ 8) (hS : ∀ i, i < pl.length → SR (sets.getD i 0) (hasP pl i)) (hb : ∀ i, i < pl.length → ∀ v, nv ≤ v → hasP pl i v = false) (i : Nat) (hi : i ∈ idxs pl.length left) :
    gnB sets (idxs pl.length left) i = goP nv left pl i := by
  have hm : ∀ j, j ∈ idxs pl.length left → j < pl.length := fun j hj => (idxs_mem.1 hj).1
  rw [Bool.eq_iff_iff, gnB_iff sets (hasP pl) _ i hi (fun j hj => hS j (hm j hj)), goP_iff]
  constructor
  · rintro ⟨k, hk, hki, h⟩
    exact ⟨k, hk, hki, fun j hj hne v hv a b => h v (by omega) a ⟨j, hj, hne, b⟩⟩
  · rintro ⟨k, hk, hki, h⟩
    refine ⟨k, hk, hki, fun v hv a ⟨j, hj, hne, b⟩ => ?_⟩
    have hvn : v < nv := by
      apply Nat.lt_of_not_le
      intro hle
      rw [hb j (hm j hj) v hle] at b; cases b
    exact h j hj hne v hvn a b

theorem cyc_core (nv : Nat) (pl : List PA) (sets : List Int) (hnv : nv ≤ 8) (hS : ∀ i, i < pl.length → SR (sets.getD i 0) (hasP pl i)) (hb : ∀ i, i < pl.length → ∀ v, nv ≤ v → hasP pl i v = false) (n : Nat) (left : List Bool) (hl : left.length = pl.length) :
    mtI n sets (idxs pl.length left) = !cycP nv pl n left := by
  induction n generalizing left with
  | zero => rfl
  | succ n ih =>
    have hf : (List.range pl.length).find? (fun i => (List.range pl.length).any fun k => left.getD i false && left.getD k false && !(i == k) && earP nv left pl i k) = (idxs pl.length left).find? (goP nv left pl) := by
      unfold idxs
      rw [List.find?_filter]
      congr 1
      funext i
      unfold goP
      rw [Bool.eq_iff_iff]
      simp only [List.any_eq_true, Bool.and_eq_true, decide_eq_true_eq]
      constructor
      · rintro ⟨k, hk, ⟨⟨h1, h2⟩, h3⟩, h4⟩; exact ⟨h1, k, hk, ⟨h2, h3⟩, h4⟩
      · rintro ⟨h1, k, hk, ⟨h2, h3⟩, h4⟩; exact ⟨k, hk, ⟨⟨h1, h2⟩, h3⟩, h4⟩
    have hg : gon sets (idxs pl.length left) = (idxs pl.length left).find? (goP nv left pl) := by
      unfold gon
      exact find_congr fun i hi => go_same nv left pl sets hnv hS hb i hi
    unfold mtI cycP
    rw [hf, hg]
    cases hx : (idxs pl.length left).find? (goP nv left pl) with
    | none => rfl
    | some g =>
      simp only
      rw [idxs_set pl.length left hl g, ih _ (by simp [hl])]

end Go.Proofs.Ytondkinefmjpjaa
