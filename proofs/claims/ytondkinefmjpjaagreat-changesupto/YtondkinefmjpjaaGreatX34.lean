import Derived.Laws.CopyOwn
import Derived.Test.YtondkinefmjpjaaGreatX26
import Derived.Test.YtondkinefmjpjaaGreatX30
import Derived.Test.YtondkinefmjpjaaGreatX31
import Derived.Test.YtondkinefmjpjaaGreatX33
namespace Go.Proofs.YtondkinefmjpjaaGreat
open Go.RowKit Go.WideMaps Go.WideElems Go.Maps
def begL (ys xs : List Int) : Bool := decide (ys.take xs.length = xs)
end Go.Proofs.YtondkinefmjpjaaGreat
namespace Go.Proofs.YtondkinefmjpjaaGreat
open Go.RowKit Go.WideMaps Go.WideElems Go.Maps Go.Shelf Go.MuLone
theorem Reads.lock {w : World} {vb : Nat} {v : Value} {xs : List Int} (h : Reads w v xs) (h0 : w.cell? ⟨vb, 0, none⟩ = some (.int .i32 0)) (L : Value) : Reads (w.setCell ⟨vb, 0, none⟩ L) v xs := by
  obtain ⟨a, cap, rfl, h2⟩ := h
  refine ⟨a, cap, rfl, fun hl => ?_⟩
  obtain ⟨g, off, rfl, h3⟩ := h2 hl
  refine ⟨g, off, rfl, fun j hj => ?_⟩
  rw [World.cell?_setCell_other w ⟨vb, 0, none⟩ ⟨g, off + j, none⟩ L (fun e => ?_)]
  · exact h3 j hj
  · have := h3 j hj
    rw [← e, h0] at this
    simp at this
def totT (head : List Nat) (xs : List Int) (f : List Int → Int) (a : List Int) : Int := if begL (hvals head a) xs = true then wr (f a) else 0
def TT (W wr : World) (b r n : Nat) (D : DataW Unit) (head : List Nat) (xs : List Int) (f : List Int → Int) (tv : Value) : Prop :=
  ∃ left cnt, wr.ranges (H := Unit) Tryz.prog 93 (plainElem Tryz.prog 3) b r n D left cnt ∧ (∀ kl, left kl = true → has D kl = true) ∧ tv = .int .i64 (Go.Proofs.YtondkinefmjpjaaGreat.wr (Sg (doneL 6 f left) (totT head xs f))) ∧ Below W.heap.size W wr
theorem Reads.fr {w w' : World} {v : Value} {xs : List Int} (h : Reads w v xs) (hf : Fr (fun _ => False) w w') : Reads w' v xs := by
  obtain ⟨a, cap, rfl, h2⟩ := h
  refine ⟨a, cap, rfl, fun hl => ?_⟩
  obtain ⟨g, off, rfl, h3⟩ := h2 hl
  exact ⟨g, off, rfl, fun j hj => hf.cell (mps_none _) (h3 j hj)⟩
end Go.Proofs.YtondkinefmjpjaaGreat
namespace Go.Proofs.YtondkinefmjpjaaGreat
open Go.RowKit Go.WideMaps Go.WideElems Go.Maps Go.Shelf Go.MuLone
structure VSt (w : World) (vb : Nat) (P : PlanD) (rb ib : List Nat) (wb : Nat) (R : Nat → List Int → Int) (g : Nat → List Int → Option Nat) (own : Nat → Option (Nat × List Int)) : Prop where
  ok : PlanOk P
  rel : RelOk P
  rok : RowsOk P R
  hb : ∃ c, w.heap[vb]? = some (.cells c 90 (0, 0))
  h0 : w.cell? ⟨vb, 0, none⟩ = some (.int .i32 0)
  pl : PlanSt w vb P
  rows : ∃ rv base, w.cell? ⟨vb, 8, none⟩ = some rv ∧ w.ownsRow base 130 1 rv rb.length (mapVs rb)
  ixs : ∃ iv base, w.cell? ⟨vb, 9, none⟩ = some iv ∧ w.ownsRow base 166 1 iv ib.length (mapVs ib)
  wo : w.cell? ⟨vb, 10, none⟩ = some (.map (some wb))
  hrb : rb.length = P.rels.length
  hil : ib.length = P.lk.length
  cr : ∀ r, r < P.rels.length → CF 110 3 w (rb.getD r 0) (R r) ∧ own (rb.getD r 0) = some (1, [(r : Int)])
  A : IxAll w P.ms P.lk ib (fun l => cont P R (P.lk.getD l (0, 0)).2) g
  W : Own w ib P.lk.length g own
  ow : own wb = some (0, [])
  cw : CF 93 6 w wb (P.wor (cont P R))
  no4 : ∀ i r, own i = some r → r.1 ≠ 4
theorem VSt.fr {w w' : World} {vb : Nat} {P : PlanD} {rb ib : List Nat} {wb : Nat} {R : Nat → List Int → Int} {g : Nat → List Int → Option Nat} {own : Nat → Option (Nat × List Int)} (h : VSt w vb P rb ib wb R g own) (hf : Fr (fun _ => False) w w') : VSt w' vb P rb ib wb R g own := by
  obtain ⟨c, hb⟩ := h.hb
  obtain ⟨rv, b1, r1, r2⟩ := h.rows
  obtain ⟨iv, b2, i1, i2⟩ := h.ixs
  exact ⟨h.ok, h.rel, h.rok, ⟨c, (hf.block vb (vlt_of_block hb) (fun h => h)).trans hb⟩, hf.cell (mps_none _) h.h0, h.pl.fr hf (mps_none _), ⟨rv, b1, hf.cell (mps_none _) r1, hf.own (mps_none _) r2⟩, ⟨iv, b2, hf.cell (mps_none _) i1, hf.own (mps_none _) i2⟩, hf.cell (mps_none _) h.wo, h.hrb, h.hil, fun r hr => ⟨(h.cr r hr).1.fr hf (fun h => h), (h.cr r hr).2⟩, h.A.fr hf, h.W.fr hf, h.ow, h.cw.fr hf (fun h => h), h.no4⟩
theorem fr_below {w w' : World} (h : Below w.heap.size w w') : Fr (fun _ => False) w w' := Fr.of_below h
def pad (vals : List Int) : List Int := vals ++ List.replicate (3 - vals.length) 0
theorem pad_box {vals : List Int} (h : vals.length ≤ 3) (hv : vals.all okV = true) : pad vals ∈ boxN 3 := by
  rw [mem_boxN]
  refine ⟨by simp [pad]; omega, fun x hx => ?_⟩
  rcases List.mem_append.1 hx with hx | hx
  · have := List.all_eq_true.1 hv x hx
    simp [okV] at this; exact this
  · have := List.eq_of_mem_replicate hx
    omega
theorem pad_tail {vals : List Int} (j : Nat) (hj : vals.length ≤ j) : (pad vals).getD j 0 = 0 := by
  unfold pad
  rw [List.getD_eq_getElem?_getD, List.getElem?_append_right hj, List.getElem?_replicate]
  split <;> rfl
theorem upd_lock {w : World} {vb : Nat} {P : PlanD} {rb ib : List Nat} {wb : Nat} {R : Nat → List Int → Int} {g : Nat → List Int → Option Nat} {own : Nat → Option (Nat × List Int)} (h : VSt w vb P rb ib wb R g own) {v : Value} {xs : List Int} (hr : Reads w v xs) {W : World} (hW : (w.alloc (.cells #[.pointer (some ⟨vb, 0, none⟩)] 23)).setCell ⟨vb, 0, none⟩ (.int .i32 1) = W) :
    PlanSt W vb P ∧ (∃ rv base, W.cell? ⟨vb, 8, none⟩ = some rv ∧ W.ownsRow base 130 1 rv rb.length (mapVs rb)) ∧ (∃ iv base, W.cell? ⟨vb, 9, none⟩ = some iv ∧ W.ownsRow base 166 1 iv ib.length (mapVs ib)) ∧ W.cell? ⟨vb, 10, none⟩ = some (.map (some wb)) ∧ W.cell? ⟨w.heap.size, 0, none⟩ = some (.pointer (some ⟨vb, 0, none⟩)) ∧ Reads W v xs ∧ W.heap.size = w.heap.size + 1 ∧ Fr (fun i => i = vb) w W ∧
      ∀ w2, Below w.heap.size W w2 → (w2.cell? ⟨vb, 0, none⟩ = some (.int .i32 1) ∧ w2.frozen? ⟨vb, 0, none⟩ = false) ∧ Below w.heap.size w (w2.setCell ⟨vb, 0, none⟩ (.int .i32 0)) := by
  obtain ⟨c, hb⟩ := h.hb
  have hfa : Fr (fun _ => False) w (w.alloc (.cells #[.pointer (some ⟨vb, 0, none⟩)] 23)) := Fr.alloc _ _
  have hA := h.fr hfa
  obtain ⟨cA, hbA⟩ := hA.hb
  obtain ⟨rv, b1, r1, r2⟩ := hA.rows
  obtain ⟨iv, b2, i1, i2⟩ := hA.ixs
  have lv := vlt_of_block hb
  subst hW
  refine ⟨hA.pl.lock hbA _, ⟨rv, b1, (lock_cell (Or.inr (by simp))).trans r1, lock_own hbA r2 (by decide)⟩, ⟨iv, b2, (lock_cell (Or.inr (by simp))).trans i1, lock_own hbA i2 (by decide)⟩, (lock_cell (Or.inr (by simp))).trans hA.wo, ?_, (hr.fr hfa).lock hA.h0 _, by simp, (Fr.alloc _ _).trans (Fr.setCell (M := fun i => i = vb) ⟨vb, 0, none⟩ _ (fun _ => rfl)) (fun _ _ h => h), fun w2 hw2 => ?_⟩
  · rw [lock_cell (Or.inl (by simp; omega))]
    unfold World.cell?
    rw [vheap_alloc_new]; rfl
  · refine ⟨lock_held hbA hA.h0 (hw2.block vb lv), hw2.os, hw2.tape, hw2.output, by have := hw2.size; simp at this ⊢; omega, fun i hi => ?_⟩
    by_cases e : i = vb
    · subst e
      exact (lock_back hbA hA.h0 rfl (hw2.block i hi)).trans (Below.heap_alloc _ _ _ hi)
    · rw [Below.heap_setCell _ _ _ _ e, hw2.block i hi, Below.heap_setCell _ _ _ _ e]
      exact Below.heap_alloc _ _ _ hi
end Go.Proofs.YtondkinefmjpjaaGreat
