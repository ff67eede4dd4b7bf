import Derived.Test.YtondkinefmjpjaaGreatX50
namespace Go.Proofs.YtondkinefmjpjaaGreat
open Go.RowKit Go.WideMaps Go.WideElems Go.Maps Go.Shelf
theorem neg_s {B : Nat} {w : World} {v : Value} {us : List Value} {l : Rws} (h : RNew 55 B w v us l) (hf : Fit 1000000 l) :
    Calls Tryz.prog 22 #[v] w fun e w' => ∃ m us, e = .returned m ∧ RNew 55 w.heap.size w' m us (l.map negR) ∧ Below w.heap.size w w' :=
  negated_any v l w h.read ⟨by have := hf.1; omega, hf.2⟩
theorem Reads.frm {M : Nat → Prop} {w w' : World} {v : Value} {xs : List Int} (h : Reads w v xs) (hf : Fr M w w') (hm : Mps w M) : Reads w' v xs := by
  obtain ⟨a, cap, rfl, h2⟩ := h
  refine ⟨a, cap, rfl, fun hl => ?_⟩
  obtain ⟨g, off, rfl, h3⟩ := h2 hl
  exact ⟨g, off, rfl, fun j hj => hf.cell hm (h3 j hj)⟩
theorem Fit.le {N M : Nat} {l : Rws} (h : Fit N l) (hm : N ≤ M) : Fit M l := ⟨Nat.le_trans h.1 hm, h.2⟩
end Go.Proofs.YtondkinefmjpjaaGreat
