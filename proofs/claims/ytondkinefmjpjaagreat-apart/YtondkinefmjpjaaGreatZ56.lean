import Derived.Test.YtondkinefmjpjaaGreatZ55
namespace Go.Proofs.YtondkinefmjpjaaGreat
open Go.RowKit Go.WideMaps Go.WideElems Go.Maps Go.Shelf Go.MuLone
def ClS (W wx : World) (vb : Nat) (P : PlanD) (rb ib : List Nat) (wb : Nat) (R : Nat → List Int → Int) (S : Nat → Bool) (own : Nat → Option (Nat × List Int)) (k : Nat) : Prop :=
  ∃ g, CSt wx vb P rb ib wb (clrR (clrK S k) R) (fun l => cont P (clrR (clrK S k) R) (P.lk.getD l (0, 0)).2) (P.wor (cont P R)) g own ∧ VUp W wx own own
theorem ClS.fr {W wx wy : World} {vb : Nat} {P : PlanD} {rb ib : List Nat} {wb : Nat} {R : Nat → List Int → Int} {S : Nat → Bool} {own : Nat → Option (Nat × List Int)} {k : Nat} (h : ClS W wx vb P rb ib wb R S own k) (hf : Fr (fun _ => False) wx wy) : ClS W wy vb P rb ib wb R S own k := by
  obtain ⟨g, h1, h2⟩ := h
  exact ⟨g, h1.fr hf, h2.trans (VUp.of_fr own hf)⟩
theorem clr_all {P : PlanD} {R : Nat → List Int → Int} (S : Nat → Bool) {r : Nat} (hr : r < P.rels.length) : clrR (clrK S P.rels.length) R r = clrR S R r := by
  funext t; simp [clrR, clrK, hr]
theorem cont_congr {P : PlanD} (hQ : RelOk P) {R R' : Nat → List Int → Int} (h : ∀ r, r < P.rels.length → R r = R' r) (i : Nat) : cont P R i = cont P R' i := by
  funext a
  unfold cont
  split
  · rename_i hi
    refine S_congr fun t _ => ?_
    rw [h _ (hQ.lt i hi)]
  · rfl
theorem ClS.done {w W wx wy : World} {vb : Nat} {P : PlanD} {rb ib : List Nat} {wb c : Nat} {R : Nat → List Int → Int} {S : Nat → Bool} {g : Nat → List Int → Option Nat} {own : Nat → Option (Nat × List Int)} (h : VSt w vb P rb ib wb R g own) (hW : w.setCell ⟨vb, 0, none⟩ (.int .i32 1) = W) (hw0 : ∀ a, P.wor (cont P (clrR S R)) a = 0) (hC : ClS W wx vb P rb ib wb R S own P.rels.length) (hb : wy.heap[wb]? = some (.map #[] c)) (hf : Fr (fun i => i = wb) wx wy) :
    (wy.cell? ⟨vb, 0, none⟩ = some (.int .i32 1) ∧ wy.frozen? ⟨vb, 0, none⟩ = false) ∧ ∃ g', VSt (wy.setCell ⟨vb, 0, none⟩ (.int .i32 0)) vb P rb ib wb (clrR S R) g' own ∧ VUp w (wy.setCell ⟨vb, 0, none⟩ (.int .i32 0)) own own := by
  obtain ⟨g', q1, q2⟩ := hC
  obtain ⟨p1, p2⟩ := q1.clrWo hb hf
  subst hW
  have hR : ∀ r, r < P.rels.length → clrR (clrK S P.rels.length) R r = clrR S R r := fun r hr => clr_all S hr
  have := clr_fin h (clr_ok h.rok S) (p1.congr hR (fun l _ => cont_congr h.rel hR _) (by funext a; exact (hw0 a).symm)) (q2.trans p2)
  exact ⟨this.1, g', this.2⟩
end Go.Proofs.YtondkinefmjpjaaGreat
