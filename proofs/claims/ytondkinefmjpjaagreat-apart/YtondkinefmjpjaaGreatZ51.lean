import Derived.Test.YtondkinefmjpjaaGreatZ50
namespace Go.Proofs.YtondkinefmjpjaaGreat
open Go.RowKit Go.WideMaps Go.WideElems Go.Maps Go.Shelf
def UpC (w : World) (vb : Nat) (P : PlanD) (rb ib : List Nat) (wb : Nat) (R : Nat → List Int → Int) (own : Nat → Option (Nat × List Int)) (name : ByteArray) (x : Int) (xs : List Int) (vv : Value) (c : Int) (w1 : World) : Prop :=
  (c ≠ 0 ∧ vv = .slice none 0 0 ∧ Below w.heap.size w w1) ∨ (c = 0 ∧ ∃ r us l g' own', UpR w w1 vb P rb ib wb R own name x xs r vv us l g' own')
theorem update_c {w : World} {vb : Nat} {P : PlanD} {rb ib : List Nat} {wb : Nat} {R : Nat → List Int → Int} {g : Nat → List Int → Option Nat} {own : Nat → Option (Nat × List Int)} (h : VSt w vb P rb ib wb R g own) (name : ByteArray) (x : Int) {v : Value} {xs : List Int} (hr : Reads w v xs) (hxl : xs.length < 4611686018427387904) (hT : ∀ r, r < P.rels.length → (P.rel r).2.1 ≤ 3) :
    Calls Tryz.prog 16 #[.pointer (some ⟨vb, 0, none⟩), .string name, .int .i64 x, v] w fun e w' => ∃ v, e = .returned v ∧ ∃ vv c, v = .tuple #[vv, .int .i64 c] ∧ UpC w vb P rb ib wb R own name x xs vv c w' := by
  refine (update_s h name x hr hxl hT).mono ?_
  rintro e w' ⟨vv, rfl, ⟨c, rfl, hc, hb⟩ | ⟨r, v', us, l, g', own', rfl, hU⟩⟩
  · exact ⟨_, rfl, _, c, rfl, Or.inl ⟨hc, rfl, hb⟩⟩
  · exact ⟨_, rfl, v', 0, rfl, Or.inr ⟨rfl, r, us, l, g', own', hU⟩⟩
theorem rows_s {w : World} {vb : Nat} {P : PlanD} {rb ib : List Nat} {wb : Nat} {R : Nat → List Int → Int} {g : Nat → List Int → Option Nat} {own : Nat → Option (Nat × List Int)} (h : VSt w vb P rb ib wb R g own) :
    Calls Tryz.prog 12 #[.pointer (some ⟨vb, 0, none⟩)] w fun e w' => ∃ v us l, e = .returned v ∧ RNew 55 w.heap.size w' v us l ∧ l.Perm (rowsL (hvals P.head) (P.wor (cont P R)) (live 6 (P.wor (cont P R)))) ∧ Fit 1000000 l ∧ Below w.heap.size w w' := by
  obtain ⟨c, hb⟩ := h.hb
  have hfew := wor_few h.ok h.rel h.rok
  refine (Rows_any vb wb P h.ok _ w c hb h.h0 h.pl h.wo h.cw (by omega)).mono ?_
  rintro e w' ⟨v, us, l, rfl, q1, q2, _, q4⟩
  exact ⟨v, us, l, rfl, q1, q2, rows_fit q2 h.ok.head6 (by omega), q4⟩
theorem Reads.frm {M : Nat → Prop} {w w' : World} {v : Value} {xs : List Int} (h : Reads w v xs) (hf : Fr M w w') (hm : Mps w M) : Reads w' v xs := by
  obtain ⟨a, cap, rfl, h2⟩ := h
  refine ⟨a, cap, rfl, fun hl => ?_⟩
  obtain ⟨g, off, rfl, h3⟩ := h2 hl
  exact ⟨g, off, rfl, fun j hj => hf.cell hm (h3 j hj)⟩
theorem Fit.le {N M : Nat} {l : Rws} (h : Fit N l) (hm : N ≤ M) : Fit M l := ⟨Nat.le_trans h.1 hm, h.2⟩
end Go.Proofs.YtondkinefmjpjaaGreat
