import Derived.Test.YtondkinefmjpjaaGreatZ50
namespace Go.Proofs.YtondkinefmjpjaaGreat
open Go.RowKit Go.WideMaps Go.WideElems Go.Maps Go.Shelf
theorem VSt.frM {M : Nat → Prop} {w w' : World} {vb : Nat} {P : PlanD} {rb ib : List Nat} {wb : Nat} {R : Nat → List Int → Int} {g : Nat → List Int → Option Nat} {own : Nat → Option (Nat × List Int)} (h : VSt w vb P rb ib wb R g own) (hf : Fr M w w') (hm : Mps w M) (hd : ∀ i, M i → own i = none) : VSt w' vb P rb ib wb R g own := by
  obtain ⟨c, hb⟩ := h.hb
  obtain ⟨rv, b1, r1, r2⟩ := h.rows
  obtain ⟨iv, b2, i1, i2⟩ := h.ixs
  have no : ∀ i r, own i = some r → ¬ M i := fun i r hr hM => by rw [hd i hM] at hr; cases hr
  have nv : ¬ M vb := fun hM => by obtain ⟨es, k, e⟩ := hm vb (vlt_of_block hb) hM; rw [hb] at e; cases e
  refine ⟨h.ok, h.rel, h.rok, ⟨c, (hf.block vb (vlt_of_block hb) nv).trans hb⟩, hf.cell hm h.h0, h.pl.fr hf hm, ⟨rv, b1, hf.cell hm r1, hf.own hm r2⟩, ⟨iv, b2, hf.cell hm i1, hf.own hm i2⟩, hf.cell hm h.wo, h.hrb, h.hil, fun r hr => ⟨(h.cr r hr).1.block (hf.block _ (h.cr r hr).1.lt (no _ _ (h.cr r hr).2)), (h.cr r hr).2⟩, fun l hl => ?_, ⟨h.W.o, h.W.i, fun i r hr => ?_⟩, h.ow, h.cw.block (hf.block _ h.cw.lt (no _ _ h.ow)), h.no4⟩
  · exact (h.A l hl).block (hf.block _ (h.A l hl).o.lt (no _ _ (h.W.o l hl))) (fun k hk c hc => hf.block _ ((h.A l hl).i k hk c hc).1.lt (no _ _ (h.W.i l hl k hk c hc)))
  · obtain ⟨es, c, e⟩ := h.W.m i r hr
    exact ⟨es, c, (hf.block i (vlt_of_block e) (no i r hr)).trans e⟩
def Apt (own own2 : Nat → Option (Nat × List Int)) : Prop := ∀ i, own i ≠ none → own2 i = none
theorem Apt.symm {own own2 : Nat → Option (Nat × List Int)} (h : Apt own own2) : Apt own2 own := fun i hi => by
  cases e : own i with
  | none => rfl
  | some r => exact absurd (h i (by rw [e]; exact fun q => by cases q)) hi
theorem VSt.other {w w' : World} {vb vb2 : Nat} {P P2 : PlanD} {rb ib rb2 ib2 : List Nat} {wb wb2 : Nat} {R R2 : Nat → List Int → Int} {g g2 : Nat → List Int → Option Nat} {own own' own2 : Nat → Option (Nat × List Int)} (h : VSt w vb P rb ib wb R g own) (h2 : VSt w vb2 P2 rb2 ib2 wb2 R2 g2 own2) (ha : Apt own own2) (hU : VUp w w' own own') : VSt w' vb2 P2 rb2 ib2 wb2 R2 g2 own2 ∧ Apt own' own2 := by
  refine ⟨h2.frM hU.fr (mps_ow h.W) (fun i hM => ?_), fun i hi => ?_⟩
  · obtain ⟨r, hr⟩ := hM
    exact ha i (by rw [hr]; exact fun q => by cases q)
  · by_cases hl : i < w.heap.size
    · rw [hU.old i hl] at hi; exact ha i hi
    · cases e : own2 i with
      | none => rfl
      | some r => obtain ⟨es, c, e'⟩ := h2.W.m i r e; exact absurd (vlt_of_block e') hl
def rest (n k : Nat) : List Nat := (List.range n).drop k
end Go.Proofs.YtondkinefmjpjaaGreat
namespace Go.Proofs.YtondkinefmjpjaaGreat
open Go.RowKit Go.WideMaps Go.WideElems Go.Maps Go.Shelf
structure VN where
  vb : Nat
  rb : List Nat
  ib : List Nat
  wb : Nat
def Two (B : Nat) (w : World) (P : PlanD) (V1 : VN) (R1 : Nat → List Int → Int) (V2 : VN) (R2 : Nat → List Int → Int) : Prop :=
  ∃ g1 own1 g2 own2, VSt w V1.vb P V1.rb V1.ib V1.wb R1 g1 own1 ∧ VSt w V2.vb P V2.rb V2.ib V2.wb R2 g2 own2 ∧ Apt own1 own2 ∧ (∀ b, own1 b ≠ none → B ≤ b) ∧ ∀ b, own2 b ≠ none → B ≤ b
theorem Two.below {B : Nat} {w w' : World} {P : PlanD} {V1 V2 : VN} {R1 R2 : Nat → List Int → Int} (h : Two B w P V1 R1 V2 R2) (hb : Below w.heap.size w w') : Two B w' P V1 R1 V2 R2 := by
  obtain ⟨g1, o1, g2, o2, h1, h2, h3, h4, h5⟩ := h
  exact ⟨g1, o1, g2, o2, h1.fr (fr_below hb), h2.fr (fr_below hb), h3, h4, h5⟩
theorem Two.symm {B : Nat} {w : World} {P : PlanD} {V1 V2 : VN} {R1 R2 : Nat → List Int → Int} (h : Two B w P V1 R1 V2 R2) : Two B w P V2 R2 V1 R1 := by
  obtain ⟨g1, o1, g2, o2, h1, h2, h3, h4, h5⟩ := h
  exact ⟨g2, o2, g1, o1, h2, h1, h3.symm, h5, h4⟩
end Go.Proofs.YtondkinefmjpjaaGreat
namespace Go.Proofs.YtondkinefmjpjaaGreat
open Go.ChangeShapes Go.WideShapes Go.ChangeAt Go.RowKit Go.Deep Go.ChangeMaps
theorem Tryz.bytes30 : Tryz.prog.bytesOf 30 = 72 := by kernel_rfl
theorem script_short {H : Type} {enc : TypeId × Value → H} {W : World} {fuel : Nat} {a0 : Option Addr} {len cap : Nat} {x : DataW H × List MemPlace} (hf : DataW.trod enc Tryz.prog W 0 (fun _ => true) true fuel 22 [.slice a0 len cap] = some x) (hw : ∀ n, n ∈ x.1.weights Tryz.prog 22 → n ≤ reachBytes) : len < 1152921504606846976 := by
  rcases open_slice Tryz.underlying22 hf with ⟨hcs, _⟩ | ⟨a, len', cap', m, n, D, Pl, hcs, _, hl, hm, hmm, hx, hel⟩
  · obtain ⟨rfl, rfl, rfl⟩ : a0 = none ∧ len = 0 ∧ cap = 0 := by simpa using hcs
    omega
  · obtain ⟨rfl, rfl, rfl⟩ : a0 = some a ∧ len = len' ∧ cap = cap' := by simpa using hcs
    rw [hx] at hw
    simp only [DataW.weights, Tryz.underlying22, Tryz.bytes30] at hw
    have := hw _ (List.mem_cons_self)
    simp only [List.length_map, List.length_range] at this
    have hr47 := reachBytes_lt
    omega
end Go.Proofs.YtondkinefmjpjaaGreat
