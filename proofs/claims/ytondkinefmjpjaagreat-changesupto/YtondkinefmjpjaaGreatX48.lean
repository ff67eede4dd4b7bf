import Derived.Test.YtondkinefmjpjaaGreatX47
namespace Go.Proofs.YtondkinefmjpjaaGreat
open Go.RowKit Go.WideMaps Go.WideElems Go.Maps Go.Shelf
def Scr (w : World) (va : Option Addr) (n : Nat) (Kd Am : Nat → Int) (S : Nat → ByteArray) (LV : Nat → Value) (L : Nat → List Int) : Prop :=
  0 < n → ∃ b off, va = some ⟨b, off, none⟩ ∧ ∀ i, i < n → w.cell? ⟨b, off + i * 5, none⟩ = some (.int .i64 (Kd i)) ∧ w.cell? ⟨b, off + i * 5 + 1, none⟩ = some (.int .i64 (Am i)) ∧ w.cell? ⟨b, off + i * 5 + 2, none⟩ = some (.string (S i)) ∧ w.cell? ⟨b, off + i * 5 + 4, none⟩ = some (LV i) ∧ Reads w (LV i) (L i) ∧ (L i).length * 8 ≤ 140737488355328
theorem Scr.at {w w' : World} {va : Option Addr} {n : Nat} {Kd Am : Nat → Int} {S : Nat → ByteArray} {LV : Nat → Value} {L : Nat → List Int} (h : Scr w va n Kd Am S LV L) (hb : Below w.heap.size w w') {i : Nat} (hi : i < n) :
    ∃ b off la lc, va = some ⟨b, off, none⟩ ∧ w'.cell? ⟨b, off + i * 5, none⟩ = some (.int .i64 (Kd i)) ∧ w'.cell? ⟨b, off + i * 5 + 1, none⟩ = some (.int .i64 (Am i)) ∧ w'.cell? ⟨b, off + i * 5 + 2, none⟩ = some (.string (S i)) ∧ w'.cell? ⟨b, off + i * 5 + 4, none⟩ = some (.slice la (L i).length lc) ∧ Reads w' (.slice la (L i).length lc) (L i) ∧ (L i).length * 8 ≤ 140737488355328 := by
  obtain ⟨b, off, e, hh⟩ := h (by omega)
  obtain ⟨c0, c1, c2, c4, hr, hl⟩ := hh i hi
  have hr' := hr.below hb
  obtain ⟨la, lc, e4, _⟩ := id hr
  rw [e4] at c4 hr'
  exact ⟨b, off, la, lc, e, (hb.cell (World.block_lt_of_cell? _ _ c0)).trans c0, (hb.cell (World.block_lt_of_cell? _ _ c1)).trans c1, (hb.cell (World.block_lt_of_cell? _ _ c2)).trans c2, (hb.cell (World.block_lt_of_cell? _ _ c4)).trans c4, hr', hl⟩
def VAny (B : Nat) (w : World) (vb : Nat) (P : PlanD) (rb ib : List Nat) (wb : Nat) : Prop := ∃ R g own, VSt w vb P rb ib wb R g own ∧ ∀ b, own b ≠ none → B ≤ b
def CqS (wr : World) (V : List Int) (b o : Nat) (Sx : ByteArray) (X : Int) (v1 : Value) (w1 : World) : Prop :=
  ∃ a1 p1, v1 = .slice a1 V.length p1 ∧ Reads w1 (.slice a1 V.length p1) V ∧ Below wr.heap.size wr w1 ∧ w1.cell? ⟨b, o + 1, none⟩ = some (.int .i64 X) ∧ w1.cell? ⟨b, o + 2, none⟩ = some (.string Sx)
theorem copied_q (u : Value) (V : List Int) (wr : World) (b o : Nat) (Sx : ByteArray) (X : Int) (h : Reads wr u V) (hl : V.length * 8 ≤ 140737488355328) (h1 : wr.cell? ⟨b, o + 1, none⟩ = some (.int .i64 X)) (h2 : wr.cell? ⟨b, o + 2, none⟩ = some (.string Sx)) :
    Calls Tryz.prog 17 #[u] wr.drew fun e w' => ∃ v, e = .returned v ∧ CqS wr V b o Sx X v w' := by
  refine (copied_any u V wr.drew h hl).mono ?_
  rintro e w1 ⟨a1, p1, rfl, o1, b1⟩
  have b2 : Below wr.heap.size wr w1 := ⟨b1.os, b1.tape, b1.output, b1.size, b1.block⟩
  exact ⟨_, rfl, a1, p1, rfl, reads_own o1 rfl, b2, (b2.cell (World.block_lt_of_cell? _ _ h1)).trans h1, (b2.cell (World.block_lt_of_cell? _ _ h2)).trans h2⟩
theorem enter16 : ∀ vs u, (callFunc 16 vs).run Tryz.prog u = .ok (.enter 16 vs) u := enters_of Tryz.func16 (by kernel_rfl) rfl
theorem rows_len {l : Rws} {head : List Nat} {f : List Int → Int} (hp : l.Perm (rowsL (hvals head) f (live 6 f))) (j : Nat) (hj : j < l.length) : (rAt l j).1.length = head.length := by
  have hm : rAt l j ∈ l := by unfold rAt; rw [List.getD_eq_getElem?_getD, List.getElem?_eq_getElem hj]; exact List.getElem_mem hj
  obtain ⟨a, _, e⟩ := List.mem_map.1 (hp.mem_iff.1 hm)
  rw [← e]; simp [hvals]
end Go.Proofs.YtondkinefmjpjaaGreat
