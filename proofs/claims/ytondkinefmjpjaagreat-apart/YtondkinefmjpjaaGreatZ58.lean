import Derived.Test.YtondkinefmjpjaaGreatZ57
namespace Go.Proofs.YtondkinefmjpjaaGreat
open Go.RowKit Go.WideMaps Go.WideElems Go.Maps Go.Shelf
theorem wor_noR {P : PlanD} (h1 : 1 ≤ P.ms.length) (a : List Int) : P.wor (cont P noR) a = 0 := by
  have := clr_wor (P := P) (R := noR) (S := fun _ => true) (i := 0) (by omega) rfl a
  have e : clrR (fun _ => true) noR = noR := by funext r t; simp [clrR, noR]
  rw [e] at this
  exact this
theorem TolT.form {B : Nat} {w wx : World} {vb : Nat} {P : PlanD} {rb ib : List Nat} {wb : Nat} {av : Value} {k : Nat} {lv : Value} (h : TolT B w wx vb P rb ib wb av k lv) : ∃ a m c, lv = .slice a m c := by
  obtain ⟨_, _, _, _, _, _, l, _, hL, _⟩ := h
  obtain ⟨a, c, e⟩ := vown_form hL.row.2.1
  exact ⟨a, _, c, e⟩
theorem TolA.blw {B : Nat} {w wx : World} {vb : Nat} {P : PlanD} {rb ib : List Nat} {wb : Nat} {av : Value} {k : Nat} (h : TolA B w wx vb P rb ib wb av k) : Below B w wx := by
  obtain ⟨_, _, _, _, _, hI, _⟩ := h
  exact hI.blw
end Go.Proofs.YtondkinefmjpjaaGreat
