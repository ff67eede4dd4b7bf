import Derived.Test.YtondkinefmjpjaaRows
import Derived.Test.YtondkinefmjpjaaLaw1
import Derived.ProofKit
import Derived.Deep.Slices
namespace Go.Proofs.Ytondkinefmjpjaa
open Go.ChangeShapes Go.WideShapes Go.ChangeAt Go.RowKit Go.Deep

theorem Try.own : ownKnob Try.prog.godebug = none := by kernel_rfl
theorem Try.laidOut : laidOutB Try.prog = true := by kernel_rfl
theorem Try.cells25 : Try.prog.cellsOf 25 = 5 := by kernel_rfl
theorem Try.cells3 : Try.prog.cellsOf 3 = 1 := by kernel_rfl
theorem Try.cells9 : Try.prog.cellsOf 9 = 1 := by kernel_rfl

/- One step of a script: its kind and its text. -/
set_option maxRecDepth 100000 in
theorem op_cells {H : Type} {enc : TypeId × Value → H} {w : World} {n : Nat} {a : Addr} {cs : List Value} {x : DataW H × List MemPlace} (hc : w.cells? 0 a 5 = some cs) (h : DataW.trod enc Try.prog w 0 (fun _ => true) true n 25 cs = some x) :
    ∃ (k : Int) (s : ByteArray), w.cell? a = some (.int .i64 k) ∧ w.cell? (a.add 2) = some (.string s) ∧ s.size ≤ maxLen := by
  obtain ⟨_, hlen, hcell⟩ := World.cells?_some hc
  obtain ⟨xs, m, _, _, _, hxl, hf⟩ := DataW.trod_struct Try.underlying25 h
  match xs, hxl, cs, hlen with
  | [y0, y1, y2, y3, y4], _, [v0, v1, v2, v3, v4], _ =>
    have g0 := hf 0 _ rfl
    have g2 := hf 2 _ rfl
    simp [Try.cells3, Try.cells9] at g0 g2
    obtain ⟨k, e0, _, _⟩ := DataW.trod_int Try.underlying3 g0
    obtain ⟨s, e2, _, hs⟩ := DataW.trod_string Try.underlying9 g2
    have c0 := hcell 0 (by omega)
    have c2 := hcell 2 (by omega)
    simp at e0 e2 c0 c2
    subst e0 e2
    refine ⟨k, s, ?_, c2, hs⟩
    simpa [Addr.add] using c0

set_option maxRecDepth 100000 in
theorem Checks_lifted (hC : CheckSaid) (hP : ParseSaid) (os : Os) (started : os.Started) (H : Type) (enc : TypeId × Value → H) :
    ReturnsInHanded {} Try.checked os 3 .any (Rows.checksSpec.pre6 enc Try.prog Try.f3 Rows.checksRow.domain false) (Rows.checksSpec.post enc Try.prog Try.f3 false true false false) := by
  refine returnsInHanded_of_change (C := Try.checked) Try.own started (by kernel_rfl) Try.func3
    (ChangeSpec.witness6 (enc := enc) (C := Try.checked) false ⟨#[], #[.slice none 0 0], []⟩ 8 (by kernel_rfl) (by kernel_rfl) (by kernel_rfl) (by kernel_rfl)) ?_
  intro W base args ds gs before hval0 hW hcnd _
  have hval : ∀ (j : Nat) t v, Try.f3.params[j]? = some t → args[j]? = some v → Value.okWide Try.prog W .any base t v := hval0
  have hW' := hW
  obtain ⟨p, q, hA0, hV, rfl, hfz, hnd⟩ := hW
  have hA : DataW.TrodAll enc Try.prog W 0 (fun _ => true) true Try.f3.params.toList args.toList ds p := hA0
  rw [Try.params3] at hA hval
  obtain ⟨v0, d0, rfl, rfl, h0⟩ := trodAll_one hA
  obtain ⟨rfl, rfl⟩ := trodVars_none hV
  obtain ⟨a0, len, cap, rfl⟩ := okWide_slice Try.underlying22 (hval 0 22 v0 rfl rfl)
  have h0k := h0
  obtain ⟨fuel, hf⟩ := h0
  clear hA0 hval0
  simp only [List.append_nil] at hW'
  have hlt : ∀ x ∈ p, x.block < W.heap.size := fun x hx => by simpa using hW'.lt x hx
  have fin : ∀ (e : Ending) (W' : World), e = .returned (.bool true) ∧ Below W.heap.size W W' → ∃ v, e = .returned v ∧ Rows.checksSpec.post enc Try.checked.prog Try.f3 false true false false W #[.slice a0 len cap] v W' := by
    rintro e W' ⟨rfl, hb⟩
    refine ⟨_, rfl, ?_⟩
    refine ⟨_, _, _, [], p, [], hW', trodAll_mk1 (shut_bool Try.underlying4 true), trodAll_mk1 (Below.trod Try.laidOut (by kernel_rfl) (of_decide_eq_true (by kernel_rfl)) h0k hb hlt), rfl, hb.frame _, fun h => by cases h⟩
  rcases open_slice Try.underlying22 hf with ⟨hcs, _⟩ | ⟨a, len', cap', m, n, D, Pl, hcs, _, hl, hm, hmm, hx, hel⟩
  · obtain ⟨rfl, rfl, rfl⟩ : a0 = none ∧ len = 0 ∧ cap = 0 := by simpa [Value.cells] using hcs
    refine (Checks_nil 0 0 none W rfl).mono fun e W' ⟨he, hw⟩ => fin e W' ⟨he, ?_⟩
    subst hw; exact Below.refl _ _
  · obtain ⟨rfl, rfl, rfl⟩ : a0 = some a ∧ len = len' ∧ cap = cap' := by simpa [Value.cells] using hcs
    simp only [if_true] at hmm
    by_cases h0 : len = 0
    · refine (Checks_nil len cap (some a) W h0).mono fun e W' ⟨he, hw⟩ => fin e W' ⟨he, ?_⟩
      subst hw; exact Below.refl _ _
    · have each : ∀ i, i < len → ∃ q : Int × ByteArray, W.cell? (a.add (i * 5)) = some (.int .i64 q.1) ∧ W.cell? ((a.add (i * 5)).add 2) = some (.string q.2) ∧ q.2.size ≤ maxLen := by
        intro i hi
        obtain ⟨cs', g1, g2⟩ := hel i (by omega)
        rw [Try.cells25] at g1
        obtain ⟨k, s, e1, e2, e3⟩ := op_cells g1 g2
        exact ⟨(k, s), e1, e2, e3⟩
      haveI : Inhabited (Int × ByteArray) := ⟨(0, ByteArray.empty)⟩
      obtain ⟨f, hfn⟩ := choose_lt each
      obtain ⟨b, off, spot⟩ := a
      have hspot : spot = none := by simpa [Addr.add] using World.cell?_spot (hfn 0 (by omega)).1
      subst hspot
      have hbl : b < W.heap.size := by simpa [Addr.add] using World.block_lt_of_cell? _ _ (hfn 0 (by omega)).1
      refine (Checks_any hC hP b off len cap (fun i => (f i).1) (fun i => (f i).2) W (by omega) hbl (fun i hi => ?_) (fun i hi => ?_)).mono fun e W' h => fin e W' h
      · have := (hfn i hi).1
        rwa [add_plain] at this
      · have := (hfn i hi).2.1
        rw [add_plain, add_plain] at this
        exact ⟨this, (hfn i hi).2.2⟩

theorem Checks_holds (hC : CheckSaid) (hP : ParseSaid) : Rows.ChecksSaid :=
  OpenClaim.holds_of_wide 3 Try.f3 rfl rfl rfl rfl rfl rfl rfl ⟨rfl, rfl, rfl, rfl, rfl⟩ rfl rfl rfl rfl rfl (by kernel_rfl) Try.func3 (by kernel_rfl)
    (of_decide_eq_true (by kernel_rfl)) (by unfold Func.isWrapper; first | (rw [if_pos (by decide +kernel)]; kernel_rfl) | (rw [if_neg (by decide +kernel)]; exact ⟨rfl, rfl⟩))
    (fun os started H enc _ => Checks_lifted hC hP os started H enc)

end Go.Proofs.Ytondkinefmjpjaa
