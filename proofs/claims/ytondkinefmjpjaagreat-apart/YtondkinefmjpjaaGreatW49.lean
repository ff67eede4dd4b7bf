import Derived.Test.YtondkinefmjpjaaGreatRows
import Derived.ProofKit
import Derived.SizedLaws
import Derived.ChangeSlices
import Derived.ChangeMaps5
import Derived.Deep.Slices
import Derived.Test.YtondkinefmjpjaaGreatW48
namespace Go.Proofs.YtondkinefmjpjaaGreat
open Go.ChangeShapes Go.WideShapes Go.ChangeAt Go.RowKit Go.Deep

theorem Tryz.own : ownKnob Tryz.prog.godebug = none := by kernel_rfl
theorem Tryz.laidOut : laidOutB Tryz.prog = true := by kernel_rfl
theorem Tryz.cells30 : Tryz.prog.cellsOf 30 = 5 := by kernel_rfl
theorem Tryz.cells3 : Tryz.prog.cellsOf 3 = 1 := by kernel_rfl
theorem Tryz.cells9 : Tryz.prog.cellsOf 9 = 1 := by kernel_rfl
theorem Tryz.cells28 : Tryz.prog.cellsOf 28 = 1 := by kernel_rfl
theorem Tryz.bytes3 : Tryz.prog.bytesOf 3 = 8 := by kernel_rfl
theorem weightsAll_mem {H : Type} {P : Program} {e : TypeId} {l : List (DataW H)} {d : DataW H} (hd : d ∈ l) {n : Nat} (hn : n ∈ d.weights P e) : n ∈ DataW.weightsAll P e l := by
  induction l with
  | nil => cases hd
  | cons a l ih =>
    unfold DataW.weightsAll
    rcases List.mem_cons.1 hd with rfl | hd
    · exact List.mem_append_left _ hn
    · exact List.mem_append_right _ (ih hd)
/-- Values that a step bears. -/
theorem ints_read {H : Type} {enc : TypeId × Value → H} {w : World} {n : Nat} {v : Value} {x : DataW H × List MemPlace} (h : DataW.trod enc Tryz.prog w 0 (fun _ => true) true n 28 [v] = some x) :
    ∃ L, Reads w v L ∧ (L = [] ∨ ∃ N, L.length ≤ N ∧ N * 8 ∈ x.1.weights Tryz.prog 28) := by
  rcases open_ints Tryz.underlying28 Tryz.underlying3 Tryz.cells3 h with ⟨hc, rfl⟩ | ⟨a, len, cap, zs, hc, _, hl, _, hz, rfl, hcell, _⟩
  · simp at hc; subst hc
    exact ⟨[], ⟨none, 0, rfl, fun h => absurd h (by simp)⟩, Or.inl rfl⟩
  · simp at hc; subst hc
    simp only [if_true] at hz
    have hlen : (zs.take len).length = len := by rw [List.length_take]; omega
    refine ⟨zs.take len, ⟨some a, cap, by rw [hlen], fun h0 => ?_⟩, Or.inr ⟨zs.length, by rw [hlen]; omega, ?_⟩⟩
    · rw [hlen] at h0
      obtain ⟨b, off, spot⟩ := a
      have c0 := hcell 0 (by omega)
      have hspot : spot = none := by simpa [Addr.add] using World.cell?_spot c0
      subst hspot
      refine ⟨b, off, rfl, fun j hj => ?_⟩
      rw [hlen] at hj
      have := hcell j (by omega)
      rw [add_plain] at this
      rw [this]
      congr 2
      rw [List.getD_eq_getElem?_getD, List.getD_eq_getElem?_getD, List.getElem?_take_of_lt hj]
    · simp only [DataW.weights, Tryz.underlying28, Tryz.bytes3]
      refine List.mem_cons.2 (Or.inl ?_)
      have : (lits (H := H) .i64 (zs.take len)).length + (lits (H := H) .i64 (zs.drop len)).length = zs.length := by simp [lits]; omega
      rw [this]
set_option maxRecDepth 100000 in
/-- One step of a script. -/
theorem op_reads {H : Type} {enc : TypeId × Value → H} {w : World} {n : Nat} {a : Addr} {cs : List Value} {x : DataW H × List MemPlace} (hc : w.cells? 0 a 5 = some cs) (h : DataW.trod enc Tryz.prog w 0 (fun _ => true) true n 30 cs = some x) :
    ∃ q : Int × Int × ByteArray × Value × List Int, w.cell? a = some (.int .i64 q.1) ∧ w.cell? (a.add 1) = some (.int .i64 q.2.1) ∧ w.cell? (a.add 2) = some (.string q.2.2.1) ∧ w.cell? (a.add 4) = some q.2.2.2.1 ∧ Reads w q.2.2.2.1 q.2.2.2.2 ∧ (q.2.2.2.2 = [] ∨ ∃ N, q.2.2.2.2.length ≤ N ∧ N * 8 ∈ x.1.weights Tryz.prog 30) := by
  obtain ⟨_, hlen, hcell⟩ := World.cells?_some hc
  obtain ⟨xs, m, _, hx, _, hxl, hf⟩ := DataW.trod_struct Tryz.underlying30 h
  match xs, hxl, cs, hlen with
  | [y0, y1, y2, y3, y4], _, [v0, v1, v2, v3, v4], _ =>
    have g0 := hf 0 _ rfl
    have g1 := hf 1 _ rfl
    have g2 := hf 2 _ rfl
    have g4 := hf 4 _ rfl
    simp [Tryz.cells3, Tryz.cells9, Tryz.cells28] at g0 g1 g2 g4
    obtain ⟨k, e0, _, _⟩ := DataW.trod_int Tryz.underlying3 g0
    obtain ⟨am, e1, _, _⟩ := DataW.trod_int Tryz.underlying3 g1
    obtain ⟨s, e2, _, hs⟩ := DataW.trod_string Tryz.underlying9 g2
    obtain ⟨L, hL, hN⟩ := ints_read g4
    have c0 := hcell 0 (by omega)
    have c1 := hcell 1 (by omega)
    have c2 := hcell 2 (by omega)
    have c4 := hcell 4 (by omega)
    simp at e0 e1 e2 c0 c1 c2 c4
    subst e0 e1 e2
    refine ⟨(k, am, s, v4, L), by simpa [Addr.add] using c0, c1, c2, c4, hL, ?_⟩
    rcases hN with e | ⟨N, hN1, hN2⟩
    · exact Or.inl e
    · refine Or.inr ⟨N, hN1, ?_⟩
      rw [hx]
      simp only [DataW.weights, Tryz.underlying30]
      exact DataW.weights_mem_each (j := 4) (t := 28) (d := y4.1) rfl rfl _ hN2
/-- A script that was handed in. -/
theorem script_reads {H : Type} {enc : TypeId × Value → H} {W : World} {fuel : Nat} {a0 : Option Addr} {len cap : Nat} {x : DataW H × List MemPlace} (hf : DataW.trod enc Tryz.prog W 0 (fun _ => true) true fuel 22 [.slice a0 len cap] = some x) (hw : ∀ n, n ∈ x.1.weights Tryz.prog 22 → n ≤ reachBytes) :
    ∃ Kd Am S LV L, Scr W a0 len Kd Am S LV L := by
  rcases open_slice Tryz.underlying22 hf with ⟨hcs, _⟩ | ⟨a, len', cap', m, n, D, Pl, hcs, _, hl, hm, hmm, hx, hel⟩
  · obtain ⟨rfl, rfl, rfl⟩ : a0 = none ∧ len = 0 ∧ cap = 0 := by simpa using hcs
    exact ⟨fun _ => 0, fun _ => 0, fun _ => ByteArray.empty, fun _ => .slice none 0 0, fun _ => [], fun h => absurd h (by decide)⟩
  · obtain ⟨rfl, rfl, rfl⟩ : a0 = some a ∧ len = len' ∧ cap = cap' := by simpa using hcs
    simp only [if_true] at hmm
    have each : ∀ i, i < len → ∃ q : Int × Int × ByteArray × Value × List Int, W.cell? (a.add (i * 5)) = some (.int .i64 q.1) ∧ W.cell? ((a.add (i * 5)).add 1) = some (.int .i64 q.2.1) ∧ W.cell? ((a.add (i * 5)).add 2) = some (.string q.2.2.1) ∧ W.cell? ((a.add (i * 5)).add 4) = some q.2.2.2.1 ∧ Reads W q.2.2.2.1 q.2.2.2.2 ∧ q.2.2.2.2.length * 8 ≤ 140737488355328 := by
      intro i hi
      obtain ⟨cs', g1, g2⟩ := hel i (by omega)
      rw [Tryz.cells30] at g1
      obtain ⟨q, e0, e1, e2, e4, hr, hN⟩ := op_reads g1 g2
      refine ⟨q, e0, e1, e2, e4, hr, ?_⟩
      rcases hN with e | ⟨N, h1, h2⟩
      · rw [e]; simp
      · have hin : N * 8 ∈ x.1.weights Tryz.prog 22 := by
          rw [hx]
          simp only [DataW.weights, Tryz.underlying22]
          refine List.mem_cons_of_mem _ (List.mem_append_left _ (weightsAll_mem (d := D i) (List.mem_map.2 ⟨i, List.mem_range.2 hi, rfl⟩) h2))
        have := hw _ hin
        have hr47 := reachBytes_lt
        omega
    haveI : Inhabited (Int × Int × ByteArray × Value × List Int) := ⟨(0, 0, ByteArray.empty, .slice none 0 0, [])⟩
    obtain ⟨f, hfn⟩ := choose_lt each
    refine ⟨fun i => (f i).1, fun i => (f i).2.1, fun i => (f i).2.2.1, fun i => (f i).2.2.2.1, fun i => (f i).2.2.2.2, fun h0 => ?_⟩
    obtain ⟨b, off, spot⟩ := a
    have hspot : spot = none := by simpa [Addr.add] using World.cell?_spot (hfn 0 h0).1
    subst hspot
    refine ⟨b, off, rfl, fun i hi => ?_⟩
    have := hfn i hi
    simp only [add_plain] at this
    exact this
end Go.Proofs.YtondkinefmjpjaaGreat
namespace Go.Proofs.YtondkinefmjpjaaGreat
open Go.ChangeShapes Go.WideShapes Go.ChangeAt Go.RowKit Go.Deep Go.ChangeMaps

set_option maxRecDepth 100000 in
theorem Totals_lifted (os : Os) (started : os.Started) (H : Type) (enc : TypeId × Value → H) :
    ReturnsInHanded {} Tryz.checked os 7 .any (Rows.totalsSpec.pre6 enc Tryz.prog Tryz.f7 Rows.totalsRow.domain false) (Rows.totalsSpec.post enc Tryz.prog Tryz.f7 false true false false) := by
  refine returnsInHanded_of_change_sized (C := Tryz.checked) Tryz.own started (by kernel_rfl) Tryz.func7
    (ChangeSpec.witness6 (enc := enc) (C := Tryz.checked) false ⟨#[], #[.string ⟨#[]⟩, .slice none 0 0], []⟩ 8 (by kernel_rfl) (by kernel_rfl) (by kernel_rfl) (by kernel_rfl)) ?_
  intro W base args ds gs before hval0 hW hcnd hsz _
  have hval : ∀ (j : Nat) t v, Tryz.f7.params[j]? = some t → args[j]? = some v → Value.okWide Tryz.prog W .any base t v := hval0
  have hW' := hW
  obtain ⟨p, q, hA0, hV, rfl, hfz, hnd⟩ := hW
  have hA : DataW.TrodAll enc Tryz.prog W 0 (fun _ => true) true Tryz.f7.params.toList args.toList ds p := hA0
  rw [Tryz.params7] at hA hval
  obtain ⟨v0, v1, d0, d1, p0, p1, rfl, rfl, rfl, h0, h1⟩ := trodAll_two hA
  obtain ⟨rfl, rfl⟩ := trodVars_none hV
  obtain ⟨s, rfl, rfl, rfl, hs⟩ := open_string Tryz.underlying9 (hval 0 9 v0 rfl rfl) h0
  obtain ⟨a0, len, cap, rfl⟩ := okWide_slice Tryz.underlying22 (hval 1 22 v1 rfl rfl)
  have h0k := h0
  have h1k := h1
  obtain ⟨fuel, hf⟩ := h1
  clear hA0 hval0
  simp only [List.append_nil] at hW'
  have hlt : ∀ x ∈ p1, x.block < W.heap.size := fun x hx => by
    have := hW'.lt x (by simp [hx])
    simpa using this
  have hw : ∀ n, n ∈ d1.weights Tryz.prog 22 → n ≤ reachBytes := fun n hn => by
    have hm : n ∈ DataW.weightsEach Tryz.prog (Tryz.f7.params.toList ++ Rows.totalsSpec.plain.varTypes Tryz.prog) ([.lit (.string s.data.toList), d1] ++ []) := DataW.weights_mem_each (j := 1) (t := 22) (d := d1) (by rw [Tryz.params7]; rfl) rfl n hn
    have := List.all_eq_true.1 hsz n hm
    simpa using this
  have fin : ∀ (e : Ending) (W' : World), e = .returned (.bool true) ∧ Below W.heap.size W W' → ∃ v, e = .returned v ∧ Rows.totalsSpec.post enc Tryz.checked.prog Tryz.f7 false true false false W #[.string s, .slice a0 len cap] v W' := by
    rintro e W' ⟨rfl, hb⟩
    refine ⟨_, rfl, ?_⟩
    refine ⟨_, _, _, [], _, [], hW', trodAll_mk1 (shut_bool Tryz.underlying4 true), trodAll_mk2 (Below.trod Tryz.laidOut (by kernel_rfl) (of_decide_eq_true (by kernel_rfl)) h0k hb (fun x hx => by cases hx)) (Below.trod Tryz.laidOut (by kernel_rfl) (of_decide_eq_true (by kernel_rfl)) h1k hb hlt), rfl, hb.frame _, fun h => by cases h⟩
  obtain ⟨Kd, Am, S, LV, L, hScr⟩ := script_reads (x := (d1, p1)) hf hw
  exact (Totals_any s hs a0 len cap Kd Am S LV L W hScr).mono fun e W' h => fin e W' h

theorem Totals_true : Rows.TotalsSaid :=
  OpenClaim.holds_of_wide 7 Tryz.f7 rfl rfl rfl rfl rfl rfl rfl ⟨rfl, rfl, rfl, rfl, rfl⟩ rfl rfl rfl rfl rfl (by kernel_rfl) Tryz.func7 (by kernel_rfl)
    (of_decide_eq_true (by kernel_rfl)) (by unfold Func.isWrapper; first | (rw [if_pos (by decide +kernel)]; kernel_rfl) | (rw [if_neg (by decide +kernel)]; exact ⟨rfl, rfl⟩))
    (fun os started H enc _ => Totals_lifted os started H enc)

end Go.Proofs.YtondkinefmjpjaaGreat
