import Derived.Test.YtondkinefmjpjaaGreatW49
import Derived.Test.YtondkinefmjpjaaGreatW51
/-
  Undo: the law's walk.
-/
namespace Go.Proofs.YtondkinefmjpjaaGreat
open Go.RowKit Go.WideMaps Go.WideElems Go.Maps Go.Shelf

/-- A script as it lies in memory, whole. -/
def ScrT (w : World) (va : Option Addr) (n : Nat) (Kd Am : Nat → Int) (S T : Nat → ByteArray) (LV : Nat → Value) (L : Nat → List Int) : Prop :=
  Scr w va n Kd Am S LV L ∧ ∀ b off, va = some ⟨b, off, none⟩ → ∀ i, i < n → w.cell? ⟨b, off + i * 5 + 3, none⟩ = some (.string (T i))
theorem enter25 : ∀ vs u, (callFunc 25 vs).run Tryz.prog u = .ok (.enter 25 vs) u := enters_of Tryz.func25 (by kernel_rfl) rfl
theorem undone_q {B : Nat} {w : World} {vb : Nat} {P : PlanD} {rb ib : List Nat} {wb : Nat} (hV : VAny B w vb P rb ib wb) (hT : ∀ r, r < P.rels.length → (P.rel r).2.1 ≤ 3) (hB : B ≤ w.heap.size) (kd am : Int) (S T : ByteArray) (la : Option Addr) (lc : Nat) (xs : List Int) (hr : Reads w (.slice la xs.length lc) xs) (hl : xs.length * 8 ≤ 140737488355328) :
    Calls Tryz.prog 25 #[.pointer (some ⟨vb, 0, none⟩), .agg #[.int .i64 kd, .int .i64 am, .string S, .string T, .slice la xs.length lc]] w fun e w' => e = .returned (.bool true) ∧ VAny B w' vb P rb ib wb ∧ Below B w w' ∧ ∀ p v, w.cell? p = some v → w'.cell? p = some v := by
  obtain ⟨R, g, own, h, ho⟩ := hV
  refine (undone_any h hT kd am S T la lc xs hr hl).mono ?_
  rintro e w1 ⟨rfl, g', own', h', hU⟩
  obtain ⟨u1, u2⟩ := hU.below hB ho
  exact ⟨rfl, ⟨R, g', own', h', u2⟩, u1, fun p v hc => hU.fr.cell (mps_ow h.W) hc⟩
theorem VAny.below {B : Nat} {w w' : World} {vb : Nat} {P : PlanD} {rb ib : List Nat} {wb : Nat} (h : VAny B w vb P rb ib wb) (hb : Below w.heap.size w w') : VAny B w' vb P rb ib wb := by
  obtain ⟨R, g, own, h, ho⟩ := h
  exact ⟨R, g, own, h.fr (fr_below hb), ho⟩
theorem Reads.keep {w w' : World} {v : Value} {xs : List Int} (h : Reads w v xs) (hc : ∀ p v, w.cell? p = some v → w'.cell? p = some v) : Reads w' v xs := by
  obtain ⟨a, cap, rfl, h2⟩ := h
  refine ⟨a, cap, rfl, fun hl => ?_⟩
  obtain ⟨g, off, rfl, h3⟩ := h2 hl
  exact ⟨g, off, rfl, fun j hj => hc _ _ (h3 j hj)⟩

set_option maxHeartbeats 8000000 in
set_option maxRecDepth 100000 in
theorem Undo_any (s : ByteArray) (hs : s.size ≤ maxLen) (va : Option Addr) (n cap : Nat) (Kd Am : Nat → Int) (S T : Nat → ByteArray) (LV : Nat → Value) (L : Nat → List Int) (w : World) (hS : ScrT w va n Kd Am S T LV L) :
    Calls Tryz.prog 5 #[.string s, .slice va n cap] w fun e w' => e = .returned (.bool true) ∧ Below w.heap.size w w' := by
  by_cases hE : K.pE s = 0
  · have hG := K.pE_G hE
    have C1 := started_ok s w hs hG
    have hT := K.plan_terms s
    obtain ⟨P, hP⟩ : ∃ P, K.planOf (K.rq s (K.c0 s)).2 = P := ⟨_, rfl⟩
    rw [hP] at C1 hT
    have HT : Hid _ := hT
    have HS : Hid _ := hS.1
    have HS3 : Hid _ := hS.2
    clear hP hT hS hE hG hs
    go_enter Tryz.func5, Tryz.ntmps5
    go_wp2_with fail
    refine C1.mono ?_
    rintro x w1 ⟨vb, q, rb, ib, wb, rfl, hV, hb1, hvb, hown⟩
    have hVA : VAny w.heap.size w1 vb P rb ib wb := ⟨_, _, _, hV, hown⟩
    clear hV hown C1
    go_wp2_with fail
    go_loopw [8, 9, 10] (fun kv _ _ wr => ∃ k : Nat, k ≤ n ∧ kv = .int .i64 k ∧ VAny w.heap.size wr vb P rb ib wb ∧ Below w.heap.size w wr) (fun kv _ _ _ => n - (intOf kv).toNat)
    case atStart => exact ⟨0, Nat.zero_le _, rfl, hVA, hb1⟩
    case round =>
      clear hVA hb1
      obtain ⟨k, hk, rfl, hVA, hb⟩ := hrel
      by_cases hgo : k < n ∧ (k : Int) < 1152921504606846976
      · obtain ⟨hlt, hbig⟩ := hgo
        obtain ⟨b, off, la, lc, rfl, c0, c1, c2, c4, hr, hl⟩ := Scr.at HS.out hb hlt
        have c3 : wr.cell? ⟨b, off + k * 5 + 3, none⟩ = some (.string (T k)) := by
          have c3 := HS3.out b off rfl k hlt
          exact (hb.cell (World.block_lt_of_cell? _ _ c3)).trans c3
        have lb := World.block_lt_of_cell? _ _ c0
        have hk' : (k : Int) < (n : Int) := by omega
        cases hk1 : (Kd k == 2)
        · have hba : Below wr.heap.size wr (wr.alloc (.cells #[.int .i64 (Kd k), .int .i64 (Am k), .string (S k), .string (T k), .slice la (L k).length lc] 30)) := (Below.refl _ _).alloc (Nat.le_refl _) _
          have hV0 := hVA.below hba
          have hb0 := hb.trans (hba.mono hb.size)
          go_wp2_with fail
          go_roundw
          case rel => exact ⟨k + 1, by omega, by go_num, hV0, hb0⟩
          case measure => simp [intOf]; omega
        · have hba : Below wr.heap.size wr (wr.alloc (.cells #[.int .i64 (Kd k), .int .i64 (Am k), .string (S k), .string (T k), .slice la (L k).length lc] 30)) := (Below.refl _ _).alloc (Nat.le_refl _) _
          have hV0 := hVA.below hba
          have hb0 : Below w.heap.size w (wr.alloc (.cells #[.int .i64 (Kd k), .int .i64 (Am k), .string (S k), .string (T k), .slice la (L k).length lc] 30)) := hb.trans (hba.mono hb.size)
          have UN := undone_q hV0 HT.out hb0.size (Kd k) (Am k) (S k) (T k) la lc (L k) (Reads.below hr hba) hl
          have hr0 := Reads.below hr hba
          have HR0 : Hid _ := hr0
          have HB0 : Hid _ := hb0
          have d1 : (wr.alloc (.cells #[.int .i64 (Kd k), .int .i64 (Am k), .string (S k), .string (T k), .slice la (L k).length lc] 30)).cell? ⟨wr.heap.size, 1, none⟩ = some (.int .i64 (Am k)) := by simp
          have d2 : (wr.alloc (.cells #[.int .i64 (Kd k), .int .i64 (Am k), .string (S k), .string (T k), .slice la (L k).length lc] 30)).cell? ⟨wr.heap.size, 2, none⟩ = some (.string (S k)) := by simp
          have d4 : (wr.alloc (.cells #[.int .i64 (Kd k), .int .i64 (Am k), .string (S k), .string (T k), .slice la (L k).length lc] 30)).cell? ⟨wr.heap.size, 4, none⟩ = some (.slice la (L k).length lc) := by simp
          clear hr hba hV0 hb0 hr0 hVA
          go_wp2_with fail
          refine UN.mono ?_
          rintro x w2 ⟨rfl, hV2, hb2, hc2⟩
          have e1 := hc2 _ _ d1
          have e2 := hc2 _ _ d2
          have e4 := hc2 _ _ d4
          have hr2 := Reads.keep HR0.out hc2
          have HB2 : Hid (Below w.heap.size w w2) := HB0.out.trans hb2
          have HCP := copied_q _ (L k) w2 wr.heap.size 0 (S k) (Am k) hr2 hl e1 e2
          have HUP : Hid (∀ (u : World) (v : Value), Below w2.heap.size w2 u → Reads u v (L k) → Calls Tryz.prog 16 #[.pointer (some ⟨vb, 0, none⟩), .string (S k), .int .i64 (Am k), v] u fun e w' => ∃ v, e = .returned v ∧ UqS w.heap.size u vb P rb ib wb v w') :=
            fun u v hu hru => update_q (hV2.below hu) HT.out (Nat.le_trans HB2.out.size hu.size) (S k) (Am k) hru hl
          obtain ⟨NL, hNL⟩ : ∃ x, (L k).length = x := ⟨_, rfl⟩
          have HCC : Hid _ := HCP
          rw [hNL] at e4
          have HNL : Hid _ := hNL
          rw [hNL] at HCC
          clear hNL HCP hr2 hV2 UN d1 d2 d4 hc2 hb2
          go_upto_region 12 with fail
          go_region_law (first | (refine step_call rfl 17 #[.tmp 55] #[28] rfl enter17 #[.slice la NL lc] (by kernel_rfl) _ HCC.out ?_; rintro v1 w3 ⟨a1, p1, rfl, r1, b1, f1, f2⟩; rw [HNL.out]; have HR1 : Hid _ := r1) | (refine step_call rfl 16 #[.tmp 49, .tmp 51, .tmp 53, .tmp 56] #[23, 9, 3, 28] rfl enter16 #[.pointer (some ⟨vb, 0, none⟩), .string (S k), .int .i64 (Am k), .slice a1 NL p1] (by kernel_rfl) _ (HUP.out w3 (.slice a1 NL p1) b1 (by rw [← HNL.out]; exact HR1.out)) ?_; rintro v3 w4 ⟨hV3, hb3⟩))
          all_goals go_wp2_with fail
          all_goals go_roundw
          all_goals first
            | (simp [intOf]; omega)
            | exact ⟨k + 1, by omega, by go_num, hV3, (HB2.out.trans (b1.mono HB2.out.size)).trans hb3⟩
      · have hex : ¬ k < n ∨ (k < n ∧ ¬ (k : Int) < 1152921504606846976) := by omega
        clear hgo hVA
        rcases hex with hx1 | ⟨hx1, hx2⟩
        all_goals
          go_wp2_with (go_at_call 15; refine (alive_any _).mono ?_; rintro x w4 ⟨rfl, hb4⟩)
          go_ret
          exact ⟨rfl, hb.trans (hb4.mono hb.size)⟩
  · have C1 := started_no s w hs hE
    clear hS hE
    go_enter Tryz.func5, Tryz.ntmps5
    go_wp2_with fail
    refine C1.mono ?_
    rintro x w1 ⟨rfl, hb1⟩
    go_wp2_with (go_at_call 15; refine (alive_any _).mono ?_; rintro x w2 ⟨rfl, hb2⟩)
    go_ret
    exact ⟨rfl, hb1.trans (hb2.mono hb1.size)⟩

end Go.Proofs.YtondkinefmjpjaaGreat
/-
  A script that was handed in, whole.
-/
namespace Go.Proofs.YtondkinefmjpjaaGreat
open Go.ChangeShapes Go.WideShapes Go.ChangeAt Go.RowKit Go.Deep

set_option maxRecDepth 100000 in
/-- One step of a script. -/
theorem op_readsT {H : Type} {enc : TypeId × Value → H} {w : World} {n : Nat} {a : Addr} {cs : List Value} {x : DataW H × List MemPlace} (hc : w.cells? 0 a 5 = some cs) (h : DataW.trod enc Tryz.prog w 0 (fun _ => true) true n 30 cs = some x) :
    ∃ q : Int × Int × ByteArray × ByteArray × Value × List Int, w.cell? a = some (.int .i64 q.1) ∧ w.cell? (a.add 1) = some (.int .i64 q.2.1) ∧ w.cell? (a.add 2) = some (.string q.2.2.1) ∧ w.cell? (a.add 3) = some (.string q.2.2.2.1) ∧ w.cell? (a.add 4) = some q.2.2.2.2.1 ∧ Reads w q.2.2.2.2.1 q.2.2.2.2.2 ∧ (q.2.2.2.2.2 = [] ∨ ∃ N, q.2.2.2.2.2.length ≤ N ∧ N * 8 ∈ x.1.weights Tryz.prog 30) := by
  obtain ⟨_, hlen, hcell⟩ := World.cells?_some hc
  obtain ⟨xs, m, _, hx, _, hxl, hf⟩ := DataW.trod_struct Tryz.underlying30 h
  match xs, hxl, cs, hlen with
  | [y0, y1, y2, y3, y4], _, [v0, v1, v2, v3, v4], _ =>
    have g0 := hf 0 _ rfl
    have g1 := hf 1 _ rfl
    have g2 := hf 2 _ rfl
    have g3 := hf 3 _ rfl
    have g4 := hf 4 _ rfl
    simp [Tryz.cells3, Tryz.cells9, Tryz.cells28] at g0 g1 g2 g3 g4
    obtain ⟨k, e0, _, _⟩ := DataW.trod_int Tryz.underlying3 g0
    obtain ⟨am, e1, _, _⟩ := DataW.trod_int Tryz.underlying3 g1
    obtain ⟨s, e2, _, hs⟩ := DataW.trod_string Tryz.underlying9 g2
    obtain ⟨s3, e3, _, _⟩ := DataW.trod_string Tryz.underlying9 g3
    obtain ⟨L, hL, hN⟩ := ints_read g4
    have c0 := hcell 0 (by omega)
    have c1 := hcell 1 (by omega)
    have c2 := hcell 2 (by omega)
    have c3 := hcell 3 (by omega)
    have c4 := hcell 4 (by omega)
    simp at e0 e1 e2 e3 c0 c1 c2 c3 c4
    subst e0 e1 e2 e3
    refine ⟨(k, am, s, s3, v4, L), by simpa [Addr.add] using c0, c1, c2, c3, c4, hL, ?_⟩
    rcases hN with e | ⟨N, hN1, hN2⟩
    · exact Or.inl e
    · refine Or.inr ⟨N, hN1, ?_⟩
      rw [hx]
      simp only [DataW.weights, Tryz.underlying30]
      exact DataW.weights_mem_each (j := 4) (t := 28) (d := y4.1) rfl rfl _ hN2
/-- A script that was handed in. -/
theorem script_readsT {H : Type} {enc : TypeId × Value → H} {W : World} {fuel : Nat} {a0 : Option Addr} {len cap : Nat} {x : DataW H × List MemPlace} (hf : DataW.trod enc Tryz.prog W 0 (fun _ => true) true fuel 22 [.slice a0 len cap] = some x) (hw : ∀ n, n ∈ x.1.weights Tryz.prog 22 → n ≤ reachBytes) :
    ∃ Kd Am S T LV L, ScrT W a0 len Kd Am S T LV L := by
  rcases open_slice Tryz.underlying22 hf with ⟨hcs, _⟩ | ⟨a, len', cap', m, n, D, Pl, hcs, _, hl, hm, hmm, hx, hel⟩
  · obtain ⟨rfl, rfl, rfl⟩ : a0 = none ∧ len = 0 ∧ cap = 0 := by simpa using hcs
    exact ⟨fun _ => 0, fun _ => 0, fun _ => ByteArray.empty, fun _ => ByteArray.empty, fun _ => .slice none 0 0, fun _ => [], fun h => absurd h (by decide), fun _ _ h => by cases h⟩
  · obtain ⟨rfl, rfl, rfl⟩ : a0 = some a ∧ len = len' ∧ cap = cap' := by simpa using hcs
    simp only [if_true] at hmm
    have each : ∀ i, i < len → ∃ q : Int × Int × ByteArray × ByteArray × Value × List Int, W.cell? (a.add (i * 5)) = some (.int .i64 q.1) ∧ W.cell? ((a.add (i * 5)).add 1) = some (.int .i64 q.2.1) ∧ W.cell? ((a.add (i * 5)).add 2) = some (.string q.2.2.1) ∧ W.cell? ((a.add (i * 5)).add 3) = some (.string q.2.2.2.1) ∧ W.cell? ((a.add (i * 5)).add 4) = some q.2.2.2.2.1 ∧ Reads W q.2.2.2.2.1 q.2.2.2.2.2 ∧ q.2.2.2.2.2.length * 8 ≤ 140737488355328 := by
      intro i hi
      obtain ⟨cs', g1, g2⟩ := hel i (by omega)
      rw [Tryz.cells30] at g1
      obtain ⟨q, e0, e1, e2, e3, e4, hr, hN⟩ := op_readsT g1 g2
      refine ⟨q, e0, e1, e2, e3, e4, hr, ?_⟩
      rcases hN with e | ⟨N, h1, h2⟩
      · rw [e]; simp
      · have hin : N * 8 ∈ x.1.weights Tryz.prog 22 := by
          rw [hx]
          simp only [DataW.weights, Tryz.underlying22]
          refine List.mem_cons_of_mem _ (List.mem_append_left _ (weightsAll_mem (d := D i) (List.mem_map.2 ⟨i, List.mem_range.2 hi, rfl⟩) h2))
        have := hw _ hin
        have hr47 := reachBytes_lt
        omega
    haveI : Inhabited (Int × Int × ByteArray × ByteArray × Value × List Int) := ⟨(0, 0, ByteArray.empty, ByteArray.empty, .slice none 0 0, [])⟩
    obtain ⟨f, hfn⟩ := choose_lt each
    refine ⟨fun i => (f i).1, fun i => (f i).2.1, fun i => (f i).2.2.1, fun i => (f i).2.2.2.1, fun i => (f i).2.2.2.2.1, fun i => (f i).2.2.2.2.2, fun h0 => ?_, fun b off e i hi => ?_⟩
    · obtain ⟨b, off, spot⟩ := a
      have hspot : spot = none := by simpa [Addr.add] using World.cell?_spot (hfn 0 h0).1
      subst hspot
      refine ⟨b, off, rfl, fun i hi => ?_⟩
      have := hfn i hi
      simp only [add_plain] at this
      exact ⟨this.1, this.2.1, this.2.2.1, this.2.2.2.2⟩
    · have := (hfn i hi).2.2.2.1
      simp only [Option.some.injEq] at e
      rw [e] at this
      simp only [add_plain] at this
      exact this

end Go.Proofs.YtondkinefmjpjaaGreat
namespace Go.Proofs.YtondkinefmjpjaaGreat
open Go.ChangeShapes Go.WideShapes Go.ChangeAt Go.RowKit Go.Deep Go.ChangeMaps

set_option maxRecDepth 100000 in
theorem Undo_lifted (os : Os) (started : os.Started) (H : Type) (enc : TypeId × Value → H) :
    ReturnsInHanded {} Tryz.checked os 5 .any (Rows.undoSpec.pre6 enc Tryz.prog Tryz.f5 Rows.undoRow.domain false) (Rows.undoSpec.post enc Tryz.prog Tryz.f5 false true false false) := by
  refine returnsInHanded_of_change_sized (C := Tryz.checked) Tryz.own started (by kernel_rfl) Tryz.func5
    (ChangeSpec.witness6 (enc := enc) (C := Tryz.checked) false ⟨#[], #[.string ⟨#[]⟩, .slice none 0 0], []⟩ 8 (by kernel_rfl) (by kernel_rfl) (by kernel_rfl) (by kernel_rfl)) ?_
  intro W base args ds gs before hval0 hW hcnd hsz _
  have hval : ∀ (j : Nat) t v, Tryz.f5.params[j]? = some t → args[j]? = some v → Value.okWide Tryz.prog W .any base t v := hval0
  have hW' := hW
  obtain ⟨p, q, hA0, hV, rfl, hfz, hnd⟩ := hW
  have hA : DataW.TrodAll enc Tryz.prog W 0 (fun _ => true) true Tryz.f5.params.toList args.toList ds p := hA0
  rw [Tryz.params5] at hA hval
  obtain ⟨v0, v1, d0, d1, p0, p1, rfl, rfl, rfl, h0, h1⟩ := trodAll_two hA
  obtain ⟨rfl, rfl⟩ := trodVars_none hV
  obtain ⟨s, rfl, rfl, rfl, hs⟩ := open_string Tryz.underlying9 (hval 0 9 v0 rfl rfl) h0
  obtain ⟨a0, len, cap, rfl⟩ := okWide_slice Tryz.underlying22 (hval 1 22 v1 rfl rfl)
  have h0k := h0
  have h1k := h1
  obtain ⟨fuel, hf⟩ := h1
  clear hA0 hval0
  simp only [List.append_nil] at hW'
  have hlt : ∀ x ∈ p1, x.block < W.heap.size := fun x hx => by
    have := hW'.lt x (by simp [hx])
    simpa using this
  have hw : ∀ n, n ∈ d1.weights Tryz.prog 22 → n ≤ reachBytes := fun n hn => by
    have hm : n ∈ DataW.weightsEach Tryz.prog (Tryz.f5.params.toList ++ Rows.undoSpec.plain.varTypes Tryz.prog) ([.lit (.string s.data.toList), d1] ++ []) := DataW.weights_mem_each (j := 1) (t := 22) (d := d1) (by rw [Tryz.params5]; rfl) rfl n hn
    have := List.all_eq_true.1 hsz n hm
    simpa using this
  have fin : ∀ (e : Ending) (W' : World), e = .returned (.bool true) ∧ Below W.heap.size W W' → ∃ v, e = .returned v ∧ Rows.undoSpec.post enc Tryz.checked.prog Tryz.f5 false true false false W #[.string s, .slice a0 len cap] v W' := by
    rintro e W' ⟨rfl, hb⟩
    refine ⟨_, rfl, ?_⟩
    refine ⟨_, _, _, [], _, [], hW', trodAll_mk1 (shut_bool Tryz.underlying4 true), trodAll_mk2 (Below.trod Tryz.laidOut (by kernel_rfl) (of_decide_eq_true (by kernel_rfl)) h0k hb (fun x hx => by cases hx)) (Below.trod Tryz.laidOut (by kernel_rfl) (of_decide_eq_true (by kernel_rfl)) h1k hb hlt), rfl, hb.frame _, fun h => by cases h⟩
  obtain ⟨Kd, Am, S, T, LV, L, hScr⟩ := script_readsT (x := (d1, p1)) hf hw
  exact (Undo_any s hs a0 len cap Kd Am S T LV L W hScr).mono fun e W' h => fin e W' h

theorem Undo_true : Rows.UndoSaid :=
  OpenClaim.holds_of_wide 5 Tryz.f5 rfl rfl rfl rfl rfl rfl rfl ⟨rfl, rfl, rfl, rfl, rfl⟩ rfl rfl rfl rfl rfl (by kernel_rfl) Tryz.func5 (by kernel_rfl)
    (of_decide_eq_true (by kernel_rfl)) (by unfold Func.isWrapper; first | (rw [if_pos (by decide +kernel)]; kernel_rfl) | (rw [if_neg (by decide +kernel)]; exact ⟨rfl, rfl⟩))
    (fun os started H enc _ => Undo_lifted os started H enc)

end Go.Proofs.YtondkinefmjpjaaGreat
