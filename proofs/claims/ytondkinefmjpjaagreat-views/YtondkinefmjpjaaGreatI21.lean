import Derived.Deep.RegionWith
import Derived.Test.YtondkinefmjpjaaGreatI20
set_option maxHeartbeats 4000000
set_option maxRecDepth 100000
namespace Go.Proofs.YtondkinefmjpjaaGreat
open Go.RowKit
def tmcells (p:List (Bool × Int)):List Value:=p.flatMap fun t => [.bool t.1,.int .i64 t.2]
theorem tmcells_at (p:List (Bool × Int)) (k:Nat) (hk:k < p.length):(tmcells p)[k * 2]? = some (.bool p[k].1) /\ (tmcells p)[k * 2 + 1]? = some (.int .i64 p[k].2):=by
 induction p generalizing k with
 | nil => simp at hk
 | cons d p ih =>
  cases k with
  | zero => simp [tmcells]
  | succ k =>
   have:=ih k (by simpa using hk)
   have e:tmcells (d :: p) = [.bool d.1,.int .i64 d.2] ++ tmcells p:=by simp [tmcells]
   rw [e]
   have e0:(k + 1) * 2 = k * 2 + 2:=by omega
   rw [e0,List.getElem?_append_right (by simp),List.getElem?_append_right (by simp)]
   simpa using this
def mvK (p:List (Bool × Int)) (row:List Int):Nat -> List Int
 | 0 => zeros6
 | k + 1 => if (p.getD k (false,0)).1 then (mvK p row k).set (p.getD k (false,0)).2.toNat (row.getD k 0) else mvK p row k
theorem mvK_len (p:List (Bool × Int)) (row:List Int) (k:Nat):(mvK p row k).length = 6:=by
 induction k with
 | zero => rfl
 | succ k ih => rw [mvK];split <;> simp [ih]
def mOk (p:List (Bool × Int)) (row:List Int):Bool:=(List.range p.length).all fun i => tW (p.getD i (false,0)).1 (p.getD i (false,0)).2 (mvK p row p.length) == row.getD i 0
def mVars (p:List (Bool × Int)) (row:List Int):List Int:=if mOk p row then mvK p row p.length else zeros6
theorem three (a:List Int) (h:a.length = 3):∃ a0 a1 a2,a = [a0,a1,a2]:=by
 match a,h with
 | [a0,a1,a2],_ => exact ⟨a0,a1,a2,rfl⟩
theorem match_any (base : Nat) (p : List (Bool × Int)) (pv : Value) (row : List Int) (w : World) (hp : w.ownsRow base 205 2 pv p.length (tmcells p)) (hl : p.length ≤ 3) (hr : row.length = 3) (hn : ∀ t, t ∈ p → t.1 = true → 0 ≤ t.2 ∧ t.2 < 6) :
    Calls Tryz.prog 75 #[pv, .agg (i64s row).toArray] w fun e w' => e = .returned (.tuple #[.agg (i64s (mVars p row)).toArray, .bool (mOk p row)]) ∧ Below w.heap.size w w' := by
  obtain ⟨pa, pcap, rfl⟩ := vown_form hp
  obtain ⟨r0, r1, r2, hre⟩ := three row hr
  have hR : (i64s row).toArray = #[.int .i64 r0, .int .i64 r1, .int .i64 r2] := by rw [hre]; rfl
  obtain ⟨m0, m1, m2, m3, m4, m5, hm⟩ := six (mVars p row) (by unfold mVars; split; exact mvK_len _ _ _; rfl)
  have HM : Hid (mVars p row = [m0, m1, m2, m3, m4, m5]) := hm
  obtain ⟨OK, hOK⟩ : ∃ b, mOk p row = b := ⟨_, rfl⟩
  have HOK : Hid (mOk p row = OK) := hOK
  have HN : Hid (∀ t, t ∈ p → t.1 = true → 0 ≤ t.2 ∧ t.2 < 6) := hn
  have HR : Hid ((i64s row).toArray = #[.int .i64 r0, .int .i64 r1, .int .i64 r2]) := hR
  rw [hm, hOK, hR, show (i64s [m0, m1, m2, m3, m4, m5]).toArray = #[.int .i64 m0, .int .i64 m1, .int .i64 m2, .int .i64 m3, .int .i64 m4, .int .i64 m5] from rfl]
  clear hm hOK hR hn hre
  go_enter Tryz.func75, Tryz.ntmps75
  go_wp2_with fail
  have bz0 : (((w.alloc (.cells #[.int .i64 r0, .int .i64 r1, .int .i64 r2] 110)).alloc (.cells #[.int .i64 0, .int .i64 0, .int .i64 0, .int .i64 0, .int .i64 0, .int .i64 0] 93)).alloc (.cells #[.int .i64 0, .int .i64 0, .int .i64 0, .int .i64 0, .int .i64 0, .int .i64 0] 93)).heap[w.heap.size]? = some (.cells (i64s row).toArray 110 (0, 0)) := by
    rw [HR.out]; exact (Below.heap_alloc _ _ _ (by simp; omega)).trans ((Below.heap_alloc _ _ _ (by simp)).trans (vheap_alloc_new _ _))
  have bz1 : (((w.alloc (.cells #[.int .i64 r0, .int .i64 r1, .int .i64 r2] 110)).alloc (.cells #[.int .i64 0, .int .i64 0, .int .i64 0, .int .i64 0, .int .i64 0, .int .i64 0] 93)).alloc (.cells #[.int .i64 0, .int .i64 0, .int .i64 0, .int .i64 0, .int .i64 0, .int .i64 0] 93)).heap[w.heap.size + 1]? = some (.cells (i64s zeros6).toArray 93 (0, 0)) := by
    show _ = some (Obj.cells #[.int .i64 0, .int .i64 0, .int .i64 0, .int .i64 0, .int .i64 0, .int .i64 0] 93 (0, 0))
    refine (Below.heap_alloc _ _ _ (by simp)).trans ?_
    have := vheap_alloc_new (w.alloc (.cells #[.int .i64 r0, .int .i64 r1, .int .i64 r2] 110)) (.cells #[.int .i64 0, .int .i64 0, .int .i64 0, .int .i64 0, .int .i64 0, .int .i64 0] 93)
    simpa using this
  have bz2 : (((w.alloc (.cells #[.int .i64 r0, .int .i64 r1, .int .i64 r2] 110)).alloc (.cells #[.int .i64 0, .int .i64 0, .int .i64 0, .int .i64 0, .int .i64 0, .int .i64 0] 93)).alloc (.cells #[.int .i64 0, .int .i64 0, .int .i64 0, .int .i64 0, .int .i64 0, .int .i64 0] 93)).heap[w.heap.size + 2]? = some (.cells (i64s (mvK p row 0)).toArray 93 (0, 0)) := by
    show _ = some (Obj.cells #[.int .i64 0, .int .i64 0, .int .i64 0, .int .i64 0, .int .i64 0, .int .i64 0] 93 (0, 0))
    have := vheap_alloc_new ((w.alloc (.cells #[.int .i64 r0, .int .i64 r1, .int .i64 r2] 110)).alloc (.cells #[.int .i64 0, .int .i64 0, .int .i64 0, .int .i64 0, .int .i64 0, .int .i64 0] 93)) (.cells #[.int .i64 0, .int .i64 0, .int .i64 0, .int .i64 0, .int .i64 0, .int .i64 0] 93)
    simpa using this
  go_loopw [7, 8, 13] (fun _ _ iv wr => ∃ k : Nat, k ≤ p.length ∧ iv = .int .i64 k ∧ Below w.heap.size w wr ∧ wr.heap[w.heap.size]? = some (.cells (i64s row).toArray 110 (0, 0)) ∧ wr.heap[w.heap.size + 1]? = some (.cells (i64s zeros6).toArray 93 (0, 0)) ∧ wr.heap[w.heap.size + 2]? = some (.cells (i64s (mvK p row k)).toArray 93 (0, 0))) (fun _ _ iv _ => p.length - (intOf iv).toNat)
  case atStart => exact ⟨0, Nat.zero_le _, rfl, (((Below.refl _ _).alloc (Nat.le_refl _) _).alloc (by simp) _).alloc (by simp; omega) _, bz0, bz1, bz2⟩
  case round =>
    clear bz0 bz1 bz2
    obtain ⟨k, hk, rfl, hb, b0, b1, b2⟩ := hrel
    have l2 : w.heap.size + 2 < wr.heap.size := vlt_of_block b2
    have l0 : w.heap.size < wr.heap.size := by omega
    have l1 : w.heap.size + 1 < wr.heap.size := by omega
    have hpr := vown_below hp hb
    by_cases hlt : k < p.length
    · obtain ⟨g, cap', he⟩ := vown_some hpr (by omega)
      simp only [Value.slice.injEq, true_and] at he
      obtain ⟨rfl, rfl⟩ := he
      obtain ⟨y0, y1⟩ := tmcells_at p k hlt
      have t0 := (hpr.cellAt (k * 2) (by omega)).trans y0
      have t1 := (hpr.cellAt (k * 2 + 1) (by omega)).trans y1
      have lg : g < wr.heap.size := (hpr.lt g rfl).2
      have c0 := blk_cell b0 k (by omega)
      have HST : Hid (mvK p row (k + 1) = if (p.getD k (false, 0)).1 then (mvK p row k).set (p.getD k (false, 0)).2.toNat (row.getD k 0) else mvK p row k) := rfl
      have HPN := HN.out p[k] (List.getElem_mem hlt)
      have HPG : p.getD k (false, 0) = p[k] := by simp [List.getD, hlt]
      rw [HPG] at HST
      obtain ⟨⟨V, Nn⟩, hPK⟩ : ∃ t, p[k] = t := ⟨_, rfl⟩
      rw [hPK] at t0 t1 HST HPN
      obtain ⟨RK, hRK⟩ : ∃ x, row.getD k 0 = x := ⟨_, rfl⟩
      rw [hRK] at c0 HST
      clear y0 y1 hPK hRK HPG
      simp only at t0 t1 HPN
      have bk : (k : Int) < (p.length : Int) := by omega
      have bk3 : (k : Int) < 3 := by omega
      cases V
      · have HS0 : Hid (mvK p row (k + 1) = mvK p row k) := HST.out
        clear HPN
        go_wp2_with fail
        go_roundw
        case rel => exact ⟨k + 1, by omega, by go_num, hb.alloc (by omega) _, (Below.heap_alloc _ _ _ (by omega)).trans b0, (Below.heap_alloc _ _ _ (by omega)).trans b1, by rw [HS0.out]; exact (Below.heap_alloc _ _ _ (by omega)).trans b2⟩
        case measure => simp [intOf]; omega
      · obtain ⟨n0, n6⟩ := HPN rfl
        obtain ⟨N, rfl⟩ : ∃ N : Nat, Nn = N := ⟨Nn.toNat, by omega⟩
        have HS0 : Hid (mvK p row (k + 1) = (mvK p row k).set N RK) := by have := HST.out; simpa [Hid] using this
        have c2 := blk_cell b2 N (by rw [mvK_len]; omega)
        have f2 := blk_free b2 N
        clear HPN
        go_wp2_with fail
        go_region
        all_goals go_wp2
        all_goals go_roundw
        all_goals first
          | (simp [intOf]; omega)
          | (refine ⟨k + 1, by omega, by go_num, ?_, ?_, ?_, ?_⟩
             · exact Below.drew ((hb.setCell (p := ⟨w.heap.size + 1 + 1, N, none⟩) (by simp; omega) _).alloc (by simp [World.setCell]; omega) _)
             · refine (Below.heap_alloc _ _ _ (by simp [World.setCell]; omega)).trans ?_
               rw [Below.heap_setCell _ _ _ _ (by show w.heap.size ≠ w.heap.size + 1 + 1; omega)]; exact b0
             · refine (Below.heap_alloc _ _ _ (by simp [World.setCell]; omega)).trans ?_
               rw [Below.heap_setCell _ _ _ _ (by show w.heap.size + 1 ≠ w.heap.size + 1 + 1; omega)]; exact b1
             · refine (Below.heap_alloc _ _ _ (by simp [World.setCell]; omega)).trans ?_
               rw [HS0.out]
               refine (blk_setCell b2 N _).trans ?_
               simp [i64s, List.map_set])
    · have hkk : k = p.length := by omega
      subst hkk
      obtain ⟨x0, x1, x2, x3, x4, x5, hxe⟩ := six (mvK p row p.length) (mvK_len _ _ _)
      have HX : Hid (mvK p row p.length = [x0, x1, x2, x3, x4, x5]) := hxe
      rw [hxe] at b2
      clear hxe
      go_wp2_with fail
      go_loopw [9, 10, 29] (fun _ _ iv wr => ∃ k : Nat, k ≤ p.length ∧ iv = .int .i64 k ∧ Below w.heap.size w wr ∧ wr.heap[w.heap.size]? = some (.cells (i64s row).toArray 110 (0, 0)) ∧ wr.heap[w.heap.size + 1]? = some (.cells (i64s zeros6).toArray 93 (0, 0)) ∧ wr.heap[w.heap.size + 2]? = some (.cells (i64s [x0, x1, x2, x3, x4, x5]).toArray 93 (0, 0)) ∧
        ∀ i, i < k → (tW (p.getD i (false, 0)).1 (p.getD i (false, 0)).2 (mvK p row p.length) == row.getD i 0) = true) (fun _ _ iv _ => p.length - (intOf iv).toNat)
      case atStart => exact ⟨0, Nat.zero_le _, rfl, hb, b0, b1, b2, fun _ h => absurd h (Nat.not_lt_zero _)⟩
      case round =>
        clear hb b0 b1 b2 l0 l1 l2 hpr hlt hk
        obtain ⟨k, hk, rfl, hb, b0, b1, b2, hall⟩ := hrel
        have HALL : Hid (∀ i, i < k → (tW (p.getD i (false, 0)).1 (p.getD i (false, 0)).2 (mvK p row p.length) == row.getD i 0) = true) := hall
        clear hall
        have l2 : w.heap.size + 2 < wr.heap.size := vlt_of_block b2
        have l0 : w.heap.size < wr.heap.size := by omega
        have l1 : w.heap.size + 1 < wr.heap.size := by omega
        have hpr := vown_below hp hb
        have z0 : wr.cell? ⟨w.heap.size + 1, 0, none⟩ = some (.int .i64 0) := by simp [World.cell?, b1, i64s, zeros6]
        have z1 : wr.cell? ⟨w.heap.size + 1, 1, none⟩ = some (.int .i64 0) := by simp [World.cell?, b1, i64s, zeros6]
        have z2 : wr.cell? ⟨w.heap.size + 1, 2, none⟩ = some (.int .i64 0) := by simp [World.cell?, b1, i64s, zeros6]
        have z3 : wr.cell? ⟨w.heap.size + 1, 3, none⟩ = some (.int .i64 0) := by simp [World.cell?, b1, i64s, zeros6]
        have z4 : wr.cell? ⟨w.heap.size + 1, 4, none⟩ = some (.int .i64 0) := by simp [World.cell?, b1, i64s, zeros6]
        have z5 : wr.cell? ⟨w.heap.size + 1, 5, none⟩ = some (.int .i64 0) := by simp [World.cell?, b1, i64s, zeros6]
        have d0 : wr.cell? ⟨w.heap.size + 2, 0, none⟩ = some (.int .i64 x0) := by simp [World.cell?, b2, i64s]
        have d1 : wr.cell? ⟨w.heap.size + 2, 1, none⟩ = some (.int .i64 x1) := by simp [World.cell?, b2, i64s]
        have d2 : wr.cell? ⟨w.heap.size + 2, 2, none⟩ = some (.int .i64 x2) := by simp [World.cell?, b2, i64s]
        have d3 : wr.cell? ⟨w.heap.size + 2, 3, none⟩ = some (.int .i64 x3) := by simp [World.cell?, b2, i64s]
        have d4 : wr.cell? ⟨w.heap.size + 2, 4, none⟩ = some (.int .i64 x4) := by simp [World.cell?, b2, i64s]
        have d5 : wr.cell? ⟨w.heap.size + 2, 5, none⟩ = some (.int .i64 x5) := by simp [World.cell?, b2, i64s]
        have g0 := blk_free b1 0
        have g1 := blk_free b1 1
        have g2 := blk_free b1 2
        have g3 := blk_free b1 3
        have g4 := blk_free b1 4
        have g5 := blk_free b1 5
        by_cases hlt : k < p.length
        · obtain ⟨g, cap', he⟩ := vown_some hpr (by omega)
          simp only [Value.slice.injEq, true_and] at he
          obtain ⟨rfl, rfl⟩ := he
          obtain ⟨y0, y1⟩ := tmcells_at p k hlt
          have t0 := (hpr.cellAt (k * 2) (by omega)).trans y0
          have t1 := (hpr.cellAt (k * 2 + 1) (by omega)).trans y1
          have lg : g < wr.heap.size := (hpr.lt g rfl).2
          have c0 := blk_cell b0 k (by omega)
          have hPN := HN.out p[k] (List.getElem_mem hlt)
          have HPG : Hid (p.getD k (false, 0) = p[k]) := by simp [Hid, List.getD, hlt]
          obtain ⟨⟨V, Nn⟩, hPK⟩ : ∃ t, p[k] = t := ⟨_, rfl⟩
          rw [hPK] at t0 t1 hPN HPG
          obtain ⟨RK, hRK⟩ : ∃ x, row.getD k 0 = x := ⟨_, rfl⟩
          have HRK : Hid (row.getD k 0 = RK) := hRK
          rw [hRK] at c0
          obtain ⟨T, hT⟩ : ∃ x, tW V Nn [x0, x1, x2, x3, x4, x5] = x := ⟨_, rfl⟩
          have HTT : Hid (tW V Nn [x0, x1, x2, x3, x4, x5] = T) := hT
          have HPN : Hid (V = true → 0 ≤ Nn ∧ Nn < 6) := hPN
          clear y0 y1 hPK hRK hT hPN
          simp only at t0 t1
          have HEQ : Hid ((tW (p.getD k (false, 0)).1 (p.getD k (false, 0)).2 (mvK p row p.length) == row.getD k 0) = (T == RK)) := by
            unfold Hid; rw [HPG.out, HX.out, HRK.out, HTT.out]
          have bk : (k : Int) < (p.length : Int) := by omega
          have bk3 : (k : Int) < 3 := by omega
          have HB0 : Hid _ := b0
          have HB1 : Hid _ := b1
          have HB2 : Hid _ := b2
          clear b0 b1 b2
          cases hx : (T != RK)
          · have HY : Hid ((T == RK) = true) := by have := bne_eq_false_iff_eq.1 hx; unfold Hid; simp [this]
            go_wp2_with fail
            go_region_with (go_at_call 110; refine (worth_any V Nn [x0, x1, x2, x3, x4, x5] _ rfl HPN.out).mono ?_; rintro e w2 ⟨rfl, hb2⟩; have hbw : Below wr.heap.size wr w2 := (Below.drew ((Below.refl _ _).alloc (Nat.le_refl _) _)).trans (hb2.mono (by simp)); have e0 := (hbw.cell (p := ⟨w.heap.size, k, none⟩) l0).trans c0; rw [HTT.out])
            all_goals go_wp2
            all_goals go_roundw
            all_goals first
              | (simp [intOf]; omega)
              | (refine ⟨k + 1, by omega, by go_num, hb.trans (hbw.mono hb.size), (hbw.block _ l0).trans HB0.out, (hbw.block _ l1).trans HB1.out, (hbw.block _ l2).trans HB2.out, fun i hi => ?_⟩
                 by_cases e : i = k
                 · subst e; rw [HEQ.out]; exact HY.out
                 · exact HALL.out i (by omega))
          · have HF : Hid (OK = false ∧ [m0, m1, m2, m3, m4, m5] = [0, 0, 0, 0, 0, 0]) := by
              have hn : mOk p row = false := by
                unfold mOk; rw [List.all_eq_false]
                refine ⟨k, List.mem_range.2 hlt, ?_⟩
                rw [HEQ.out]
                have := bne_iff_ne.1 hx
                simpa using this
              refine ⟨HOK.out.symm.trans hn, ?_⟩
              rw [← HM.out, mVars, if_neg (by simp [hn])]; rfl
            obtain ⟨hok, hme⟩ := HF.out
            simp only [List.cons.injEq, and_true] at hme
            obtain ⟨rfl, rfl, rfl, rfl, rfl, rfl⟩ := hme
            subst hok
            clear HF
            go_wp2_with fail
            go_region_with (go_at_call 110; refine (worth_any V Nn [x0, x1, x2, x3, x4, x5] _ rfl HPN.out).mono ?_; rintro e w2 ⟨rfl, hb2⟩; have hbw : Below wr.heap.size wr w2 := (Below.drew ((Below.refl _ _).alloc (Nat.le_refl _) _)).trans (hb2.mono (by simp)); have e0 := (hbw.cell (p := ⟨w.heap.size, k, none⟩) l0).trans c0; rw [HTT.out]; have q0 := (hbw.cell (p := ⟨w.heap.size + 1, 0, none⟩) l1).trans z0; have q1 := (hbw.cell (p := ⟨w.heap.size + 1, 1, none⟩) l1).trans z1; have q2 := (hbw.cell (p := ⟨w.heap.size + 1, 2, none⟩) l1).trans z2; have q3 := (hbw.cell (p := ⟨w.heap.size + 1, 3, none⟩) l1).trans z3; have q4 := (hbw.cell (p := ⟨w.heap.size + 1, 4, none⟩) l1).trans z4; have q5 := (hbw.cell (p := ⟨w.heap.size + 1, 5, none⟩) l1).trans z5; have i0 := (hbw.frozen (p := ⟨w.heap.size + 1, 0, none⟩) l1).trans g0; have i1 := (hbw.frozen (p := ⟨w.heap.size + 1, 1, none⟩) l1).trans g1; have i2 := (hbw.frozen (p := ⟨w.heap.size + 1, 2, none⟩) l1).trans g2; have i3 := (hbw.frozen (p := ⟨w.heap.size + 1, 3, none⟩) l1).trans g3; have i4 := (hbw.frozen (p := ⟨w.heap.size + 1, 4, none⟩) l1).trans g4; have i5 := (hbw.frozen (p := ⟨w.heap.size + 1, 5, none⟩) l1).trans g5)
            all_goals go_wp2
            all_goals
              refine bodyPost_ret (v := .tuple #[.agg #[.int .i64 0, .int .i64 0, .int .i64 0, .int .i64 0, .int .i64 0, .int .i64 0], .bool false]) (by simp [results, Tryz.results75, go_sem, q0, q1, q2, q3, q4, q5]) rfl ⟨rfl, ?_⟩
              repeat (refine Below.setCell ?_ (by simp) _)
              exact hb.trans (hbw.mono hb.size)
        · have HT : Hid (mOk p row = true) := by
            unfold Hid mOk; rw [List.all_eq_true]; intro i hi; exact HALL.out i (by have := List.mem_range.1 hi; omega)
          have HE : Hid (OK = true ∧ [m0, m1, m2, m3, m4, m5] = [x0, x1, x2, x3, x4, x5]) := by
            refine ⟨HOK.out.symm.trans HT.out, ?_⟩
            rw [← HM.out, ← HX.out, mVars, if_pos HT.out]
          obtain ⟨hok, hme⟩ := HE.out
          simp only [List.cons.injEq, and_true] at hme
          obtain ⟨rfl, rfl, rfl, rfl, rfl, rfl⟩ := hme
          subst hok
          clear b0 b1 b2 HE
          go_wp2_with fail
          refine bodyPost_ret (v := .tuple #[.agg #[.int .i64 m0, .int .i64 m1, .int .i64 m2, .int .i64 m3, .int .i64 m4, .int .i64 m5], .bool true]) (by simp [results, Tryz.results75, go_sem, z0, z1, z2, z3, z4, z5]) rfl ⟨rfl, ?_⟩
          repeat (refine Below.setCell ?_ (by simp) _)
          exact hb
end Go.Proofs.YtondkinefmjpjaaGreat
namespace Go.Proofs.YtondkinefmjpjaaGreat
open Go.RowKit Go.WideMaps Go.WideElems Go.Maps
theorem keyT (a:List Int) (ha:a.length = 3) (hw:wfA a):keyOf Tryz.prog 110 (.agg (i64s a).toArray) = some (klOf a):=by
 obtain ⟨a0,a1,a2,rfl⟩:=three a ha
 have w0:=hw a0 (by simp)
 have w1:=hw a1 (by simp)
 have w2:=hw a2 (by simp)
 have hkt:=arrT.keyType typesSize
 obtain ⟨m,hm⟩:=typesSize
 unfold keyOf
 simp only [arrT.hu]
 rw [if_pos (by simp [hkt,Value.formed,arrT.hu,arrT.size,i64s]),hm]
 unfold Program.keyLits
 simp only [arrT.hu,Value.cells]
 rw [if_pos (by rw [arrT.size];rfl),show List.range 3 = [0,1,2] from rfl]
 simp only [List.mapM_cons,List.mapM_nil]
 simp [arrT.one,Program.keyLits,Tryz.underlying3,w0,w1,w2,i64s,klOf]
theorem lawT:KeyLaw Tryz.prog 110:=arrT.law
abbrev CMapT (w:World) (b n:Nat) (D:DataW Unit):Prop:=w.ownsMap Tryz.prog 110 (plainElem Tryz.prog 3) b n D
theorem addT_core {w:World} {b n:Nat} {D:DataW Unit} {a:List Int} {c s:Int} (hown:CMapT w b n D) (hn:n < maxLen) (ha:a.length = 3) (hw:wfA a) (hc:D.atKey (klOf a) (i64d 0) = i64d c) (hwf:(Lit.int .i64 s).wf = true) :
  ∃ (st:Nat) (o1 o2:Obj),(Instr.mapEntry 130 (.map (some b)) (.agg (i64s a).toArray)).run Tryz.prog w = .ok (.tuple #[.int .i64 c,goInt st]) (ChangeMaps.setBlock w b o1) /\
   (Instr.lookup 130 (.map (some b)) (.agg (i64s a).toArray) false).run Tryz.prog w = .ok (.int .i64 c) w /\
   (Instr.lookup 130 (.map (some b)) (.agg (i64s a).toArray) false).run Tryz.prog (ChangeMaps.setBlock w b o1) = .ok (.int .i64 c) (ChangeMaps.setBlock w b o1) /\
   (Instr.entryStore 130 (.map (some b)) (goInt st) (.int .i64 s)).run Tryz.prog (ChangeMaps.setBlock w b o1) = .ok () (ChangeMaps.setBlock (ChangeMaps.setBlock w b o1) b o2) /\
   CMapT (ChangeMaps.setBlock (ChangeMaps.setBlock w b o1) b o2) b (n + 1) (D.put (klOf a) (i64d s)) /\ w.grownBy (ChangeMaps.setBlock (ChangeMaps.setBlock w b o1) b o2) (some b):=by
 have hkey:=keyT a ha hw
 obtain ⟨c',hl,hat,_⟩:=hown.lookup_int (Keyed.of_law lawT) Tryz.underlying130 Tryz.underlying3 (zero3 w) hkey
 have hcc:c' = c:=by
  have:=hat.symm.trans hc
  simpa [i64d] using this
 subst hcc
 obtain ⟨w',hu,hown',hg'⟩:=hown.update (Keyed.of_law lawT) Tryz.underlying130 hn (val:=.int .i64 s) (d:=i64d s) (ps:=[]) hkey (plainElem_int Tryz.underlying3 hwf)
 have hlt:=hown.lt
 obtain ⟨es,clock,hb,F,hs,hD⟩:=hown
 obtain ⟨v0,st,o1,e1,e2,e3,e4⟩:=entry_mid lawT Tryz.underlying130 zero3 hb F hkey
 have hv:v0 = .int .i64 c':=by
  have:=e2.symm.trans hl
  simp only [Result.ok.injEq,and_true] at this
  exact this
 subst hv
 have h1:(ChangeMaps.setBlock w b o1).heap[b]? = some o1:=setB_same hlt o1
 obtain ⟨o2,s1,s2⟩:=e4 (ChangeMaps.setBlock w b o1) (.int .i64 s) h1
 have hw':w' = ChangeMaps.setBlock w b o2:=by
  have:=hu.symm.trans s2
  simp only [Result.ok.injEq,true_and] at this
  exact this
 subst hw'
 refine ⟨st,o1,o2,e1,hl,e3 _ h1,s1,?_,?_⟩
 ·obtain ⟨es',c2,hb',F',hs',hD'⟩:=hown'
  rw [setB_same hlt o2] at hb'
  exact ⟨es',c2,by rw [setB_same (by rw [setB_size];exact hlt) o2];exact hb',F',hs',hD'⟩
 ·refine ⟨rfl,rfl,rfl,by rw [setB_size,setB_size];exact Nat.le_refl _,fun i _ hi => ?_⟩
  have hne:i ≠ b:=fun e => hi (by rw [e])
  rw [setB_other o2 hne,setB_other o1 hne]
theorem addT_any (b n:Nat) (D:DataW Unit) (a:List Int) (c x:Int) (w:World) (hown:CMapT w b n D) (hn:n < maxLen) (ha:a.length = 3) (hw:wfA a) (hc:D.atKey (klOf a) (i64d 0) = i64d c)
  (s:Int) (hs:IntKind.i64.wrap (c + x) = s) :
  Calls Tryz.prog 74 #[.map (some b),.agg (i64s a).toArray,.int .i64 x] w fun e w' => e = .returned (.tuple #[]) /\ CMapT w' b (n + 1) (addD D (klOf a) s) /\ w.grownBy w' (some b):=by
 have hwf:(Lit.int .i64 s).wf = true:=by rw [← hs,IntKind.wrap_i64];exact WalkArith.wf_i64 (by omega)
 obtain ⟨R,hR⟩:∃ R,addD D (klOf a) s = R:=⟨_,rfl⟩
 have HR:Hid (addD D (klOf a) s = R):=hR
 rw [hR]
 clear hR
 have hlt:=hown.lt
 have hkey:=keyT a ha hw
 obtain ⟨a0,a1,a2,hae⟩:=three a ha
 have hA:(i64s a).toArray = #[.int .i64 a0,.int .i64 a1,.int .i64 a2]:=by rw [hae];rfl
 have hown0:CMapT (w.alloc (.cells #[.int .i64 a0,.int .i64 a1,.int .i64 a2] 110)).drew b n D:=(hown.alloc _).drew
 obtain ⟨st,o1,o2,e1,e2,e3,e4,hown2,hg2⟩:=addT_core (s:=s) hown0 hn ha hw hc hwf
 rw [hA] at e1 e2 e3 hkey ⊢
 have hg:w.grownBy (ChangeMaps.setBlock (ChangeMaps.setBlock (w.alloc (.cells #[.int .i64 a0,.int .i64 a1,.int .i64 a2] 110)).drew b o1) b o2) (some b) :=
  ⟨hg2.os,hg2.tape,hg2.output,Nat.le_trans (by simp) hg2.size,fun i hi hne => (hg2.block i (by simpa using Nat.lt_succ_of_lt hi) hne).trans (Below.heap_alloc _ _ _ hi)⟩
 have HK:Hid (keyOf Tryz.prog 110 (.agg #[.int .i64 a0,.int .i64 a1,.int .i64 a2]) = some (klOf a)):=hkey
 have hbx:(ChangeMaps.setBlock (ChangeMaps.setBlock (w.alloc (.cells #[.int .i64 a0,.int .i64 a1,.int .i64 a2] 110)).drew b o1) b o2).heap[w.heap.size]? = some (.cells #[.int .i64 a0,.int .i64 a1,.int .i64 a2] 110 (0,0)):=by
  rw [setB_other o2 (by omega),setB_other o1 (by omega)];exact vheap_alloc_new w (.cells #[.int .i64 a0,.int .i64 a1,.int .i64 a2] 110)
 have hat2:(D.put (klOf a) (i64d s)).atKey (klOf a) (i64d 0) = i64d s:=by
  refine atKey_put_same ?_ ?_ _ _
  ·obtain ⟨es,_,_,_,_,hD⟩:=hown;exact ⟨_,hD⟩
  ·exact (Keyed.of_law lawT).key hkey
 obtain ⟨c2,hl2,hat3,_⟩:=hown2.lookup_int (Keyed.of_law lawT) Tryz.underlying130 Tryz.underlying3 (zero3 _) hkey
 have hc2:c2 = s:=by
  have:=hat3.symm.trans hat2
  simpa [i64d] using this
 rw [hc2] at hl2
 obtain ⟨W2,hW2⟩:∃ W2:World,ChangeMaps.setBlock (ChangeMaps.setBlock (w.alloc (.cells #[.int .i64 a0,.int .i64 a1,.int .i64 a2] 110)).drew b o1) b o2 = W2:=⟨_,rfl⟩
 rw [hW2] at hg hown2 e4 hbx hl2
 have d0:W2.cell? ⟨w.heap.size,0,none⟩ = some (.int .i64 a0):=by simp [World.cell?,hbx]
 have d1:W2.cell? ⟨w.heap.size,1,none⟩ = some (.int .i64 a1):=by simp [World.cell?,hbx]
 have d2:W2.cell? ⟨w.heap.size,2,none⟩ = some (.int .i64 a2):=by simp [World.cell?,hbx]
 have HG:Hid _:=hg
 have e4':(Instr.entryStore 130 (.map (some b)) (.int .i64 (st:Int)) (.int .i64 s)).run Tryz.prog (ChangeMaps.setBlock (w.alloc (.cells #[.int .i64 a0,.int .i64 a1,.int .i64 a2] 110)).drew b o1) = .ok () W2:=e4
 clear hkey hA hae hown0 hg2 hg hwf e4 hat2 hat3 hbx hW2 hc2
 go_enter Tryz.func74,Tryz.ntmps74
 go_wp2_with fail
 cases hz:(s == 0)
 ·have HF:Hid (R = D.put (klOf a) (i64d s)):=by
   have:¬ s = 0:=by have:=beq_eq_false_iff_ne.1 hz;exact this
   unfold Hid;rw [← HR.out,addD,if_neg this]
  go_region_law (first | (refine step_look rfl (.tmp 6) (.tmp 7) 130 rfl (.map (some b)) _ (.int .i64 c) rfl rfl (by first | exact e2 | exact e3) ?_) | (refine step_entry rfl (.tmp 6) (.tmp 7) 130 rfl (.map (some b)) _ _ _ rfl rfl e1 ?_))
  all_goals go_wp2_with fail
  all_goals go_end0
  all_goals exact ⟨rfl,by rw [HF.out];exact hown2,HG.out⟩
 ·have h0:s = 0:=beq_iff_eq.1 hz
  have HF:Hid (R = (D.put (klOf a) (i64d s)).del (klOf a)):=by
   unfold Hid;rw [← HR.out,addD,if_pos h0,h0]
  clear h0
  go_region_law (first | (refine step_look rfl (.tmp 6) (.tmp 7) 130 rfl (.map (some b)) _ (.int .i64 c) rfl rfl (by first | exact e2 | exact e3) ?_) | (refine step_entry rfl (.tmp 6) (.tmp 7) 130 rfl (.map (some b)) _ _ _ rfl rfl e1 ?_))
  all_goals go_wp2_with (at_delete;refine wpList_delete_own _ rfl (.tmp 17) (.tmp 18) 130 110 rfl 3 (Keyed.of_law lawT) Tryz.underlying130 _ b (n + 1) _ rfl hown2 _ _ rfl HK.out ?_;intro w5 hown5 hturn5)
  all_goals go_end0
  all_goals exact ⟨rfl,by rw [HF.out];exact hown5,HG.out.andThen hturn5.grown (fun _ h => Or.inr h)⟩
def refElem (v:Value):Option (DataW Unit × List MemPlace) :=
 match v with
 | .map none => some (.nil,[])
 | .map (some g) => some (.lit (.int .i64 g),[])
 | _ => none
def refD (g:Nat):DataW Unit:=.lit (.int .i64 g)
theorem refElem_some {v:Value} {g:Nat} {ps:List MemPlace} (h:refElem v = some (refD g,ps)):v = .map (some g):=by
 unfold refElem refD at h
 split at h
 ·simp at h
 ·simp only [Option.some.injEq,Prod.mk.injEq,DataW.lit.injEq,Lit.int.injEq,true_and] at h
  have:(_:Int) = _:=h.1
  congr 1
  congr 1
  omega
 ·simp at h
theorem refElem_none {v:Value} {ps:List MemPlace} (h:refElem v = some (.nil,ps)):v = .map none:=by
 unfold refElem at h
 split at h
 ·rfl
 ·simp at h
 ·simp at h
abbrev IMap (w:World) (b n:Nat) (D:DataW Unit):Prop:=w.ownsMap Tryz.prog 93 refElem b n D
theorem zero80 (u:World):(zeroValue 86).run Tryz.prog u = .ok (.map none) u:=by kernel_rfl
theorem imap_old {w:World} {b n g:Nat} {D:DataW Unit} {key:Value} {kl:Lit} (h:IMap w b n D) (hkey:keyOf Tryz.prog 93 key = some kl) (hat:D.atKey kl .nil = refD g):(Instr.lookup 166 (.map (some b)) key false).run Tryz.prog w = .ok (.map (some g)) w:=by
 obtain ⟨v,ps,hrun,hv⟩:=World.ownsMap.lookup h (Keyed.of_law lawA) Tryz.underlying166 (zero80 w) (zd:=.nil) (zp:=[]) rfl hkey
 rw [hat] at hv
 rw [hrun,refElem_some hv]
theorem imap_new {w:World} {b n:Nat} {D:DataW Unit} {key:Value} {kl:Lit} (h:IMap w b n D) (hkey:keyOf Tryz.prog 93 key = some kl) (hat:D.atKey kl .nil = .nil):(Instr.lookup 166 (.map (some b)) key false).run Tryz.prog w = .ok (.map none) w:=by
 obtain ⟨v,ps,hrun,hv⟩:=World.ownsMap.lookup h (Keyed.of_law lawA) Tryz.underlying166 (zero80 w) (zd:=.nil) (zp:=[]) rfl hkey
 rw [hat] at hv
 rw [hrun,refElem_none hv]
theorem eql_some (g:Nat) (u:World):Sem.run Tryz.prog (binOp BinOp.eql 86 (Value.map (some g)) (Value.map none)) u = .ok (.bool false) u:=by kernel_rfl
theorem eql_none (u:World):Sem.run Tryz.prog (binOp BinOp.eql 86 (Value.map none) (Value.map none)) u = .ok (.bool true) u:=by kernel_rfl
theorem wpList_look {P:Program} {w:World} {ops:Array Oper} {rest:List Oper} {o:Oper} {a:Act} {Q:Exit -> Act -> World -> Prop}
  (hg:o.guard = none) (m x:Operand) (t:TypeId) (hop:o.op = Op.lookup t m x false) (mv key v:Value) (hm:a.eval m = mv) (hx:a.eval x = key) (hrun:(Instr.lookup t mv key false).run P w = .ok v w)
  (hK:wpList P ops Q rest (a.put o.dst v) w):wpList P ops Q (o :: rest) a w:=by
 refine wpList_plain hg fun K' hK' => ?_
 unfold Oper.wp
 simp [execOp,hop,hm,hx,hrun,Result.andThen]
 exact hK' _ _ hK
def Kept2 (w w':World) (b g:Nat):Prop:=w'.os = w.os /\ w'.tape = w.tape /\ w'.output = w.output /\ w.heap.size <= w'.heap.size /\ ∀ i,i < w.heap.size -> i ≠ b -> i ≠ g -> w'.heap[i]? = w.heap[i]?
theorem kept2_turn {w w1 w2:World} {b g:Nat} (h:Kept2 w w1 b g) (ht:w1.mapTurned w2 b):Kept2 w w2 b g:=by
 have hg:=ht.grown
 obtain ⟨h1,h2,h3,h4,h5⟩:=h
 exact ⟨hg.os.trans h1,hg.tape.trans h2,hg.output.trans h3,Nat.le_trans h4 hg.size,fun i hi hb hgi => (hg.block i (by omega) (by simp;omega)).trans (h5 i hi hb hgi)⟩
theorem indexAdd_old (b n:Nat) (D:DataW Unit) (g n':Nat) (I:DataW Unit) (k a:List Int) (c x s:Int) (w:World) (hown:IMap w b n D) (hI:CMap w g n' I) (hat:D.atKey (klOf k) .nil = refD g) (hne:g ≠ b)
  (hk:k.length = 6) (hwk:wfA k) (ha:a.length = 6) (hwa:wfA a) (hn':n' < maxLen) (hc:I.atKey (klOf a) (i64d 0) = i64d c) (hs:IntKind.i64.wrap (c + x) = s) :
  Calls Tryz.prog 112 #[.map (some b),.agg (i64s k).toArray,.agg (i64s a).toArray,.int .i64 x] w fun e w' => e = .returned (.tuple #[]) /\ IMap w' b n (if Maps.size (addD I (klOf a) s) = 0 then D.del (klOf k) else D) /\ CMap w' g (n' + 1) (addD I (klOf a) s) /\ Kept2 w w' b g:=by
 have hltb:=hown.lt
 have hltg:=hI.lt
 have hkey:=keyA k hk hwk
 obtain ⟨k0,k1,k2,k3,k4,k5,hke⟩:=six k hk
 obtain ⟨a0,a1,a2,a3,a4,a5,hae⟩:=six a ha
 have hKK:(i64s k).toArray = #[.int .i64 k0,.int .i64 k1,.int .i64 k2,.int .i64 k3,.int .i64 k4,.int .i64 k5]:=by rw [hke];rfl
 have hAA:(i64s a).toArray = #[.int .i64 a0,.int .i64 a1,.int .i64 a2,.int .i64 a3,.int .i64 a4,.int .i64 a5]:=by rw [hae];rfl
 have HADD:=fun (u:World) (h:CMap u g n' I) => addA_any g n' I a c x u h hn' ha hwa hc s hs
 rw [hKK] at hkey
 rw [hKK,hAA]
 rw [hAA] at HADD
 have HK:Hid (keyOf Tryz.prog 93 (.agg #[.int .i64 k0,.int .i64 k1,.int .i64 k2,.int .i64 k3,.int .i64 k4,.int .i64 k5]) = some (klOf k)):=hkey
 obtain ⟨R,hR⟩:∃ R,addD I (klOf a) s = R:=⟨_,rfl⟩
 rw [hR] at HADD ⊢
 obtain ⟨DD,hDD⟩:∃ DD,(if Maps.size R = 0 then D.del (klOf k) else D) = DD:=⟨_,rfl⟩
 have HDD:Hid ((if Maps.size R = 0 then D.del (klOf k) else D) = DD):=hDD
 rw [hDD]
 clear hkey hKK hAA hke hae hc hs hR hDD
 go_enter Tryz.func112,Tryz.ntmps112
 go_wp2_with (at_lookup;refine wpList_look rfl _ _ 166 rfl (.map (some b)) _ (.map (some g)) rfl rfl (imap_old (n:=n) (by first | exact (hown.alloc _).alloc _ | exact ((hown.alloc _).alloc _).drew) HK.out hat) ?_)
 rw [eql_some]
 go_wp2_with fail
 have l0:=imap_old (n:=n) (((hown.alloc (.cells #[.int .i64 k0,.int .i64 k1,.int .i64 k2,.int .i64 k3,.int .i64 k4,.int .i64 k5] 93)).alloc (.cells #[.int .i64 a0,.int .i64 a1,.int .i64 a2,.int .i64 a3,.int .i64 a4,.int .i64 a5] 93)).drew) HK.out hat
 have hI0:=((hI.alloc (.cells #[.int .i64 k0,.int .i64 k1,.int .i64 k2,.int .i64 k3,.int .i64 k4,.int .i64 k5] 93)).alloc (.cells #[.int .i64 a0,.int .i64 a1,.int .i64 a2,.int .i64 a3,.int .i64 a4,.int .i64 a5] 93)).drew
 have NEXT:∀ w1,CMap w1 g (n' + 1) R -> World.grownBy ((w.alloc (.cells #[.int .i64 k0,.int .i64 k1,.int .i64 k2,.int .i64 k3,.int .i64 k4,.int .i64 k5] 93)).alloc (.cells #[.int .i64 a0,.int .i64 a1,.int .i64 a2,.int .i64 a3,.int .i64 a4,.int .i64 a5] 93)).drew w1 (some g) -> (w1.cell? ⟨w.heap.size,0,none⟩ = some (.int .i64 k0) /\ w1.cell? ⟨w.heap.size,1,none⟩ = some (.int .i64 k1) /\ w1.cell? ⟨w.heap.size,2,none⟩ = some (.int .i64 k2) /\ w1.cell? ⟨w.heap.size,3,none⟩ = some (.int .i64 k3) /\ w1.cell? ⟨w.heap.size,4,none⟩ = some (.int .i64 k4) /\ w1.cell? ⟨w.heap.size,5,none⟩ = some (.int .i64 k5)) /\ IMap w1 b n D /\ Kept2 w w1 b g:=by
  intro w1 hC1 hg1
  have hbx:w1.heap[w.heap.size]? = some (.cells #[.int .i64 k0,.int .i64 k1,.int .i64 k2,.int .i64 k3,.int .i64 k4,.int .i64 k5] 93 (0,0)):=by
   rw [hg1.block w.heap.size (by simp;omega) (by simp;omega)]
   exact (Below.heap_alloc _ _ _ (by simp)).trans (vheap_alloc_new w (.cells #[.int .i64 k0,.int .i64 k1,.int .i64 k2,.int .i64 k3,.int .i64 k4,.int .i64 k5] 93))
  refine ⟨⟨by simp [World.cell?,hbx],by simp [World.cell?,hbx],by simp [World.cell?,hbx],by simp [World.cell?,hbx],by simp [World.cell?,hbx],by simp [World.cell?,hbx]⟩,?_,hg1.os,hg1.tape,hg1.output,Nat.le_trans (by simp;omega) hg1.size,fun i hi _ hig => ?_⟩
  ·exact World.ownsMap.kept (((hown.alloc (.cells #[.int .i64 k0,.int .i64 k1,.int .i64 k2,.int .i64 k3,.int .i64 k4,.int .i64 k5] 93)).alloc (.cells #[.int .i64 a0,.int .i64 a1,.int .i64 a2,.int .i64 a3,.int .i64 a4,.int .i64 a5] 93)).drew) hg1 (by simp;omega)
  ·rw [hg1.block i (by simp;omega) (by simp;omega)]
   exact (Below.heap_alloc _ _ _ (by simp;omega)).trans (Below.heap_alloc _ _ _ hi)
 go_region_with (go_at_call 50;refine (HADD _ hI0).mono ?_;rintro e w1 ⟨rfl,hC1,hg1⟩)
 all_goals obtain ⟨⟨d0,d1,d2,d3,d4,d5⟩,hown1,hkp⟩:=NEXT _ hC1 hg1
 all_goals clear NEXT HADD hI0 l0 hg1
 all_goals have HKP:Hid (Kept2 w w1 b g):=hkp
 all_goals clear hkp
 all_goals obtain ⟨N,hN⟩:∃ N,Maps.size R = N:=⟨_,rfl⟩
 all_goals have HN:Hid (Maps.size R = N):=hN
 all_goals cases hz:((N:Int) == 0)
 all_goals go_wp2_with (first | (at_lookup;refine wpList_look rfl _ _ 166 rfl (.map (some b)) _ (.map (some g)) rfl rfl (imap_old hown1 HK.out hat) ?_) | (at_len;refine wpList_len_own _ rfl (.tmp 23) 86 rfl 93 3 Tryz.underlying86 _ g (n' + 1) R rfl hC1 ?_;rw [hN]) | (at_delete;refine wpList_delete_own _ rfl (.tmp 26) (.tmp 27) 166 93 rfl 86 (Keyed.of_law lawA) Tryz.underlying166 _ b n _ rfl hown1 _ _ rfl HK.out ?_;intro w5 hown5 hturn5))
 all_goals go_end0
 all_goals first
  | exact ⟨rfl,by rw [← HDD.out,if_neg (by rw [hN];have:=beq_eq_false_iff_ne.1 hz;omega)];exact hown1,hC1,HKP.out⟩
  | exact ⟨rfl,by rw [← HDD.out,if_pos (by rw [hN];have:=beq_iff_eq.1 hz;omega)];exact hown5,hC1.kept hturn5.grown (by simp;omega),kept2_turn HKP.out hturn5⟩
theorem indexAdd_new (b n:Nat) (D:DataW Unit) (k a:List Int) (x s:Int) (w:World) (hown:IMap w b n D) (hat:D.atKey (klOf k) .nil = .nil) (hn:n < maxLen)
  (hk:k.length = 6) (hwk:wfA k) (ha:a.length = 6) (hwa:wfA a) (hs:IntKind.i64.wrap (0 + x) = s) :
  Calls Tryz.prog 112 #[.map (some b),.agg (i64s k).toArray,.agg (i64s a).toArray,.int .i64 x] w fun e w' => e = .returned (.tuple #[]) /\ IMap w' b (n + 1) (if Maps.size (addD (.map []) (klOf a) s) = 0 then (D.put (klOf k) (refD (w.heap.size + 2))).del (klOf k) else D.put (klOf k) (refD (w.heap.size + 2))) /\ CMap w' (w.heap.size + 2) 1 (addD (.map []) (klOf a) s) /\ w.grownBy w' (some b):=by
 have hltb:=hown.lt
 have hkey:=keyA k hk hwk
 obtain ⟨k0,k1,k2,k3,k4,k5,hke⟩:=six k hk
 obtain ⟨a0,a1,a2,a3,a4,a5,hae⟩:=six a ha
 have hKK:(i64s k).toArray = #[.int .i64 k0,.int .i64 k1,.int .i64 k2,.int .i64 k3,.int .i64 k4,.int .i64 k5]:=by rw [hke];rfl
 have hAA:(i64s a).toArray = #[.int .i64 a0,.int .i64 a1,.int .i64 a2,.int .i64 a3,.int .i64 a4,.int .i64 a5]:=by rw [hae];rfl
 have HADD:=fun (u:World) (h:CMap u (w.heap.size + 2) 0 (.map [])) => addA_any (w.heap.size + 2) 0 (.map []) a 0 x u h (by decide) ha hwa rfl s hs
 rw [hKK] at hkey
 rw [hKK,hAA]
 rw [hAA] at HADD
 have HK:Hid (keyOf Tryz.prog 93 (.agg #[.int .i64 k0,.int .i64 k1,.int .i64 k2,.int .i64 k3,.int .i64 k4,.int .i64 k5]) = some (klOf k)):=hkey
 have hat2:(D.put (klOf k) (refD (w.heap.size + 2))).atKey (klOf k) .nil = refD (w.heap.size + 2):=atKey_put_same hown.isMap ((Keyed.of_law lawA).key hkey) _ _
 obtain ⟨R,hR⟩:∃ R,addD (.map []) (klOf a) s = R:=⟨_,rfl⟩
 rw [hR] at HADD ⊢
 obtain ⟨DP,hDP⟩:∃ DP,D.put (klOf k) (refD (w.heap.size + 2)) = DP:=⟨_,rfl⟩
 have HDP:Hid (D.put (klOf k) (refD (w.heap.size + 2)) = DP):=hDP
 rw [hDP] at hat2 ⊢
 obtain ⟨DD,hDD⟩:∃ DD,(if Maps.size R = 0 then DP.del (klOf k) else DP) = DD:=⟨_,rfl⟩
 have HDD:Hid ((if Maps.size R = 0 then DP.del (klOf k) else DP) = DD):=hDD
 rw [hDD]
 clear hkey hKK hAA hke hae hs hR hDD hDP
 have hmm:=@run_makeMap Tryz.prog
 go_enter Tryz.func112,Tryz.ntmps112
 go_wp2_with (at_lookup;refine wpList_look rfl _ _ 166 rfl (.map (some b)) _ (.map none) rfl rfl (imap_new (n:=n) (by first | exact (hown.alloc _).alloc _ | exact ((hown.alloc _).alloc _).drew) HK.out hat) ?_)
 rw [eql_none]
 go_wp2_with (at_mapUpdate;refine wpList_mapUpdate_own _ rfl _ _ _ 166 rfl 93 86 (Keyed.of_law lawA) Tryz.underlying166 refElem b n D rfl (((hown.alloc _).alloc _).alloc _) hn _ _ _ rfl rfl HK.out (refD (w.heap.size + 2)) [] rfl ?_;rw [HDP.out];intro w1 hown1 hg1)
 have FIRST:(w1.cell? ⟨w.heap.size,0,none⟩ = some (.int .i64 k0) /\ w1.cell? ⟨w.heap.size,1,none⟩ = some (.int .i64 k1) /\ w1.cell? ⟨w.heap.size,2,none⟩ = some (.int .i64 k2) /\ w1.cell? ⟨w.heap.size,3,none⟩ = some (.int .i64 k3) /\ w1.cell? ⟨w.heap.size,4,none⟩ = some (.int .i64 k4) /\ w1.cell? ⟨w.heap.size,5,none⟩ = some (.int .i64 k5)) /\ (w1.cell? ⟨w.heap.size + 1,0,none⟩ = some (.int .i64 a0) /\ w1.cell? ⟨w.heap.size + 1,1,none⟩ = some (.int .i64 a1) /\ w1.cell? ⟨w.heap.size + 1,2,none⟩ = some (.int .i64 a2) /\ w1.cell? ⟨w.heap.size + 1,3,none⟩ = some (.int .i64 a3) /\ w1.cell? ⟨w.heap.size + 1,4,none⟩ = some (.int .i64 a4) /\ w1.cell? ⟨w.heap.size + 1,5,none⟩ = some (.int .i64 a5)) /\ CMap w1 (w.heap.size + 2) 0 (.map []) /\ w.grownBy w1 (some b) /\ w.heap.size + 2 < w1.heap.size /\ w1.heap[w.heap.size]? = some (.cells #[.int .i64 k0,.int .i64 k1,.int .i64 k2,.int .i64 k3,.int .i64 k4,.int .i64 k5] 93 (0,0)):=by
  have hb1:w1.heap[w.heap.size]? = some (.cells #[.int .i64 k0,.int .i64 k1,.int .i64 k2,.int .i64 k3,.int .i64 k4,.int .i64 k5] 93 (0,0)):=by
   rw [hg1.block w.heap.size (by simp;omega) (by simp;omega)]
   exact (Below.heap_alloc _ _ _ (by simp;omega)).trans ((Below.heap_alloc _ _ _ (by simp)).trans (vheap_alloc_new w (.cells #[.int .i64 k0,.int .i64 k1,.int .i64 k2,.int .i64 k3,.int .i64 k4,.int .i64 k5] 93)))
  have hb2:w1.heap[w.heap.size + 1]? = some (.cells #[.int .i64 a0,.int .i64 a1,.int .i64 a2,.int .i64 a3,.int .i64 a4,.int .i64 a5] 93 (0,0)):=by
   rw [hg1.block (w.heap.size + 1) (by simp) (by simp;omega)]
   refine (Below.heap_alloc _ _ _ (by simp)).trans ?_
   have:=vheap_alloc_new (w.alloc (.cells #[.int .i64 k0,.int .i64 k1,.int .i64 k2,.int .i64 k3,.int .i64 k4,.int .i64 k5] 93)) (.cells #[.int .i64 a0,.int .i64 a1,.int .i64 a2,.int .i64 a3,.int .i64 a4,.int .i64 a5] 93)
   simpa using this
  refine ⟨⟨by simp [World.cell?,hb1],by simp [World.cell?,hb1],by simp [World.cell?,hb1],by simp [World.cell?,hb1],by simp [World.cell?,hb1],by simp [World.cell?,hb1]⟩,⟨by simp [World.cell?,hb2],by simp [World.cell?,hb2],by simp [World.cell?,hb2],by simp [World.cell?,hb2],by simp [World.cell?,hb2],by simp [World.cell?,hb2]⟩,?_,⟨hg1.os,hg1.tape,hg1.output,Nat.le_trans (by simp;omega) hg1.size,fun i hi hib => ?_⟩,?_,hb1⟩
  ·have h0:=World.ownsMap_made (H:=Unit) ((w.alloc (.cells #[.int .i64 k0,.int .i64 k1,.int .i64 k2,.int .i64 k3,.int .i64 k4,.int .i64 k5] 93)).alloc (.cells #[.int .i64 a0,.int .i64 a1,.int .i64 a2,.int .i64 a3,.int .i64 a4,.int .i64 a5] 93)) Tryz.prog 93 (plainElem Tryz.prog 3)
   have h1:CMap (((w.alloc (.cells #[.int .i64 k0,.int .i64 k1,.int .i64 k2,.int .i64 k3,.int .i64 k4,.int .i64 k5] 93)).alloc (.cells #[.int .i64 a0,.int .i64 a1,.int .i64 a2,.int .i64 a3,.int .i64 a4,.int .i64 a5] 93)).alloc (.map #[] 0)) (w.heap.size + 2) 0 (.map []):=by simpa using h0
   exact World.ownsMap.kept h1 hg1 (by simp;omega)
  ·rw [hg1.block i (by simp;omega) hib]
   exact (Below.heap_alloc _ _ _ (by simp;omega)).trans ((Below.heap_alloc _ _ _ (by simp;omega)).trans (Below.heap_alloc _ _ _ hi))
  ·have:=hg1.size;simp at this;omega
 obtain ⟨⟨d0,d1,d2,d3,d4,d5⟩,⟨e0,e1,e2,e3,e4,e5⟩,hC0,hgw,hl1,hbk⟩:=FIRST
 clear hg1
 have HGW:Hid (w.grownBy w1 (some b)):=hgw
 have HBK:Hid _:=hbk
 clear hgw hbk
 go_wp2_with fail
 have l0:=imap_old (w:=w1.drew) hown1.drew HK.out hat2
 have NEXT:∀ w2,CMap w2 (w.heap.size + 2) (0 + 1) R -> World.grownBy w1.drew w2 (some (w.heap.size + 2)) -> (w2.cell? ⟨w.heap.size,0,none⟩ = some (.int .i64 k0) /\ w2.cell? ⟨w.heap.size,1,none⟩ = some (.int .i64 k1) /\ w2.cell? ⟨w.heap.size,2,none⟩ = some (.int .i64 k2) /\ w2.cell? ⟨w.heap.size,3,none⟩ = some (.int .i64 k3) /\ w2.cell? ⟨w.heap.size,4,none⟩ = some (.int .i64 k4) /\ w2.cell? ⟨w.heap.size,5,none⟩ = some (.int .i64 k5)) /\ IMap w2 b (n + 1) DP /\ w.grownBy w2 (some b):=by
  intro w2 hC2 hg2
  have hb1:w2.heap[w.heap.size]? = some (.cells #[.int .i64 k0,.int .i64 k1,.int .i64 k2,.int .i64 k3,.int .i64 k4,.int .i64 k5] 93 (0,0)):=(hg2.block w.heap.size (by simp;omega) (by simp)).trans HBK.out
  refine ⟨⟨by simp [World.cell?,hb1],by simp [World.cell?,hb1],by simp [World.cell?,hb1],by simp [World.cell?,hb1],by simp [World.cell?,hb1],by simp [World.cell?,hb1]⟩,World.ownsMap.kept hown1.drew hg2 (by simp;omega),⟨hg2.os.trans HGW.out.os,hg2.tape.trans HGW.out.tape,hg2.output.trans HGW.out.output,Nat.le_trans HGW.out.size hg2.size,fun i hi hib => ?_⟩⟩
  exact (hg2.block i (by simp;omega) (by simp;omega)).trans (HGW.out.block i hi hib)
 go_region_with (go_at_call 50;refine (HADD _ hC0.drew).mono ?_;rintro e w2 ⟨rfl,hC1,hg2⟩)
 all_goals obtain ⟨⟨f0,f1,f2,f3,f4,f5⟩,hown2,hkp⟩:=NEXT _ hC1 hg2
 all_goals clear NEXT HADD hC0 l0 hg2 HGW HBK
 all_goals have HKP:Hid (w.grownBy w2 (some b)):=hkp
 all_goals clear hkp
 all_goals obtain ⟨N,hN⟩:∃ N,Maps.size R = N:=⟨_,rfl⟩
 all_goals cases hz:((N:Int) == 0)
 all_goals go_wp2_with (first | (at_lookup;refine wpList_look rfl _ _ 166 rfl (.map (some b)) _ (.map (some (w.heap.size + 2))) rfl rfl (imap_old hown2 HK.out hat2) ?_) | (at_len;refine wpList_len_own _ rfl (.tmp 23) 86 rfl 93 3 Tryz.underlying86 _ (w.heap.size + 2) (0 + 1) R rfl hC1 ?_;rw [hN]) | (at_delete;refine wpList_delete_own _ rfl (.tmp 26) (.tmp 27) 166 93 rfl 86 (Keyed.of_law lawA) Tryz.underlying166 _ b (n + 1) _ rfl hown2 _ _ rfl HK.out ?_;intro w5 hown5 hturn5))
 all_goals go_end0
 all_goals first
  | exact ⟨rfl,by rw [← HDD.out,if_neg (by rw [hN];have:=beq_eq_false_iff_ne.1 hz;omega)];exact hown2,hC1,HKP.out⟩
  | exact ⟨rfl,by rw [← HDD.out,if_pos (by rw [hN];have:=beq_iff_eq.1 hz;omega)];exact hown5,hC1.kept hturn5.grown (by simp;omega),HKP.out.andThen hturn5.grown (fun _ h => Or.inr h)⟩
end Go.Proofs.YtondkinefmjpjaaGreat
