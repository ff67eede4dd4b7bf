import Derived.Test.YtondkinefmjpjaaRef4
namespace Go.Proofs.Ytondkinefmjpjaa
open Go.RowKit

theorem Keeps.setNew {F : Nat → Option Obj → Prop} {a w : World} (h : Keeps F a w) (p : Addr) (hp : a.heap.size ≤ p.block) (u : Value) : Keeps F a (w.setCell p u) :=
  ⟨h.os, h.tape, h.output, by simpa [World.setCell] using h.size, fun k hk hs => by rw [Below.heap_setCell _ _ _ _ (by omega)]; exact h.block k hk hs⟩

theorem Rdr.keeps {F : Nat → Option Obj → Prop} {w w' : World} {b : Nat} {s : ByteArray} {r : Est.Rd} {q : Value} (h : Rdr w b s r q) (k : Keeps F w w') (hb : ¬ F b w.heap[b]?) : Rdr w' b s r q :=
  ⟨(k.block b h.lt hb).trans h.blk⟩

theorem VSt.keeps {F : Nat → Option Obj → Prop} {w w' : World} {rb qb base : Nat} {s : ByteArray} {r : Est.Rd} {vars : List ByteArray} {hv av : Value} (h : VSt w rb qb base s r vars hv av) (k : Keeps F w w')
    (hr : ¬ F rb w.heap[rb]?) (hq : ¬ F qb w.heap[qb]?) (hvs : ∀ k, base ≤ k → tag w.heap[k]? = 9 → ¬ F k w.heap[k]?) : VSt w' rb qb base s r vars hv av := by
  obtain ⟨vv, h1, h2⟩ := h.q
  exact ⟨h.rd.keeps k hr, vv, (k.block qb (lt_of_block h1) hq).trans h1, own_keeps h2 k (fun j hj _ ht _ => hvs j hj ht)⟩

theorem VSt.alloc {w : World} {rb qb base : Nat} {s : ByteArray} {r : Est.Rd} {vars : List ByteArray} {hv av : Value} (h : VSt w rb qb base s r vars hv av) (o : Obj) : VSt (w.alloc o) rb qb base s r vars hv av :=
  h.keeps (F := fun _ _ => False) ((Keeps.refl _ _).alloc o) (fun x => x) (fun x => x) (fun _ _ _ x => x)
theorem VSt.kept {w w' : World} {rb qb base : Nat} {s : ByteArray} {r r' : Est.Rd} {vars : List ByteArray} {hv av : Value} (h : VSt w rb qb base s r vars hv av) (hr : Rdr w' rb s r' (.pointer (some ⟨qb, 0, none⟩))) (k : Kept (· = rb) w w') : VSt w' rb qb base s r' vars hv av := by
  obtain ⟨vv, h1, h2⟩ := h.q
  have hrq : qb ≠ rb := by intro e; have := h.rd.blk; rw [← e, h1] at this; simp [rdBlk] at this
  refine ⟨hr, vv, (k.block qb (lt_of_block h1) hrq).trans h1, own_keeps h2 (Keeps.of (F := fun j _ => j = rb) k (fun _ _ x => x)) (fun j _ _ ht _ e => ?_)⟩
  have e' : j = rb := e
  rw [e', h.rd.blk] at ht; simp [rdBlk, tag] at ht
theorem VSt.setNew {w : World} {rb qb base : Nat} {s : ByteArray} {r : Est.Rd} {vars : List ByteArray} {hv av : Value} (h : VSt w rb qb base s r vars hv av) (p : Addr) (u : Value) (hr : p.block ≠ rb) (hq : p.block ≠ qb) (ht : tag w.heap[p.block]? ≠ 9) : VSt (w.setCell p u) rb qb base s r vars hv av :=
  h.keeps (F := fun k _ => k = p.block) ((Keeps.refl _ _).setCell p (fun _ => rfl) u) (fun x => hr x.symm) (fun x => hq x.symm) (fun k _ h9 x => ht (by rw [← show k = p.block from x]; exact h9))

/-- What 'term' does. -/
def tV (s : ByteArray) (r : Est.Rd) (vars : List ByteArray) : Int := if r.isB 110 then -1 else if (r.must s 118).bad = 0 then (vix vars r.g.t : Int) else 0
def tR (s : ByteArray) (r : Est.Rd) (vars : List ByteArray) : Est.Rd := if r.isB 110 then r.next s else if (r.must s 118).bad = 0 then vrd (r.must s 118) vars r.g.t r.g.a else r.must s 118
def tVars (s : ByteArray) (r : Est.Rd) (vars : List ByteArray) : List ByteArray := if r.isB 110 then vars else if (r.must s 118).bad = 0 then vadd vars r.g.t else vars

theorem t_bad {s : ByteArray} {r : Est.Rd} {vars : List ByteArray} (hb : r.isB 110 = false) (h : ¬ (r.must s 118).bad = 0) : tR s r vars = r.must s 118 ∧ tVars s r vars = vars ∧ tV s r vars = 0 := by simp [tR, tVars, tV, hb, h]
theorem t_var {s : ByteArray} {r : Est.Rd} {vars : List ByteArray} (hb : r.isB 110 = false) (h : (r.must s 118).bad = 0) : tR s r vars = vrd (r.must s 118) vars r.g.t r.g.a ∧ tVars s r vars = vadd vars r.g.t ∧ tV s r vars = (vix vars r.g.t : Int) := by simp [tR, tVars, tV, hb, h]
theorem t_num {s : ByteArray} {r : Est.Rd} {vars : List ByteArray} (hb : r.isB 110 = true) : tR s r vars = r.next s ∧ tVars s r vars = vars ∧ tV s r vars = -1 := by simp [tR, tVars, tV, hb]

set_option maxHeartbeats 2000000 in
theorem term_any (rb qb base : Nat) (s : ByteArray) (r : Est.Rd) (vars : List ByteArray) (hv av : Value) (w : World)
    (hst : VSt w rb qb base s r vars hv av) (hl : vars.length ≤ 1000) (hB : base ≤ w.heap.size) (hs : s.size ≤ maxLen) (hn : r.g.n ≤ s.size) (ht : r.g.t.size ≤ s.size) :
    Calls Try.prog 20 #[.pointer (some ⟨rb, 0, none⟩)] w fun x w' => (∃ v : Int, x = .returned (.agg #[.int .i64 (tV s r vars), .int .i64 v])) ∧
      VSt w' rb qb base s (tR s r vars) (tVars s r vars) hv av ∧ Keeps (FV rb qb base) w w' := by
  have HS : Hid (s.size ≤ maxLen) := hs
  unfold maxLen at hs
  have h := hst.rd
  have c2 := h.cell2
  have c3 := h.cell3
  have c4 := h.cell4
  have c5 := h.cell5
  have lr : rb < w.heap.size := h.lt
  have lq : qb < w.heap.size := by obtain ⟨vv, h1, _⟩ := hst.q; exact lt_of_block h1
  cases hb : r.isB 110
  · have HB : Hid (r.isB 110 = false) := hb
    clear hb
    have hgo : ((r.bad : Int) == 0) = false ∨ (((r.bad : Int) == 0) = true ∧ ((r.g.k.toNat : Int) == 110) = false) := by
      by_cases h0 : r.bad = 0
      · right
        refine ⟨by simp [h0], beq_eq_false_iff_ne.2 (fun e => ?_)⟩
        have hk : r.g.k = 110 := UInt8.toNat_inj.1 (by have : ((110 : UInt8).toNat : Int) = 110 := rfl; omega)
        have := HB.out
        rw [isB_yes h0 hk] at this; cases this
      · left; exact beq_eq_false_iff_ne.2 (by omega)
    rcases hgo with h1 | ⟨h1, h2⟩
    all_goals
      go_enter Try.func20, Try.ntmps20
      go_wp2_with fail
      refine (must_any rb s r _ 118 118 _ (hst.alloc _).rd rfl HS.out hn).mono ?_
      rintro e w1 ⟨rfl, hr1, hk1⟩
      have hst1 := (hst.alloc _).kept hr1 hk1
      have bl1 := hk1.block w.heap.size (by simp) (show ¬ w.heap.size = rb by omega)
      rw [heap_alloc_new] at bl1
      have d5 := hr1.cell5
      have z0 : w1.cell? ⟨w.heap.size, 0, none⟩ = some (.int .i64 0) := by simp [World.cell?, bl1]
      have z1 : w1.cell? ⟨w.heap.size, 1, none⟩ = some (.int .i64 0) := by simp [World.cell?, bl1]
      have f0 : w1.frozen? ⟨w.heap.size, 0, none⟩ = false := by simp [World.frozen?, bl1]
      have f1 : w1.frozen? ⟨w.heap.size, 1, none⟩ = false := by simp [World.frozen?, bl1]
      have hK1 : Keeps (FV rb qb base) w w1 := Keeps.trans ((Keeps.refl _ _).alloc _) (Keeps.of hk1 (fun _ _ x => Or.inl x))
      cases hbad : ((((r.must s 118).bad : Nat) : Int) == 0)
      · have HBAD : Hid (¬ (r.must s 118).bad = 0) := by have := beq_eq_false_iff_ne.1 hbad; unfold Hid; omega
        go_wp2_with fail
        refine bodyPost_ret (v := .agg #[.int .i64 0, .int .i64 0]) (by simp [results, Try.results20, go_sem, z0, z1]) rfl ⟨⟨0, ?_⟩, ?_, ?_⟩
        · rw [(t_bad HB.out HBAD.out).2.2]
        · rw [(t_bad HB.out HBAD.out).1, (t_bad HB.out HBAD.out).2.1]
          exact (hst1.setNew _ _ (by simp; omega) (by simp; omega) (by rw [bl1]; simp [tag])).setNew _ _ (by simp; omega) (by simp; omega) (by rw [show (World.setCell _ _ _).heap[_]? = _ from blk_setCell bl1 0 _]; simp [tag])
        · exact (hK1.setNew _ (Nat.le_refl _) _).setNew _ (Nat.le_refl _) _
      · have HBAD : Hid ((r.must s 118).bad = 0) := by have := beq_iff_eq.1 hbad; unfold Hid; omega
        go_wp2_with fail
        refine (variable_any rb qb base s (r.must s 118) vars hv av r.g.t r.g.a _ hst1 hl (Nat.le_trans hB (Nat.le_trans (by simp) hk1.size))).mono ?_
        rintro e w2 ⟨rfl, hst2, hk2⟩
        have bl2 : w2.heap[w.heap.size]? = _ := (hk2.block w.heap.size (lt_of_block bl1) (by rw [bl1]; unfold FV; simp [tag]; omega)).trans bl1
        have y0 : w2.cell? ⟨w.heap.size, 0, none⟩ = some (.int .i64 0) := by simp [World.cell?, bl2]
        have y1 : w2.cell? ⟨w.heap.size, 1, none⟩ = some (.int .i64 0) := by simp [World.cell?, bl2]
        have e0 : w2.frozen? ⟨w.heap.size, 0, none⟩ = false := by simp [World.frozen?, bl2]
        have e1 : w2.frozen? ⟨w.heap.size, 1, none⟩ = false := by simp [World.frozen?, bl2]
        clear z0 z1 f0 f1
        go_wp2_with fail
        refine bodyPost_ret (v := .agg #[.int .i64 (vix vars r.g.t), .int .i64 0]) (by simp [results, Try.results20, go_sem, y0, y1]) rfl ⟨⟨0, ?_⟩, ?_, ?_⟩
        · rw [(t_var HB.out HBAD.out).2.2]
        · rw [(t_var HB.out HBAD.out).1, (t_var HB.out HBAD.out).2.1]
          exact (hst2.setNew _ _ (by simp; omega) (by simp; omega) (by rw [bl2]; simp [tag])).setNew _ _ (by simp; omega) (by simp; omega) (by rw [show (World.setCell _ _ _).heap[_]? = _ from blk_setCell bl2 0 _]; simp [tag])
        · exact ((hK1.trans hk2).setNew _ (Nat.le_refl _) _).setNew _ (Nat.le_refl _) _
  · have HB : Hid (r.isB 110 = true) := hb
    clear hb
    have h1 : ((r.bad : Int) == 0) = true := by
      by_cases h0 : r.bad = 0
      · simp [h0]
      · have := HB.out; rw [isB_bad h0] at this; cases this
    have h2 : ((r.g.k.toNat : Int) == 110) = true := by
      by_cases hk : r.g.k = 110
      · rw [hk]; rfl
      · have := HB.out; rw [isB_no hk] at this; cases this
    go_enter Try.func20, Try.ntmps20
    go_wp2
    go_loop [3, 4] (fun n i => ∃ k : Nat, k ≤ r.g.t.size ∧ i = .int .i64 k ∧ ∃ m : Int, n = .int .i64 m) (fun _ i => r.g.t.size - (intOf i).toNat)
    case atStart => exact ⟨0, Nat.zero_le _, rfl, 0, rfl⟩
    case round =>
      obtain ⟨k, hk, rfl, m, rfl⟩ := hrel
      by_cases hlt : k < r.g.t.size
      · go_wp2
        go_round
        case rel => exact ⟨k + 1, by omega, by go_num, _, rfl⟩
        case measure => simp [intOf]; omega
      · go_wp2_with fail
        refine (next_any rb s r _ _ (hst.alloc _).rd HS.out hn).mono ?_
        rintro e w1 ⟨rfl, hr1, hk1⟩
        have hst1 := (hst.alloc _).kept hr1 hk1
        have bl1 := hk1.block w.heap.size (by simp) (show ¬ w.heap.size = rb by omega)
        rw [heap_alloc_new] at bl1
        have z0 : w1.cell? ⟨w.heap.size, 0, none⟩ = some (.int .i64 0) := by simp [World.cell?, bl1]
        have z1 : w1.cell? ⟨w.heap.size, 1, none⟩ = some (.int .i64 0) := by simp [World.cell?, bl1]
        have f0 : w1.frozen? ⟨w.heap.size, 0, none⟩ = false := by simp [World.frozen?, bl1]
        have f1 : w1.frozen? ⟨w.heap.size, 1, none⟩ = false := by simp [World.frozen?, bl1]
        have hK1 : Keeps (FV rb qb base) w w1 := Keeps.trans ((Keeps.refl _ _).alloc _) (Keeps.of hk1 (fun _ _ x => Or.inl x))
        go_wp2_with fail
        refine bodyPost_ret (v := .agg #[.int .i64 (-1), .int .i64 m]) (by simp [results, Try.results20, go_sem, z0, z1]) rfl ⟨⟨m, ?_⟩, ?_, ?_⟩
        · rw [(t_num HB.out).2.2]
        · rw [(t_num HB.out).1, (t_num HB.out).2.1]
          exact (hst1.setNew _ _ (by simp; omega) (by simp; omega) (by rw [bl1]; simp [tag])).setNew _ _ (by simp; omega) (by simp; omega) (by rw [show (World.setCell _ _ _).heap[_]? = _ from blk_setCell bl1 0 _]; simp [tag])
        · exact (hK1.setNew _ (Nat.le_refl _) _).setNew _ (Nat.le_refl _) _

end Go.Proofs.Ytondkinefmjpjaa
