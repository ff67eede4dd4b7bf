import Derived.Test.YtondkinefmjpjaaCode2
import Derived.Test.YtondkinefmjpjaaRef7
namespace Go.Proofs.Ytondkinefmjpjaa
open Go.RowKit

theorem nextPiece_at (s : ByteArray) (n : Int) (i : Nat) (w : World) (hs : s.size ≤ maxLen) (hi : i ≤ s.size) (hn : (i : Int) = n) :
    Calls Try.prog 14 #[.string s, .int .i64 n] w fun e w' => e = .returned (.agg #[.int .i64 (Est.piece s i).k, .string (Est.piece s i).t, .int .i64 (Est.piece s i).a]) ∧ Below w.heap.size w w' := by
  subst hn; exact nextPiece_any s i w hs hi

/-- The program's reader as it lies in memory: the piece that stands next, head, variables, atoms, the fault. -/
def cdBlk (s : ByteArray) (p : Est.Pc) (hv vv av : Value) (e a : Nat) : Obj := .cells #[.string s, .int .i64 p.k, .string p.t, .int .i64 p.a, hv, vv, av, .slice none 0 0, .int .i64 e, .int .i64 a] 61 (0, 0)
structure Cdr (w : World) (b : Nat) (s : ByteArray) (p : Est.Pc) (hv vv av : Value) (e a : Nat) : Prop where
  blk : w.heap[b]? = some (cdBlk s p hv vv av e a)

section
variable {w w' : World} {b : Nat} {s : ByteArray} {p : Est.Pc} {hv vv av : Value} {e a : Nat}
theorem Cdr.c0 (h : Cdr w b s p hv vv av e a) : w.cell? ⟨b, 0, none⟩ = some (.string s) := by simp [World.cell?, h.blk, cdBlk]
theorem Cdr.c1 (h : Cdr w b s p hv vv av e a) : w.cell? ⟨b, 1, none⟩ = some (.int .i64 p.k) := by simp [World.cell?, h.blk, cdBlk]
theorem Cdr.c2 (h : Cdr w b s p hv vv av e a) : w.cell? ⟨b, 2, none⟩ = some (.string p.t) := by simp [World.cell?, h.blk, cdBlk]
theorem Cdr.c3 (h : Cdr w b s p hv vv av e a) : w.cell? ⟨b, 3, none⟩ = some (.int .i64 p.a) := by simp [World.cell?, h.blk, cdBlk]
theorem Cdr.c4 (h : Cdr w b s p hv vv av e a) : w.cell? ⟨b, 4, none⟩ = some hv := by simp [World.cell?, h.blk, cdBlk]
theorem Cdr.c5 (h : Cdr w b s p hv vv av e a) : w.cell? ⟨b, 5, none⟩ = some vv := by simp [World.cell?, h.blk, cdBlk]
theorem Cdr.c6 (h : Cdr w b s p hv vv av e a) : w.cell? ⟨b, 6, none⟩ = some av := by simp [World.cell?, h.blk, cdBlk]
theorem Cdr.c7 (h : Cdr w b s p hv vv av e a) : w.cell? ⟨b, 7, none⟩ = some (.slice none 0 0) := by simp [World.cell?, h.blk, cdBlk]
theorem Cdr.c8 (h : Cdr w b s p hv vv av e a) : w.cell? ⟨b, 8, none⟩ = some (.int .i64 e) := by simp [World.cell?, h.blk, cdBlk]
theorem Cdr.c9 (h : Cdr w b s p hv vv av e a) : w.cell? ⟨b, 9, none⟩ = some (.int .i64 a) := by simp [World.cell?, h.blk, cdBlk]
theorem Cdr.free (h : Cdr w b s p hv vv av e a) (j : Nat) : w.frozen? ⟨b, j, none⟩ = false := by simp [World.frozen?, h.blk, cdBlk]
theorem Cdr.lt (h : Cdr w b s p hv vv av e a) : b < w.heap.size := lt_of_block h.blk
theorem Cdr.tg (h : Cdr w b s p hv vv av e a) : tag w.heap[b]? = 61 := by rw [h.blk]; rfl
theorem Cdr.keeps {F : Nat → Option Obj → Prop} (h : Cdr w b s p hv vv av e a) (k : Keeps F w w') (hb : ¬ F b w.heap[b]?) : Cdr w' b s p hv vv av e a := ⟨(k.block b h.lt hb).trans h.blk⟩
theorem Cdr.failed (h : Cdr w b s p hv vv av e a) (e' a' : Nat) : Cdr ((w.setCell ⟨b, 8, none⟩ (.int .i64 e')).setCell ⟨b, 9, none⟩ (.int .i64 a')) b s p hv vv av e' a' := by
  refine ⟨(blk_setCell (blk_setCell h.blk 8 _) 9 _).trans ?_⟩
  simp [cdBlk, Array.setIfInBounds]
theorem Cdr.moved (h : Cdr w b s p hv vv av e a) (p' : Est.Pc) : Cdr (((w.setCell ⟨b, 1, none⟩ (.int .i64 p'.k)).setCell ⟨b, 2, none⟩ (.string p'.t)).setCell ⟨b, 3, none⟩ (.int .i64 p'.a)) b s p' hv vv av e a := by
  refine ⟨(blk_setCell (blk_setCell (blk_setCell h.blk 1 _) 2 _) 3 _).trans ?_⟩
  simp [cdBlk, Array.setIfInBounds]
end

set_option maxHeartbeats 400000 in
theorem cfail_at (b : Nat) (s : ByteArray) (p : Est.Pc) (hv vv av : Value) (e a : Nat) (n : Int) (e' a' : Nat) (w : World) (h : Cdr w b s p hv vv av e a) (hn : (e' : Int) = n) :
    Calls Try.prog 48 #[.pointer (some ⟨b, 0, none⟩), .int .i64 n, .int .i64 a'] w fun x w' => x = .returned (.bool false) ∧ Cdr w' b s p hv vv av e' a' ∧ Kept (· = b) w w' := by
  subst hn
  have c8 := h.c8
  have c9 := h.c9
  have f8 := h.free 8
  have f9 := h.free 9
  go_enter Try.func48, Try.ntmps48
  go_wp2
  go_ret
  exact ⟨rfl, h.failed e' a', ((Kept.refl (· = b) _).setCell _ rfl _).setCell _ rfl _⟩

def OkC (s : ByteArray) (p : Est.Pc) : Prop := p.a + p.t.size ≤ s.size ∧ p.a ≤ s.size
theorem OkC.piece (s : ByteArray) (i : Nat) (h : i ≤ s.size) : OkC s (Est.piece s i) := by
  have h1 := Est.skip_le s i h
  have h2 := Est.wend_le s _ h1
  unfold Est.piece OkC
  split
  · split
    · simp; omega
    · simp; omega
  · exact ⟨by simpa using h1, h1⟩
def pnext (s : ByteArray) (p : Est.Pc) : Est.Pc := Est.piece s (p.a + p.t.size)

/-- Does a piece of kind k stand there? And what stands there behind 'take'. -/
def tk (p : Est.Pc) (k : Nat) : Bool := decide (p.k = k)
def tp (s : ByteArray) (p : Est.Pc) (k : Nat) : Est.Pc := if p.k = k then pnext s p else p
theorem tp_yes {s : ByteArray} {p : Est.Pc} {k : Nat} (h : tk p k = true) : tp s p k = pnext s p := by unfold tk at h; unfold tp; rw [if_pos (of_decide_eq_true h)]
theorem tp_no {s : ByteArray} {p : Est.Pc} {k : Nat} (h : tk p k = false) : tp s p k = p := by unfold tk at h; unfold tp; rw [if_neg (of_decide_eq_false h)]
theorem OkC.next {s : ByteArray} {p : Est.Pc} (h : OkC s p) : OkC s (pnext s p) := OkC.piece s _ h.1
theorem OkC.tp {s : ByteArray} {p : Est.Pc} (h : OkC s p) (k : Nat) : OkC s (tp s p k) := by unfold Ytondkinefmjpjaa.tp; split; exact h.next; exact h

set_option maxHeartbeats 2000000 in
theorem take_at (b : Nat) (s : ByteArray) (p : Est.Pc) (hv vv av : Value) (e a : Nat) (n : Int) (k : Nat) (w : World) (h : Cdr w b s p hv vv av e a) (hn : (k : Int) = n) (hs : s.size ≤ maxLen) (hok : OkC s p) :
    Calls Try.prog 45 #[.pointer (some ⟨b, 0, none⟩), .int .i64 n] w fun x w' => x = .returned (.bool (tk p k)) ∧ Cdr w' b s (tp s p k) hv vv av e a ∧ Kept (· = b) w w' := by
  have c0 := h.c0
  have c1 := h.c1
  have c2 := h.c2
  have c3 := h.c3
  have HN : Hid ((k : Int) = n) := hn
  clear hn
  have HS : Hid (s.size ≤ maxLen) := hs
  unfold maxLen at hs
  cases hk : tk p k
  · have ht : ((p.k : Int) != n) = true := by rw [← HN.out, bne_iff_ne]; have := of_decide_eq_false hk; omega
    have HK : Hid (tk p k = false) := hk
    clear hk
    go_enter Try.func45, Try.ntmps45
    go_wp2
    go_ret
    exact ⟨rfl, by rw [tp_no HK.out]; exact h, Kept.refl _ _⟩
  · have ht : ((p.k : Int) != n) = false := by rw [← HN.out, bne_eq_false_iff_eq]; have := of_decide_eq_true hk; omega
    have HK : Hid (tk p k = true) := hk
    clear hk
    have hw : IntKind.i64.wrap ((p.a : Int) + (p.t.size : Int)) = (p.a : Int) + (p.t.size : Int) := by rw [IntKind.wrap_i64]; have := hok.1; omega
    go_enter Try.func45, Try.ntmps45
    go_wp2
    go_region_with (go_at_call 14; refine (nextPiece_at s _ (p.a + p.t.size) _ HS.out hok.1 (by omega)).mono ?_; rintro x w1 ⟨rfl, hb⟩; have R1 : Cdr w1 b s p hv vv av e a := ⟨(hb.block b (by simpa using h.lt)).trans h.blk⟩; have k1 := R1.c1; have k2 := R1.c2; have k3 := R1.c3; have f1 := R1.free 1; have f2 := R1.free 2; have f3 := R1.free 3)
    all_goals go_wp2
    all_goals go_ret
    all_goals
      refine ⟨rfl, ?_, ((((Kept.refl (· = b) w).drew.below hb).setCell _ rfl _).setCell _ rfl _).setCell _ rfl _⟩
      rw [tp_yes HK.out]; exact R1.moved _

set_option maxHeartbeats 1000000 in
theorem want_at (b : Nat) (s : ByteArray) (p : Est.Pc) (hv vv av : Value) (e a : Nat) (n : Int) (k : Nat) (w : World) (h : Cdr w b s p hv vv av e a) (hn : (k : Int) = n) (hs : s.size ≤ maxLen) (hok : OkC s p) :
    Calls Try.prog 27 #[.pointer (some ⟨b, 0, none⟩), .int .i64 n] w fun x w' => x = .returned (.bool (tk p k)) ∧ Cdr w' b s (tp s p k) hv vv av (if tk p k then e else 2) (if tk p k then a else p.a) ∧ Kept (· = b) w w' := by
  cases hk : tk p k
  · go_enter Try.func27, Try.ntmps27
    go_wp2_with fail
    refine (take_at b s p hv vv av e a n k _ h hn hs hok).mono ?_
    rintro x w1 ⟨rfl, h1, k1⟩
    rw [tp_no hk] at h1
    have HK : Hid (tk p k = false) := hk
    rw [hk]
    clear hk
    have d3 := h1.c3
    go_wp2_with fail
    refine (cfail_at b s p hv vv av e a 2 2 p.a _ h1 rfl).mono ?_
    rintro x w2 ⟨rfl, h2, k2⟩
    go_wp2
    go_ret
    exact ⟨rfl, by rw [tp_no HK.out]; exact h2, k1.trans k2⟩
  · go_enter Try.func27, Try.ntmps27
    go_wp2_with fail
    refine (take_at b s p hv vv av e a n k _ h hn hs hok).mono ?_
    rintro x w1 ⟨rfl, h1, k1⟩
    have HK : Hid (tk p k = true) := hk
    rw [hk]
    clear hk
    go_wp2
    go_ret
    exact ⟨rfl, h1, k1⟩

end Go.Proofs.Ytondkinefmjpjaa
