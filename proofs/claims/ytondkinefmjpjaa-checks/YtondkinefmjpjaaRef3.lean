import Derived.Test.YtondkinefmjpjaaRef2
import Derived.Test.YtondkinefmjpjaaModel2
import Derived.RegionTactic
import Derived.BigRegion
import Derived.Deep.RegionWith
namespace Go.Proofs.Ytondkinefmjpjaa
open Go.RowKit

/-- But for the blocks S, w' has all that w had as it was. -/
structure Kept (S : Nat → Prop) (w w' : World) : Prop where
  os : w'.os = w.os
  tape : w'.tape = w.tape
  output : w'.output = w.output
  size : w.heap.size ≤ w'.heap.size
  block : ∀ k, k < w.heap.size → ¬ S k → w'.heap[k]? = w.heap[k]?

theorem Kept.refl (S : Nat → Prop) (w : World) : Kept S w w := ⟨rfl, rfl, rfl, Nat.le_refl _, fun _ _ _ => rfl⟩
theorem Kept.trans {S : Nat → Prop} {a b c : World} (h : Kept S a b) (k : Kept S b c) : Kept S a c :=
  ⟨k.os.trans h.os, k.tape.trans h.tape, k.output.trans h.output, Nat.le_trans h.size k.size, fun i hi hs => (k.block i (Nat.lt_of_lt_of_le hi h.size) hs).trans (h.block i hi hs)⟩
theorem Kept.mono {S T : Nat → Prop} {w w' : World} (h : Kept S w w') (hst : ∀ k, S k → T k) : Kept T w w' :=
  ⟨h.os, h.tape, h.output, h.size, fun k hk ht => h.block k hk (fun hs => ht (hst k hs))⟩
theorem Kept.setCell {S : Nat → Prop} {a w : World} (h : Kept S a w) (p : Addr) (hp : S p.block) (u : Value) : Kept S a (w.setCell p u) :=
  h.trans ⟨rfl, rfl, rfl, by simp [World.setCell], fun k _ hs => Below.heap_setCell _ _ _ _ (fun e => hs (e ▸ hp))⟩
theorem Kept.drew {S : Nat → Prop} {a w : World} (h : Kept S a w) : Kept S a w.drew := ⟨h.os, h.tape, h.output, h.size, h.block⟩
theorem Kept.alloc {S : Nat → Prop} {a w : World} (h : Kept S a w) (o : Obj) : Kept S a (w.alloc o) :=
  h.trans ⟨rfl, rfl, rfl, by simp, fun k hk _ => Below.heap_alloc _ _ _ hk⟩
theorem Kept.below {S : Nat → Prop} {a w w' : World} (h : Kept S a w) (hb : Below w.heap.size w w') : Kept S a w' :=
  h.trans ⟨hb.os, hb.tape, hb.output, hb.size, fun k hk _ => hb.block k hk⟩

theorem blk_setCell {w : World} {b : Nat} {c : Array Value} {t : TypeId} (h : w.heap[b]? = some (.cells c t (0, 0))) (j : Nat) (u : Value) :
    (w.setCell ⟨b, j, none⟩ u).heap[b]? = some (.cells (c.setIfInBounds j u) t (0, 0)) := by
  have hlt := lt_of_block h
  have h' : w.heap[b] = .cells c t (0, 0) := by simpa [Array.getElem?_eq_getElem hlt] using h
  show (w.heap.modify b _)[b]? = _
  rw [Array.getElem?_eq_getElem (by simpa using hlt), Array.getElem_modify_self, h']
  rfl

/-- The reader's block. -/
def rdCells (s : ByteArray) (r : Est.Rd) (q : Value) : Array Value :=
  #[.string s, .int .i64 r.g.n, .int .u8 (r.g.k.toNat : Int), .string r.g.t, .int .i64 r.g.a, .int .i64 r.bad, .int .i64 r.bat, q]
def rdBlk (s : ByteArray) (r : Est.Rd) (q : Value) : Obj := .cells (rdCells s r q) 51 (0, 0)

structure Rdr (w : World) (b : Nat) (s : ByteArray) (r : Est.Rd) (q : Value) : Prop where
  blk : w.heap[b]? = some (rdBlk s r q)

theorem Rdr.cell0 {w : World} {b : Nat} {s : ByteArray} {r : Est.Rd} {q : Value} (h : Rdr w b s r q) : w.cell? ⟨b, 0, none⟩ = some (.string s) := by simp [World.cell?, h.blk, rdBlk, rdCells]
theorem Rdr.cell1 {w : World} {b : Nat} {s : ByteArray} {r : Est.Rd} {q : Value} (h : Rdr w b s r q) : w.cell? ⟨b, 1, none⟩ = some (.int .i64 r.g.n) := by simp [World.cell?, h.blk, rdBlk, rdCells]
theorem Rdr.cell2 {w : World} {b : Nat} {s : ByteArray} {r : Est.Rd} {q : Value} (h : Rdr w b s r q) : w.cell? ⟨b, 2, none⟩ = some (.int .u8 (r.g.k.toNat : Int)) := by simp [World.cell?, h.blk, rdBlk, rdCells]
theorem Rdr.cell3 {w : World} {b : Nat} {s : ByteArray} {r : Est.Rd} {q : Value} (h : Rdr w b s r q) : w.cell? ⟨b, 3, none⟩ = some (.string r.g.t) := by simp [World.cell?, h.blk, rdBlk, rdCells]
theorem Rdr.cell4 {w : World} {b : Nat} {s : ByteArray} {r : Est.Rd} {q : Value} (h : Rdr w b s r q) : w.cell? ⟨b, 4, none⟩ = some (.int .i64 r.g.a) := by simp [World.cell?, h.blk, rdBlk, rdCells]
theorem Rdr.cell5 {w : World} {b : Nat} {s : ByteArray} {r : Est.Rd} {q : Value} (h : Rdr w b s r q) : w.cell? ⟨b, 5, none⟩ = some (.int .i64 r.bad) := by simp [World.cell?, h.blk, rdBlk, rdCells]
theorem Rdr.cell6 {w : World} {b : Nat} {s : ByteArray} {r : Est.Rd} {q : Value} (h : Rdr w b s r q) : w.cell? ⟨b, 6, none⟩ = some (.int .i64 r.bat) := by simp [World.cell?, h.blk, rdBlk, rdCells]
theorem Rdr.cell7 {w : World} {b : Nat} {s : ByteArray} {r : Est.Rd} {q : Value} (h : Rdr w b s r q) : w.cell? ⟨b, 7, none⟩ = some q := by simp [World.cell?, h.blk, rdBlk, rdCells]
theorem Rdr.free {w : World} {b : Nat} {s : ByteArray} {r : Est.Rd} {q : Value} (h : Rdr w b s r q) (j : Nat) : w.frozen? ⟨b, j, none⟩ = false := by simp [World.frozen?, h.blk, rdBlk]
theorem Rdr.lt {w : World} {b : Nat} {s : ByteArray} {r : Est.Rd} {q : Value} (h : Rdr w b s r q) : b < w.heap.size := lt_of_block h.blk
theorem Rdr.kept {S : Nat → Prop} {w w' : World} {b : Nat} {s : ByteArray} {r : Est.Rd} {q : Value} (h : Rdr w b s r q) (k : Kept S w w') (hb : ¬ S b) : Rdr w' b s r q :=
  ⟨(k.block b h.lt hb).trans h.blk⟩

theorem Rdr.failed {w : World} {b : Nat} {s : ByteArray} {r : Est.Rd} {q : Value} (h : Rdr w b s r q) (e a : Nat) (h0 : r.bad = 0) :
    Rdr ((w.setCell ⟨b, 5, none⟩ (.int .i64 e)).setCell ⟨b, 6, none⟩ (.int .i64 a)) b s (r.fail e a) q := by
  refine ⟨(blk_setCell (blk_setCell h.blk 5 _) 6 _).trans ?_⟩
  simp [rdBlk, rdCells, Est.Rd.fail, h0, Array.setIfInBounds]

set_option maxHeartbeats 400000 in
theorem fail_any (b : Nat) (s : ByteArray) (r : Est.Rd) (q : Value) (e a : Nat) (w : World) (h : Rdr w b s r q) :
    Calls Try.prog 10 #[.pointer (some ⟨b, 0, none⟩), .int .i64 e, .int .i64 a] w fun x w' => x = .returned (.tuple #[]) ∧ Rdr w' b s (r.fail e a) q ∧ Kept (· = b) w w' := by
  have c5 := h.cell5
  have f5 := h.free 5
  have f6 := h.free 6
  have c6 := h.cell6
  by_cases h0 : r.bad = 0
  · have hb : ((r.bad : Int) == 0) = true := by simp [h0]
    have H0 : Hid (r.bad = 0) := h0
    clear h0
    go_enter Try.func10, Try.ntmps10
    go_wp2
    go_end0
    exact ⟨rfl, h.failed e a H0.out, ((Kept.refl (· = b) _).setCell _ rfl _).setCell _ rfl _⟩
  · have hb : ((r.bad : Int) == 0) = false := beq_eq_false_iff_ne.2 (by omega)
    have H0 : Hid (¬ r.bad = 0) := h0
    clear h0
    go_enter Try.func10, Try.ntmps10
    go_wp2
    go_end0
    exact ⟨rfl, by rw [Est.Rd.fail, if_neg H0.out]; exact h, Kept.refl _ _⟩

theorem Rdr.nexted {w w1 : World} {b : Nat} {s : ByteArray} {r : Est.Rd} {q : Value} (h : Rdr w b s r q) (hb : w1.heap[b]? = w.heap[b]?) :
    Rdr ((((w1.setCell ⟨b, 2, none⟩ (.int .u8 ((Est.sign s r.g.n).k.toNat : Int))).setCell ⟨b, 3, none⟩ (.string (Est.sign s r.g.n).t)).setCell ⟨b, 4, none⟩ (.int .i64 (Est.sign s r.g.n).a)).setCell ⟨b, 1, none⟩ (.int .i64 (Est.sign s r.g.n).n)) b s (r.next s) q := by
  refine ⟨(blk_setCell (blk_setCell (blk_setCell (blk_setCell (hb.trans h.blk) 2 _) 3 _) 4 _) 1 _).trans ?_⟩
  simp [rdBlk, rdCells, Est.Rd.next, Array.setIfInBounds]

set_option maxHeartbeats 1000000 in
theorem next_any (b : Nat) (s : ByteArray) (r : Est.Rd) (q : Value) (w : World) (h : Rdr w b s r q) (hs : s.size ≤ maxLen) (hn : r.g.n ≤ s.size) :
    Calls Try.prog 8 #[.pointer (some ⟨b, 0, none⟩)] w fun x w' => x = .returned (.tuple #[]) ∧ Rdr w' b s (r.next s) q ∧ Kept (· = b) w w' := by
  have c0 := h.cell0
  have c1 := h.cell1
  go_enter Try.func8, Try.ntmps8
  go_wp2
  go_region_with (go_at_call 19; refine (sign_any s r.g.n _ hs hn).mono ?_; rintro e w1 ⟨rfl, hb⟩; have R1 : Rdr w1 b s r q := ⟨(hb.block b (by simpa using h.lt)).trans h.blk⟩; have k1 := R1.cell1; have k2 := R1.cell2; have k3 := R1.cell3; have k4 := R1.cell4; have f1 := R1.free 1; have f2 := R1.free 2; have f3 := R1.free 3; have f4 := R1.free 4)
  all_goals go_end0
  all_goals exact ⟨rfl, R1.nexted rfl, (((((Kept.refl (· = b) w).drew.below hb).setCell _ rfl _).setCell _ rfl _).setCell _ rfl _).setCell _ rfl _⟩

theorem fail_at (b : Nat) (s : ByteArray) (r : Est.Rd) (q : Value) (n : Int) (e a : Nat) (w : World) (h : Rdr w b s r q) (hn : (e : Int) = n) :
    Calls Try.prog 10 #[.pointer (some ⟨b, 0, none⟩), .int .i64 n, .int .i64 a] w fun x w' => x = .returned (.tuple #[]) ∧ Rdr w' b s (r.fail e a) q ∧ Kept (· = b) w w' := by
  subst hn; exact fail_any b s r q e a w h

theorem isB_bad {r : Est.Rd} {kd : UInt8} (h : ¬ r.bad = 0) : r.isB kd = false := by simp [Est.Rd.isB, h]
theorem isB_no {r : Est.Rd} {kd : UInt8} (h : ¬ r.g.k = kd) : r.isB kd = false := by simp [Est.Rd.isB, h]
theorem isB_yes {r : Est.Rd} {kd : UInt8} (h : r.bad = 0) (h' : r.g.k = kd) : r.isB kd = true := by simp [Est.Rd.isB, h, h']

set_option maxHeartbeats 1000000 in
theorem is_any (b : Nat) (s : ByteArray) (r : Est.Rd) (q : Value) (n : Int) (kd : UInt8) (w : World) (h : Rdr w b s r q) (hk : (kd.toNat : Int) = n) (hs : s.size ≤ maxLen) (hn : r.g.n ≤ s.size) :
    Calls Try.prog 11 #[.pointer (some ⟨b, 0, none⟩), .int .u8 n] w fun x w' => x = .returned (.bool (r.isB kd)) ∧ Rdr w' b s (r.is s kd) q ∧ Kept (· = b) w w' := by
  have c2 := h.cell2
  have c5 := h.cell5
  have HK : Hid ((kd.toNat : Int) = n) := hk
  clear hk
  by_cases h0 : r.bad = 0
  · have hb : ((r.bad : Int) == 0) = true := by simp [h0]
    have H0 : Hid (r.bad = 0) := h0
    clear h0
    by_cases h1 : r.g.k = kd
    · have hc : ((r.g.k.toNat : Int) == n) = true := by rw [← HK.out, h1]; simp
      have H1 : Hid (r.isB kd = true) := isB_yes H0.out h1
      clear h1
      go_enter Try.func11, Try.ntmps11
      go_wp2_with (go_at_call 8; refine (next_any b s r q _ h hs hn).mono ?_; rintro e w1 ⟨rfl, hr1, hk1⟩)
      go_ret
      refine ⟨ret_bool H1.out.symm, ?_, hk1⟩
      rw [Est.Rd.is, if_pos H1.out]; exact hr1
    · have hc : ((r.g.k.toNat : Int) == n) = false := by
        rw [← HK.out]; refine beq_eq_false_iff_ne.2 (fun e => h1 ?_)
        exact UInt8.toNat_inj.1 (by omega)
      have H1 : Hid (r.isB kd = false) := isB_no h1
      clear h1
      go_enter Try.func11, Try.ntmps11
      go_wp2
      go_ret
      refine ⟨ret_bool H1.out.symm, ?_, Kept.refl _ _⟩
      rw [Est.Rd.is, if_neg (by rw [H1.out]; decide)]; exact h
  · have hb : ((r.bad : Int) == 0) = false := beq_eq_false_iff_ne.2 (by omega)
    have H1 : Hid (r.isB kd = false) := isB_bad h0
    clear h0
    go_enter Try.func11, Try.ntmps11
    go_wp2
    go_ret
    refine ⟨ret_bool H1.out.symm, ?_, Kept.refl _ _⟩
    rw [Est.Rd.is, if_neg (by rw [H1.out]; decide)]; exact h

set_option maxHeartbeats 1000000 in
theorem must_any (b : Nat) (s : ByteArray) (r : Est.Rd) (q : Value) (n : Int) (kd : UInt8) (w : World) (h : Rdr w b s r q) (hk : (kd.toNat : Int) = n) (hs : s.size ≤ maxLen) (hn : r.g.n ≤ s.size) :
    Calls Try.prog 9 #[.pointer (some ⟨b, 0, none⟩), .int .u8 n] w fun x w' => x = .returned (.string r.g.t) ∧ Rdr w' b s (r.must s kd) q ∧ Kept (· = b) w w' := by
  have c3 := h.cell3
  cases hb : r.isB kd
  · have HB : Hid (r.isB kd = false) := hb
    clear hb
    go_enter Try.func9, Try.ntmps9
    go_wp2_with fail
    refine (is_any b s r q n kd _ h hk hs hn).mono ?_
    rintro e w1 ⟨rfl, hr1, hk1⟩
    rw [HB.out]
    rw [Est.Rd.is, if_neg (by rw [HB.out]; decide)] at hr1
    have d4 := hr1.cell4
    go_wp2_with fail
    refine (fail_at b s r q 2 2 r.g.a _ hr1 rfl).mono ?_
    rintro e w2 ⟨rfl, hr2, hk2⟩
    go_wp2
    go_ret
    refine ⟨rfl, ?_, hk1.trans hk2⟩
    rw [Est.Rd.must, if_neg (by rw [HB.out]; decide)]; exact hr2
  · have HB : Hid (r.isB kd = true) := hb
    clear hb
    go_enter Try.func9, Try.ntmps9
    go_wp2_with fail
    refine (is_any b s r q n kd _ h hk hs hn).mono ?_
    rintro e w1 ⟨rfl, hr1, hk1⟩
    rw [HB.out]
    rw [Est.Rd.is, if_pos HB.out] at hr1
    go_wp2
    go_ret
    refine ⟨rfl, ?_, hk1⟩
    rw [Est.Rd.must, if_pos HB.out]; exact hr1

end Go.Proofs.Ytondkinefmjpjaa
