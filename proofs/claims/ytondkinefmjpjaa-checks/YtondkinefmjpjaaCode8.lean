import Derived.Test.YtondkinefmjpjaaCode7
import Derived.Deep.QuietTactic
import Derived.BigQuiet
import Derived.Deep.DeepCutAuto
namespace Go.Proofs.Ytondkinefmjpjaa
open Go.RowKit

/-- While an atom's terms are read: the reader, its variables, the atom's own block and its terms. -/
structure TSt (w : World) (b base AB : Nat) (s : ByteArray) (p : Est.Pc) (vars : List ByteArray) (hv av : Value) (e a : Nat) (x : CA) : Prop where
  ex : ∃ vv, Cdr w b s p hv vv av e a ∧ w.ownsRow base 9 1 vv vars.length (strs vars)
  at_ : ∃ ta tc ys, w.heap[AB]? = some (.cells #[.string x.rel, .slice ta x.n tc, .int .u8 x.set] 95 (0, 0)) ∧ w.ownsRow base 112 2 (.slice ta x.n tc) x.n ys

def FT (b AB base : Nat) : Nat → Option Obj → Prop := fun k o => k = b ∨ k = AB ∨ (base ≤ k ∧ (tag o = 9 ∨ tag o = 112))

section
variable {w w' : World} {b base AB : Nat} {s : ByteArray} {p p' : Est.Pc} {vars : List ByteArray} {hv av : Value} {e a e' a' : Nat} {x : CA}
theorem TSt.tgA (h : TSt w b base AB s p vars hv av e a x) : tag w.heap[AB]? = 95 := by
  obtain ⟨_, _, _, h1, _⟩ := h.at_; rw [h1]; rfl
theorem TSt.ltA (h : TSt w b base AB s p vars hv av e a x) : AB < w.heap.size := by
  obtain ⟨_, _, _, h1, _⟩ := h.at_; exact lt_of_block h1
theorem TSt.ne (h : TSt w b base AB s p vars hv av e a x) : AB ≠ b := by
  obtain ⟨vv, h1, _⟩ := h.ex
  intro e; have := h1.tg; rw [← e, h.tgA] at this; simp at this
theorem TSt.below (h : TSt w b base AB s p vars hv av e a x) (hb : Below w.heap.size w w') : TSt w' b base AB s p vars hv av e a x := by
  obtain ⟨vv, h1, h2⟩ := h.ex
  obtain ⟨ta, tc, ys, h3, h4⟩ := h.at_
  exact ⟨⟨vv, ⟨(hb.block b h1.lt).trans h1.blk⟩, own_below' h2 hb⟩, ta, tc, ys, (hb.block AB h.ltA).trans h3, own_below' h4 hb⟩
theorem TSt.kept {vv : Value} (h : TSt w b base AB s p vars hv av e a x) (h1 : Cdr w b s p hv vv av e a) (h2 : w.ownsRow base 9 1 vv vars.length (strs vars)) (hc : Cdr w' b s p' hv vv av e' a') (k : Kept (· = b) w w') : TSt w' b base AB s p' vars hv av e' a' x := by
  obtain ⟨ta, tc, ys, h3, h4⟩ := h.at_
  have hK : Keeps (fun j _ => j = b) w w' := Keeps.of k (fun _ _ x => x)
  refine ⟨⟨vv, hc, own_keeps h2 hK (fun j _ _ h9 _ e => ?_)⟩, ta, tc, ys, (k.block AB h.ltA h.ne).trans h3, own_keeps h4 hK (fun j _ _ h9 _ e => ?_)⟩
  · rw [show j = b from e, h1.tg] at h9; simp at h9
  · rw [show j = b from e, h1.tg] at h9; simp at h9
end

theorem ttake (b base AB : Nat) (s : ByteArray) (p : Est.Pc) (vars : List ByteArray) (hv av : Value) (e a : Nat) (x : CA) (n : Int) (k : Nat) (w : World) (h : TSt w b base AB s p vars hv av e a x) (hn : (k : Int) = n) (hs : s.size ≤ maxLen) (hok : OkC s p) :
    Calls Try.prog 45 #[.pointer (some ⟨b, 0, none⟩), .int .i64 n] w fun y w' => y = .returned (.bool (tk p k)) ∧ TSt w' b base AB s (tp s p k) vars hv av e a x ∧ Kept (· = b) w w' := by
  obtain ⟨vv, h1, h2⟩ := h.ex
  exact (take_at b s p hv vv av e a n k w h1 hn hs hok).mono fun y w' ⟨e1, e2, e3⟩ => ⟨e1, h.kept h1 h2 e2 e3, e3⟩
theorem twant (b base AB : Nat) (s : ByteArray) (p : Est.Pc) (vars : List ByteArray) (hv av : Value) (e a : Nat) (x : CA) (n : Int) (k : Nat) (w : World) (h : TSt w b base AB s p vars hv av e a x) (hn : (k : Int) = n) (hs : s.size ≤ maxLen) (hok : OkC s p) :
    Calls Try.prog 27 #[.pointer (some ⟨b, 0, none⟩), .int .i64 n] w fun y w' => y = .returned (.bool (tk p k)) ∧ TSt w' b base AB s (tp s p k) vars hv av (if tk p k then e else 2) (if tk p k then a else p.a) x ∧ Kept (· = b) w w' := by
  obtain ⟨vv, h1, h2⟩ := h.ex
  exact (want_at b s p hv vv av e a n k w h1 hn hs hok).mono fun y w' ⟨e1, e2, e3⟩ => ⟨e1, h.kept h1 h2 e2 e3, e3⟩
theorem tfail (b base AB : Nat) (s : ByteArray) (p : Est.Pc) (vars : List ByteArray) (hv av : Value) (e a : Nat) (x : CA) (n : Int) (e' a' : Nat) (w : World) (h : TSt w b base AB s p vars hv av e a x) (hn : (e' : Int) = n) :
    Calls Try.prog 48 #[.pointer (some ⟨b, 0, none⟩), .int .i64 n, .int .i64 a'] w fun y w' => y = .returned (.bool false) ∧ TSt w' b base AB s p vars hv av e' a' x ∧ Kept (· = b) w w' := by
  obtain ⟨vv, h1, h2⟩ := h.ex
  exact (cfail_at b s p hv vv av e a n e' a' w h1 hn).mono fun y w' ⟨e1, e2, e3⟩ => ⟨e1, h.kept h1 h2 e2 e3, e3⟩

def setBit (z : Int) (n : Nat) : Int := bits BinOp.or IntKind.u8 z (2 ^ n % 256)
/-- One variable of an atom: is it one; what stands there then; the variables; the fault; the atom. -/
structure TR where
  ok : Bool
  p : Est.Pc
  vars : List ByteArray
  e : Nat
  a : Nat
  x : CA
def avR (s : ByteArray) (p : Est.Pc) (vars : List ByteArray) (e a : Nat) (x : CA) : TR :=
  if tk p 2 then
    if 0 ≤ ixOf vars p.t then ⟨true, pnext s p, vars, e, a, { x with n := x.n + 1, set := setBit x.set (ixOf vars p.t).toNat }⟩
    else if vars.length = 6 then ⟨false, pnext s p, vars, 3, p.a, x⟩
    else ⟨true, pnext s p, vars ++ [p.t], e, a, { x with n := x.n + 1, set := setBit x.set vars.length }⟩
  else ⟨false, p, vars, 2, p.a, x⟩
theorem ixOf_lt {vars : List ByteArray} {t : ByteArray} (h : 0 ≤ ixOf vars t) : (ixOf vars t).toNat < vars.length ∧ ((ixOf vars t).toNat : Int) = ixOf vars t := by
  unfold ixOf at h ⊢
  split at h
  · rename_i hx; rw [if_pos hx]; exact ⟨by simpa using hx, by simp⟩
  · omega

theorem vars_appended {w w1 w2 : World} {b base AB : Nat} {s : ByteArray} {p : Est.Pc} {vars : List ByteArray} {hv av vv vv' : Value} {e a : Nat} {x : CA} {t : ByteArray} (h : TSt w b base AB s p vars hv av e a x) (h1 : Cdr w b s p hv vv av e a) (h2 : w.ownsRow base 9 1 vv vars.length (strs vars))
    (hk : Kept (fun _ => False) w w1) (hg : w1.grownBy w2 vv.ownBlock) (ho : w2.ownsRow base 9 1 vv' (vars.length + 1) (strs vars ++ [.string t])) :
    (TSt (w2.setCell ⟨b, 5, none⟩ vv') b base AB s p (vars ++ [t]) hv av e a x ∧ Keeps (FT b AB base) w (w2.setCell ⟨b, 5, none⟩ vv')) ∧ w2.cell? ⟨b, 5, none⟩ = some vv ∧ w2.frozen? ⟨b, 5, none⟩ = false := by
  have hbl : ∀ k, vv.ownBlock = some k → base ≤ k ∧ tag w.heap[k]? = 9 := fun k hk => ⟨(own_tag h2 hk).1, (own_tag h2 hk).2.2⟩
  have k1 : Keeps (fun k _ => vv.ownBlock = some k) w w2 := (Keeps.of hk (fun _ _ x => x.elim)).trans (Keeps.grown (Keeps.refl _ _) hg (fun k hk => hk))
  have k2 : Keeps (fun k _ => k = b) w2 (w2.setCell ⟨b, 5, none⟩ vv') := (Keeps.refl _ _).setCell _ (fun _ => rfl) _
  have nb : vv.ownBlock ≠ some b := fun e => by have := (hbl _ e).2; rw [h1.tg] at this; simp at this
  have nA : vv.ownBlock ≠ some AB := fun e => by have := (hbl _ e).2; rw [h.tgA] at this; simp at this
  obtain ⟨ta, tc, ys, h3, h4⟩ := h.at_
  have e2 : w2.heap[b]? = some (cdBlk s p hv vv av e a) := (k1.block b h1.lt nb).trans h1.blk
  have eA : w2.heap[AB]? = some (.cells #[.string x.rel, .slice ta x.n tc, .int .u8 x.set] 95 (0, 0)) := (k1.block AB h.ltA nA).trans h3
  have t2 : tag w2.heap[b]? = 61 := by rw [e2]; rfl
  refine ⟨⟨⟨⟨vv', ⟨?_⟩, ?_⟩, ta, tc, ys, ?_, ?_⟩, ?_⟩, by simp [World.cell?, e2, cdBlk], by simp [World.frozen?, e2, cdBlk]⟩
  · rw [blk_setCell e2 5 vv']; simp [cdBlk, Array.setIfInBounds]
  · have := own_keeps ho k2 (fun k _ _ h9 _ e => by rw [show k = b from e, t2] at h9; simp at h9)
    simpa [strs] using this
  · rw [Below.heap_setCell _ _ _ _ h.ne]; exact eA
  · exact own_keeps (own_keeps h4 k1 (fun k _ _ h9 _ e => by have := (hbl k e).2; rw [h9] at this; simp at this)) k2 (fun k _ _ h9 _ e => by rw [show k = b from e, t2] at h9; simp at h9)
  · exact (k1.mono_at (fun k hk => Or.inr (Or.inr ⟨(hbl k hk).1, Or.inl (hbl k hk).2⟩))).trans (k2.mono (fun _ _ x => Or.inl x))
theorem terms_appended {w w1 w2 : World} {b base AB : Nat} {s : ByteArray} {p : Est.Pc} {vars : List ByteArray} {hv av : Value} {e a : Nat} {x : CA} {ta ta' : Option Addr} {tc tc' : Nat} {ys zs : List Value} (h : TSt w b base AB s p vars hv av e a x)
    (h3 : w.heap[AB]? = some (.cells #[.string x.rel, .slice ta x.n tc, .int .u8 x.set] 95 (0, 0))) (h4 : w.ownsRow base 112 2 (.slice ta x.n tc) x.n ys)
    (hk : Kept (fun _ => False) w w1) (hg : w1.grownBy w2 (Value.slice ta x.n tc).ownBlock) (ho : w2.ownsRow base 112 2 (.slice ta' (x.n + 1) tc') (x.n + 1) zs) :
    (TSt (w2.setCell ⟨AB, 1, none⟩ (.slice ta' (x.n + 1) tc')) b base AB s p vars hv av e a { x with n := x.n + 1 } ∧ Keeps (FT b AB base) w (w2.setCell ⟨AB, 1, none⟩ (.slice ta' (x.n + 1) tc'))) ∧ w2.cell? ⟨AB, 1, none⟩ = some (.slice ta x.n tc) ∧ w2.frozen? ⟨AB, 1, none⟩ = false := by
  obtain ⟨vv, h1, h2⟩ := h.ex
  have hbl : ∀ k, (Value.slice ta x.n tc).ownBlock = some k → base ≤ k ∧ tag w.heap[k]? = 112 := fun k hk => ⟨(own_tag h4 hk).1, (own_tag h4 hk).2.2⟩
  have k1 : Keeps (fun k _ => (Value.slice ta x.n tc).ownBlock = some k) w w2 := (Keeps.of hk (fun _ _ x => x.elim)).trans (Keeps.grown (Keeps.refl _ _) hg (fun k hk => hk))
  have k2 : Keeps (fun k _ => k = AB) w2 (w2.setCell ⟨AB, 1, none⟩ (.slice ta' (x.n + 1) tc')) := (Keeps.refl _ _).setCell _ (fun _ => rfl) _
  have nb : (Value.slice ta x.n tc).ownBlock ≠ some b := fun e => by have := (hbl _ e).2; rw [h1.tg] at this; simp at this
  have nA : (Value.slice ta x.n tc).ownBlock ≠ some AB := fun e => by have := (hbl _ e).2; rw [h.tgA] at this; simp at this
  have eA : w2.heap[AB]? = some (.cells #[.string x.rel, .slice ta x.n tc, .int .u8 x.set] 95 (0, 0)) := (k1.block AB h.ltA nA).trans h3
  have tA : tag w2.heap[AB]? = 95 := by rw [eA]; rfl
  refine ⟨⟨⟨⟨vv, (h1.keeps k1 nb).keeps k2 (fun e => h.ne e.symm), ?_⟩, ta', tc', zs, ?_, ?_⟩, ?_⟩, by simp [World.cell?, eA], by simp [World.frozen?, eA]⟩
  · exact own_keeps (own_keeps h2 k1 (fun k _ _ h9 _ e => by have := (hbl k e).2; rw [h9] at this; simp at this)) k2 (fun k _ _ h9 _ e => by rw [show k = AB from e, tA] at h9; simp at h9)
  · rw [blk_setCell eA 1 _]; simp [Array.setIfInBounds]
  · exact own_keeps ho k2 (fun k _ _ h9 _ e => by rw [show k = AB from e, tA] at h9; simp at h9)
  · exact (k1.mono_at (fun k hk => Or.inr (Or.inr ⟨(hbl k hk).1, Or.inr (hbl k hk).2⟩))).trans (k2.mono (fun _ _ x => Or.inr (Or.inl x)))
theorem TSt.marked {w : World} {b base AB : Nat} {s : ByteArray} {p : Est.Pc} {vars : List ByteArray} {hv av : Value} {e a : Nat} {x : CA} (h : TSt w b base AB s p vars hv av e a x) (z : Int) :
    TSt (w.setCell ⟨AB, 2, none⟩ (.int .u8 z)) b base AB s p vars hv av e a { x with set := z } ∧ Keeps (FT b AB base) w (w.setCell ⟨AB, 2, none⟩ (.int .u8 z)) := by
  obtain ⟨vv, h1, h2⟩ := h.ex
  obtain ⟨ta, tc, ys, h3, h4⟩ := h.at_
  have k2 : Keeps (fun k _ => k = AB) w (w.setCell ⟨AB, 2, none⟩ (.int .u8 z)) := (Keeps.refl _ _).setCell _ (fun _ => rfl) _
  refine ⟨⟨⟨vv, h1.keeps k2 (fun e => h.ne e.symm), own_keeps h2 k2 (fun k _ _ h9 _ e => by rw [show k = AB from e, h.tgA] at h9; simp at h9)⟩, ta, tc, ys, ?_, own_keeps h4 k2 (fun k _ _ h9 _ e => by rw [show k = AB from e, h.tgA] at h9; simp at h9)⟩, k2.mono (fun _ _ x => Or.inr (Or.inl x))⟩
  rw [blk_setCell h3 2 _]; simp [Array.setIfInBounds]
theorem TSt.drewN {w : World} {b base AB : Nat} {s : ByteArray} {p : Est.Pc} {vars : List ByteArray} {hv av : Value} {e a : Nat} {x : CA} (h : TSt w b base AB s p vars hv av e a x) (n : Nat) : TSt (w.drewN n) b base AB s p vars hv av e a x :=
  h.below ⟨rfl, rfl, rfl, Nat.le_refl _, fun _ _ => rfl⟩
theorem Keeps.drewN {F : Nat → Option Obj → Prop} {a w : World} (h : Keeps F a w) (n : Nat) : Keeps F a (w.drewN n) := ⟨h.os, h.tape, h.output, h.size, h.block⟩

theorem Try.info112 : (Try.prog.info? 112).map (fun i => (i.zero, i.size, i.bytes)) = some (some (.agg #[.bool false, .int .i64 0]), 2, 16) := by kernel_rfl

set_option maxHeartbeats 4000000 in
set_option maxRecDepth 100000 in
theorem readAtomVar_any (b base AB : Nat) (s : ByteArray) (p : Est.Pc) (vars : List ByteArray) (hv av : Value) (e a : Nat) (x : CA) (w : World) (h : TSt w b base AB s p vars hv av e a x) (hs : s.size ≤ maxLen) (hok : OkC s p) (hl : vars.length ≤ 6) (hB : base ≤ w.heap.size) (hx2 : x.n ≤ 2) :
    Calls Try.prog 64 #[.pointer (some ⟨b, 0, none⟩), .pointer (some ⟨AB, 0, none⟩)] w fun y w' => y = .returned (.bool (avR s p vars e a x).ok) ∧ TSt w' b base AB s (avR s p vars e a x).p (avR s p vars e a x).vars hv av (avR s p vars e a x).e (avR s p vars e a x).a (avR s p vars e a x).x ∧ Keeps (FT b AB base) w w' := by
  obtain ⟨R, hR⟩ : ∃ R, avR s p vars e a x = R := ⟨_, rfl⟩
  have HR : Hid (avR s p vars e a x = R) := hR
  rw [hR]
  clear hR
  obtain ⟨vv, h1, h2⟩ := h.ex
  have c1 := h1.c1
  have c2 := h1.c2
  have c3 := h1.c3
  have lb := h1.lt
  have la := h.ltA
  have ha : TSt (w.alloc (.cells #[.int .i64 p.k, .string p.t, .int .i64 p.a] 58)) b base AB s p vars hv av e a x := h.below ((Below.refl _ _).alloc (Nat.le_refl _) _)
  cases hk : tk p 2
  · have HF : Hid (R = ⟨false, p, vars, 2, p.a, x⟩) := by unfold Hid; rw [← HR.out, avR, hk]; rfl
    go_enter Try.func64, Try.ntmps64
    go_wp2_with fail
    refine (twant b base AB s p vars hv av e a x 2 2 _ ha rfl hs hok).mono ?_
    rintro y w1 ⟨rfl, hc1, k1⟩
    rw [hk, tp_no hk] at hc1
    rw [hk]
    clear hk
    go_wp2
    go_ret
    exact ⟨ret_bool (by rw [HF.out]), by rw [HF.out]; exact hc1, ((Keeps.refl _ _).alloc _).trans (Keeps.of k1 (fun _ _ x => Or.inl x))⟩
  · have HK : Hid (tk p 2 = true) := hk
    go_enter Try.func64, Try.ntmps64
    go_wp2_with fail
    refine (twant b base AB s p vars hv av e a x 2 2 _ ha rfl hs hok).mono ?_
    rintro y w1 ⟨rfl, hc1, k1⟩
    rw [hk, if_pos rfl, if_pos rfl, tp_yes hk] at hc1
    rw [hk]
    clear hk
    have hK1 : Keeps (FT b AB base) w w1 := ((Keeps.refl _ _).alloc _).trans (Keeps.of k1 (fun _ _ x => Or.inl x))
    have bl1 : w1.heap[w.heap.size]? = some (.cells #[.int .i64 p.k, .string p.t, .int .i64 p.a] 58 (0, 0)) := (k1.block w.heap.size (by simp) (show ¬ w.heap.size = b by omega)).trans (heap_alloc_new _ _)
    have v1 : w1.cell? ⟨w.heap.size, 1, none⟩ = some (.string p.t) := by simp [World.cell?, bl1]
    have v2 : w1.cell? ⟨w.heap.size, 2, none⟩ = some (.int .i64 p.a) := by simp [World.cell?, bl1]
    have lv : w.heap.size < w1.heap.size := lt_of_block bl1
    obtain ⟨vv1, g1, g2⟩ := hc1.ex
    have d5 := g1.c5
    have lb1 := g1.lt
    have hB1 : base ≤ w1.heap.size := Nat.le_trans hB hK1.size
    obtain ⟨i1, hix⟩ : ∃ i, ixOf vars p.t = i := ⟨_, rfl⟩
    have HIX : Hid (ixOf vars p.t = i1) := hix
    clear h1 h2 c1 c2 c3 h ha k1
    by_cases hn : 0 ≤ i1
    · obtain ⟨n, hni⟩ : ∃ n : Nat, i1 = n := ⟨i1.toNat, by omega⟩
      subst hni
      have hn5 : n ≤ 5 := by
        have := ixOf_lt (vars := vars) (t := p.t) (by rw [hix]; exact hn)
        rw [hix] at this; have := this.1; simp at this; omega
      have HF : Hid (R = ⟨true, pnext s p, vars, e, a, { x with n := x.n + 1, set := setBit x.set n }⟩) := by
        unfold Hid; rw [← HR.out, avR, HK.out, if_pos rfl, HIX.out, if_pos hn]; simp
      clear hix
      obtain ⟨j0, hj, hw0, hw1, hw2'⟩ := info_parts Try.info112
      have HJ : Hid _ := hj
      have HW0 : Hid _ := hw0
      have HW1 : Hid _ := hw1
      have HW2 : Hid _ := hw2'
      clear hj hw0 hw1 hw2'
      go_wp2_with fail
      go_quiet ((go_at_call 29; exact Calls.quiet_of_same (varNumber_any b base vars vv1 p.t _ (by exact d5) (by exact g2) (by omega))))
      rw [HIX.out]
      obtain ⟨w2, hw2⟩ : ∃ w2 : World, w2 = w1.drewN nq := ⟨_, rfl⟩
      have hc2 : TSt w2 b base AB s (pnext s p) vars hv av e a x := by rw [hw2]; exact hc1.drewN nq
      have hK2 : Keeps (FT b AB base) w w2 := by rw [hw2]; exact hK1.drewN nq
      have hB2 : base ≤ w2.heap.size := by rw [hw2]; exact hB1
      rw [← hw2]
      clear hw2 hc1 hK1 g1 g2 v1 v2 d5 bl1 lv lb1 hB1
      obtain ⟨ta, tc, ys, x3, x4⟩ := hc2.at_
      have t1 : w2.cell? ⟨AB, 1, none⟩ = some (.slice ta x.n tc) := by simp [World.cell?, x3]
      have lA : AB < w2.heap.size := hc2.ltA
      go_upto_region 10 with fail
      go_cut [] (fun wx => TSt wx b base AB s (pnext s p) vars hv av e a { x with n := x.n + 1 } ∧ Keeps (FT b AB base) w wx)
      case first =>
        go_wp2_with (at_builtin; refine wpList_append_own _ rfl (.tmp 51) (.tmp 54) 92 rfl base 112 j0 (.agg #[.bool false, .int .i64 0]) 2 16 Try.underlying92 HJ.out HW0.out HW1.out HW2.out rfl (by decide) (.slice ta x.n tc) _ _ rfl (x4.alloc _) ⟨w2.heap.size, 0, none⟩ 1 1 [.bool true, .int .i64 n] rfl rfl (two_new _ _ _ _) (by intro u hu; simp at hu; rcases hu with rfl | rfl <;> rfl) (by unfold maxLen; omega) (by omega) (by simp; omega) ?_; intro v' w4 hown4 hgrow4; obtain ⟨va4, cap4, rfl⟩ := own_form hown4; have FIN := terms_appended hc2 x3 x4 (by exact (Kept.refl (fun _ => False) w2).alloc _) hgrow4 hown4; have e2 := FIN.2.1; have e3 := FIN.2.2)
        go_meet
        exact ⟨FIN.1.1, hK2.trans FIN.1.2⟩
      case rest =>
        obtain ⟨hc5, hK5⟩ := hcut
        obtain ⟨tb, td, ys5, x5, _⟩ := hc5.at_
        have a2 : wc.cell? ⟨AB, 2, none⟩ = some (.int .u8 x.set) := by simp [World.cell?, x5]
        have f2 : wc.frozen? ⟨AB, 2, none⟩ = false := by simp [World.frozen?, x5]
        go_wp2_with fail
        go_region
        all_goals go_wp2
        all_goals go_ret
        all_goals
          have FIN := (hc5.drewN 1).marked (setBit x.set n)
          exact ⟨ret_bool (by rw [HF.out]), by rw [HF.out]; exact FIN.1, (hK5.drewN 1).trans FIN.2⟩
    · obtain ⟨va, vcap, hvv⟩ := own_form g2
      subst hvv
      by_cases h6 : vars.length = 6
      · have HF : Hid (R = ⟨false, pnext s p, vars, 3, p.a, x⟩) := by
          unfold Hid; rw [← HR.out, avR, HK.out, if_pos rfl, HIX.out, if_neg hn, if_pos h6]
        have h6' : ((vars.length : Int) == 6) = true := by rw [h6]; rfl
        have hi0 : i1 < 0 := by omega
        clear hix h6
        go_wp2_with fail
        go_quiet ((go_at_call 29; exact Calls.quiet_of_same (varNumber_any b base vars _ p.t _ (by exact d5) (by exact g2) (by omega))))
        rw [HIX.out]
        go_wp2_with fail
        refine (tfail b base AB s _ vars hv av e a x 3 3 p.a _ (hc1.drewN nq) rfl).mono ?_
        rintro y w2 ⟨rfl, hc2, k2⟩
        go_wp2
        go_ret
        exact ⟨ret_bool (by rw [HF.out]), by rw [HF.out]; exact hc2, (hK1.drewN nq).trans (Keeps.of k2 (fun _ _ x => Or.inl x))⟩
      · have HF : Hid (R = ⟨true, pnext s p, vars ++ [p.t], e, a, { x with n := x.n + 1, set := setBit x.set vars.length }⟩) := by
          unfold Hid; rw [← HR.out, avR, HK.out, if_pos rfl, HIX.out, if_neg hn, if_neg h6]
        have h6' : ((vars.length : Int) == 6) = false := beq_eq_false_iff_ne.2 (by omega)
        have hi0 : i1 < 0 := by omega
        have hl5 : vars.length ≤ 5 := by omega
        clear hix h6
        obtain ⟨j0, hj, hw0, hw1, hw2'⟩ := info_parts Try.info112
        have HJ : Hid _ := hj
        have HW0 : Hid _ := hw0
        have HW1 : Hid _ := hw1
        have HW2 : Hid _ := hw2'
        clear hj hw0 hw1 hw2'
        obtain ⟨i0, hi, hz0, hz1, hz2⟩ := info_parts Try.info9
        have HI : Hid _ := hi
        have HZ0 : Hid _ := hz0
        have HZ1 : Hid _ := hz1
        have HZ2 : Hid _ := hz2
        clear hi hz0 hz1 hz2
        go_wp2_with fail
        go_quiet ((go_at_call 29; exact Calls.quiet_of_same (varNumber_any b base vars _ p.t _ (by exact d5) (by exact g2) (by omega))))
        rw [HIX.out]
        obtain ⟨w2, hw2⟩ : ∃ w2 : World, w2 = w1.drewN nq := ⟨_, rfl⟩
        have hc2 : TSt w2 b base AB s (pnext s p) vars hv av e a x := by rw [hw2]; exact hc1.drewN nq
        have hK2 : Keeps (FT b AB base) w w2 := by rw [hw2]; exact hK1.drewN nq
        have g12 : Cdr w2 b s (pnext s p) hv (.slice va vars.length vcap) av e a := by rw [hw2]; exact ⟨g1.blk⟩
        have g22 : w2.ownsRow base 9 1 (.slice va vars.length vcap) vars.length (strs vars) := by rw [hw2]; exact own_below' g2 ⟨rfl, rfl, rfl, Nat.le_refl _, fun _ _ => rfl⟩
        have v12 : w2.cell? ⟨w.heap.size, 1, none⟩ = some (.string p.t) := by rw [hw2]; exact v1
        have v22 : w2.cell? ⟨w.heap.size, 2, none⟩ = some (.int .i64 p.a) := by rw [hw2]; exact v2
        have d52 := g12.c5
        have l1 := g12.lt
        have l2 : w.heap.size < w2.heap.size := by rw [hw2]; exact lv
        have hB2 : base ≤ w2.heap.size := by rw [hw2]; exact hB1
        rw [← hw2]
        clear hw2 hc1 hK1 g1 g2 v1 v2 d5 bl1 lv lb1 hB1
        go_upto_region 9 with fail
        go_cut [] (fun wx => TSt wx b base AB s (pnext s p) (vars ++ [p.t]) hv av e a x ∧ Keeps (FT b AB base) w wx)
        case first =>
          go_region_law (refine step_append_own rfl (.tmp 39) (.tmp 42) 35 rfl base 9 i0 (.string ⟨#[]⟩) 1 16 Try.underlying35 HI.out HZ0.out HZ1.out HZ2.out rfl (by decide) (.slice va vars.length vcap) _ _ rfl (by exact (g22.alloc _)) ⟨w2.heap.size, 0, none⟩ 1 1 [.string p.t] rfl rfl (one_new _ _ _) (by intro u hu; simp at hu; subst hu; rfl) (by unfold maxLen; omega) (by omega) (by simp; omega) ?_; intro v' w3 hown3 hgrow3; obtain ⟨va3, cap3, rfl⟩ := own_form hown3; have FIN := vars_appended (t := p.t) hc2 g12 g22 (by exact ((Kept.refl (fun _ => False) w2).alloc _).drew) hgrow3 hown3; have e2 := FIN.2.1; have e3 := FIN.2.2)
          all_goals (go_wp2; go_meet)
          all_goals exact ⟨FIN.1.1, hK2.trans FIN.1.2⟩
        case rest =>
          obtain ⟨hc3, hK3⟩ := hcut
          obtain ⟨w3, hw3⟩ : ∃ w3 : World, w3 = wc := ⟨_, rfl⟩
          subst hw3
          have hB3 : base ≤ w3.heap.size := Nat.le_trans hB hK3.size
          clear hc2 hK2 g12 g22 v12 v22 d52 l1 l2 hB2
          obtain ⟨ta, tc, ys, x3, x4⟩ := hc3.at_
          have t1 : w3.cell? ⟨AB, 1, none⟩ = some (.slice ta x.n tc) := by simp [World.cell?, x3]
          have lA : AB < w3.heap.size := hc3.ltA
          go_upto_region 10 with fail
          go_cut [] (fun wx => TSt wx b base AB s (pnext s p) (vars ++ [p.t]) hv av e a { x with n := x.n + 1 } ∧ Keeps (FT b AB base) w wx)
          case first =>
            go_wp2_with (at_builtin; refine wpList_append_own _ rfl (.tmp 51) (.tmp 54) 92 rfl base 112 j0 (.agg #[.bool false, .int .i64 0]) 2 16 Try.underlying92 HJ.out HW0.out HW1.out HW2.out rfl (by decide) (.slice ta x.n tc) _ _ rfl (x4.alloc _) ⟨w3.heap.size, 0, none⟩ 1 1 [.bool true, .int .i64 vars.length] rfl rfl (two_new _ _ _ _) (by intro u hu; simp at hu; rcases hu with rfl | rfl <;> rfl) (by unfold maxLen; omega) (by omega) (by simp; omega) ?_; intro v' w4 hown4 hgrow4; obtain ⟨va4, cap4, rfl⟩ := own_form hown4; have FIN := terms_appended hc3 x3 x4 (by exact (Kept.refl (fun _ => False) w3).alloc _) hgrow4 hown4; have e2 := FIN.2.1; have e3 := FIN.2.2)
            go_meet
            exact ⟨FIN.1.1, hK3.trans FIN.1.2⟩
          case rest =>
            obtain ⟨hc5, hK5⟩ := hcut
            obtain ⟨tb, td, ys5, x5, _⟩ := hc5.at_
            have a2 : wc.cell? ⟨AB, 2, none⟩ = some (.int .u8 x.set) := by simp [World.cell?, x5]
            have f2 : wc.frozen? ⟨AB, 2, none⟩ = false := by simp [World.frozen?, x5]
            go_wp2_with fail
            go_region
            all_goals go_wp2
            all_goals go_ret
            all_goals
              have FIN := (hc5.drewN 1).marked (setBit x.set vars.length)
              exact ⟨ret_bool (by rw [HF.out]), by rw [HF.out]; exact FIN.1, (hK5.drewN 1).trans FIN.2⟩

end Go.Proofs.Ytondkinefmjpjaa
