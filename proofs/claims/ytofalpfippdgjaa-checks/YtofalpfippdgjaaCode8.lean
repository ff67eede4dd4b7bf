import Derived.Test.YtofalpfippdgjaaCode7
import Derived.Deep.QuietTactic
import Derived.BigQuiet
import Derived.Deep.DeepCutAuto
namespace Go.Proofs.Ytofalpfippdgjaa
open Go.RowKit

/-- While an atom's terms are read: the reader, its variables, the atom's own block. -/
structure TSt (w : World) (b base AB : Nat) (s : ByteArray) (p : Est.Pc) (vars : List ByteArray) (hv av : Value) (e a : Nat) (x : CA) : Prop where
  ex : ∃ vv, Cdr w b s p hv vv av e a ∧ w.ownsRow base 9 1 vv vars.length (strs vars)
  ab : w.heap[AB]? = some (.cells #[.string x.rel, .int .i64 x.n, .int .u8 x.set] 93 (0, 0))

def FT (b AB base : Nat) : Nat → Option Obj → Prop := fun k o => k = b ∨ k = AB ∨ (base ≤ k ∧ tag o = 9)

section
variable {w w' : World} {b base AB : Nat} {s : ByteArray} {p p' : Est.Pc} {vars : List ByteArray} {hv av : Value} {e a e' a' : Nat} {x : CA}
theorem TSt.ne (h : TSt w b base AB s p vars hv av e a x) : AB ≠ b := by
  obtain ⟨vv, h1, _⟩ := h.ex
  intro e; have := h1.tg; rw [← e, h.ab] at this; simp [tag] at this
theorem TSt.below (h : TSt w b base AB s p vars hv av e a x) (hb : Below w.heap.size w w') : TSt w' b base AB s p vars hv av e a x := by
  obtain ⟨vv, h1, h2⟩ := h.ex
  exact ⟨⟨vv, ⟨(hb.block b h1.lt).trans h1.blk⟩, own_below' h2 hb⟩, (hb.block AB (lt_of_block h.ab)).trans h.ab⟩
theorem TSt.kept {vv : Value} (h : TSt w b base AB s p vars hv av e a x) (h1 : Cdr w b s p hv vv av e a) (h2 : w.ownsRow base 9 1 vv vars.length (strs vars)) (hc : Cdr w' b s p' hv vv av e' a') (k : Kept (· = b) w w') : TSt w' b base AB s p' vars hv av e' a' x := by
  refine ⟨⟨vv, hc, own_keeps h2 (Keeps.of (F := fun j _ => j = b) k (fun _ _ x => x)) (fun j _ _ h9 _ e => ?_)⟩, (k.block AB (lt_of_block h.ab) h.ne).trans h.ab⟩
  rw [show j = b from e, h1.tg] at h9; simp at h9
end

theorem ttake (b base AB : Nat) (s : ByteArray) (p : Est.Pc) (vars : List ByteArray) (hv av : Value) (e a : Nat) (x : CA) (n : Int) (k : Nat) (w : World) (h : TSt w b base AB s p vars hv av e a x) (hn : (k : Int) = n) (hs : s.size ≤ maxLen) (hok : OkC s p) :
    Calls Try.prog 41 #[.pointer (some ⟨b, 0, none⟩), .int .i64 n] w fun y w' => y = .returned (.bool (tk p k)) ∧ TSt w' b base AB s (tp s p k) vars hv av e a x ∧ Kept (· = b) w w' := by
  obtain ⟨vv, h1, h2⟩ := h.ex
  exact (take_at b s p hv vv av e a n k w h1 hn hs hok).mono fun y w' ⟨e1, e2, e3⟩ => ⟨e1, h.kept h1 h2 e2 e3, e3⟩
theorem twant (b base AB : Nat) (s : ByteArray) (p : Est.Pc) (vars : List ByteArray) (hv av : Value) (e a : Nat) (x : CA) (n : Int) (k : Nat) (w : World) (h : TSt w b base AB s p vars hv av e a x) (hn : (k : Int) = n) (hs : s.size ≤ maxLen) (hok : OkC s p) :
    Calls Try.prog 25 #[.pointer (some ⟨b, 0, none⟩), .int .i64 n] w fun y w' => y = .returned (.bool (tk p k)) ∧ TSt w' b base AB s (tp s p k) vars hv av (if tk p k then e else 2) (if tk p k then a else p.a) x ∧ Kept (· = b) w w' := by
  obtain ⟨vv, h1, h2⟩ := h.ex
  exact (want_at b s p hv vv av e a n k w h1 hn hs hok).mono fun y w' ⟨e1, e2, e3⟩ => ⟨e1, h.kept h1 h2 e2 e3, e3⟩
theorem tfail (b base AB : Nat) (s : ByteArray) (p : Est.Pc) (vars : List ByteArray) (hv av : Value) (e a : Nat) (x : CA) (n : Int) (e' a' : Nat) (w : World) (h : TSt w b base AB s p vars hv av e a x) (hn : (e' : Int) = n) :
    Calls Try.prog 44 #[.pointer (some ⟨b, 0, none⟩), .int .i64 n, .int .i64 a'] w fun y w' => y = .returned (.bool false) ∧ TSt w' b base AB s p vars hv av e' a' x ∧ Kept (· = b) w w' := by
  obtain ⟨vv, h1, h2⟩ := h.ex
  exact (cfail_at b s p hv vv av e a n e' a' w h1 hn).mono fun y w' ⟨e1, e2, e3⟩ => ⟨e1, h.kept h1 h2 e2 e3, e3⟩

def setBit (z : Int) (n : Nat) : Int := bits BinOp.or IntKind.u8 z (2 ^ n % 256)
/-- One variable of an atom: is it one; what stands there then; the variables; the fault; the atom. -/
structure TR where
  ok : Bool
  p : Est.Pc
  vars : List ByteArray
  e : Nat
  a : Nat
  x : CA
def avR (s : ByteArray) (p : Est.Pc) (vars : List ByteArray) (e a : Nat) (x : CA) : TR :=
  if tk p 2 then
    if 0 ≤ ixOf vars p.t then ⟨true, pnext s p, vars, e, a, { x with set := setBit x.set (ixOf vars p.t).toNat }⟩
    else if vars.length = 6 then ⟨false, pnext s p, vars, 3, p.a, x⟩
    else ⟨true, pnext s p, vars ++ [p.t], e, a, { x with set := setBit x.set vars.length }⟩
  else ⟨false, p, vars, 2, p.a, x⟩
theorem ixOf_lt {vars : List ByteArray} {t : ByteArray} (h : 0 ≤ ixOf vars t) : (ixOf vars t).toNat < vars.length ∧ ((ixOf vars t).toNat : Int) = ixOf vars t := by
  unfold ixOf at h ⊢
  split at h
  · rename_i hx; rw [if_pos hx]; exact ⟨by simpa using hx, by simp⟩
  · omega

theorem vars_appended {w w1 w2 : World} {b base AB : Nat} {s : ByteArray} {p : Est.Pc} {vars : List ByteArray} {hv av vv vv' : Value} {e a : Nat} {x : CA} {t : ByteArray} (h : TSt w b base AB s p vars hv av e a x) (h1 : Cdr w b s p hv vv av e a) (h2 : w.ownsRow base 9 1 vv vars.length (strs vars))
    (hk : Kept (fun _ => False) w w1) (hg : w1.grownBy w2 vv.ownBlock) (ho : w2.ownsRow base 9 1 vv' (vars.length + 1) (strs vars ++ [.string t])) :
    (TSt (w2.setCell ⟨b, 5, none⟩ vv') b base AB s p (vars ++ [t]) hv av e a x ∧ Keeps (FT b AB base) w (w2.setCell ⟨b, 5, none⟩ vv')) ∧ w2.cell? ⟨b, 5, none⟩ = some vv ∧ w2.frozen? ⟨b, 5, none⟩ = false := by
  have hbl : ∀ k, vv.ownBlock = some k → base ≤ k ∧ tag w.heap[k]? = 9 := fun k hk => ⟨(own_tag h2 hk).1, (own_tag h2 hk).2.2⟩
  have k1 : Keeps (fun k _ => vv.ownBlock = some k) w w2 := (Keeps.of hk (fun _ _ x => x.elim)).trans (Keeps.grown (Keeps.refl _ _) hg (fun k hk => hk))
  have k2 : Keeps (fun k _ => k = b) w2 (w2.setCell ⟨b, 5, none⟩ vv') := (Keeps.refl _ _).setCell _ (fun _ => rfl) _
  have nb : vv.ownBlock ≠ some b := fun e => by have := (hbl _ e).2; rw [h1.tg] at this; simp at this
  have nA : vv.ownBlock ≠ some AB := fun e => by have := (hbl _ e).2; rw [h.ab] at this; simp [tag] at this
  have e2 : w2.heap[b]? = some (cdBlk s p hv vv av e a) := (k1.block b h1.lt nb).trans h1.blk
  have eA : w2.heap[AB]? = some (.cells #[.string x.rel, .int .i64 x.n, .int .u8 x.set] 93 (0, 0)) := (k1.block AB (lt_of_block h.ab) nA).trans h.ab
  have t2 : tag w2.heap[b]? = 60 := by rw [e2]; rfl
  refine ⟨⟨⟨⟨vv', ⟨?_⟩, ?_⟩, ?_⟩, ?_⟩, by simp [World.cell?, e2, cdBlk], by simp [World.frozen?, e2, cdBlk]⟩
  · rw [blk_setCell e2 5 vv']; simp [cdBlk, Array.setIfInBounds]
  · have := own_keeps ho k2 (fun k _ _ h9 _ e => by rw [show k = b from e, t2] at h9; simp at h9)
    simpa [strs] using this
  · rw [Below.heap_setCell _ _ _ _ h.ne]; exact eA
  · exact (k1.mono_at (fun k hk => Or.inr (Or.inr ⟨(hbl k hk).1, (hbl k hk).2⟩))).trans (k2.mono (fun _ _ x => Or.inl x))
theorem TSt.marked {w : World} {b base AB : Nat} {s : ByteArray} {p : Est.Pc} {vars : List ByteArray} {hv av : Value} {e a : Nat} {x : CA} (h : TSt w b base AB s p vars hv av e a x) (z : Int) :
    TSt (w.setCell ⟨AB, 2, none⟩ (.int .u8 z)) b base AB s p vars hv av e a { x with set := z } ∧ Keeps (FT b AB base) w (w.setCell ⟨AB, 2, none⟩ (.int .u8 z)) := by
  obtain ⟨vv, h1, h2⟩ := h.ex
  have k2 : Keeps (fun k _ => k = AB) w (w.setCell ⟨AB, 2, none⟩ (.int .u8 z)) := (Keeps.refl _ _).setCell _ (fun _ => rfl) _
  refine ⟨⟨⟨vv, h1.keeps k2 (fun e => h.ne e.symm), own_keeps h2 k2 (fun k _ _ h9 _ e => by rw [show k = AB from e, h.ab] at h9; simp [tag] at h9)⟩, ?_⟩, k2.mono (fun _ _ x => Or.inr (Or.inl x))⟩
  rw [blk_setCell h.ab 2 _]; simp [Array.setIfInBounds]
theorem TSt.drewN {w : World} {b base AB : Nat} {s : ByteArray} {p : Est.Pc} {vars : List ByteArray} {hv av : Value} {e a : Nat} {x : CA} (h : TSt w b base AB s p vars hv av e a x) (n : Nat) : TSt (w.drewN n) b base AB s p vars hv av e a x :=
  h.below ⟨rfl, rfl, rfl, Nat.le_refl _, fun _ _ => rfl⟩
theorem Keeps.drewN {F : Nat → Option Obj → Prop} {a w : World} (h : Keeps F a w) (n : Nat) : Keeps F a (w.drewN n) := ⟨h.os, h.tape, h.output, h.size, h.block⟩

set_option maxHeartbeats 4000000 in
set_option maxRecDepth 100000 in
theorem readAtomVar_any (b base AB : Nat) (s : ByteArray) (p : Est.Pc) (vars : List ByteArray) (hv av : Value) (e a : Nat) (x : CA) (w : World) (h : TSt w b base AB s p vars hv av e a x) (hs : s.size ≤ maxLen) (hok : OkC s p) (hl : vars.length ≤ 6) (hB : base ≤ w.heap.size) :
    Calls Try.prog 62 #[.pointer (some ⟨b, 0, none⟩), .pointer (some ⟨AB, 0, none⟩)] w fun y w' => y = .returned (.bool (avR s p vars e a x).ok) ∧ TSt w' b base AB s (avR s p vars e a x).p (avR s p vars e a x).vars hv av (avR s p vars e a x).e (avR s p vars e a x).a (avR s p vars e a x).x ∧ Keeps (FT b AB base) w w' := by
  obtain ⟨R, hR⟩ : ∃ R, avR s p vars e a x = R := ⟨_, rfl⟩
  have HR : Hid (avR s p vars e a x = R) := hR
  rw [hR]
  clear hR
  obtain ⟨vv, h1, h2⟩ := h.ex
  have c1 := h1.c1
  have c2 := h1.c2
  have c3 := h1.c3
  have lb := h1.lt
  have la := lt_of_block h.ab
  have ha : TSt (w.alloc (.cells #[.int .i64 p.k, .string p.t, .int .i64 p.a] 57)) b base AB s p vars hv av e a x := h.below ((Below.refl _ _).alloc (Nat.le_refl _) _)
  cases hk : tk p 2
  · have HF : Hid (R = ⟨false, p, vars, 2, p.a, x⟩) := by unfold Hid; rw [← HR.out, avR, hk]; rfl
    go_enter Try.func62, Try.ntmps62
    go_wp2_with fail
    refine (twant b base AB s p vars hv av e a x 2 2 _ ha rfl hs hok).mono ?_
    rintro y w1 ⟨rfl, hc1, k1⟩
    rw [hk, tp_no hk] at hc1
    rw [hk]
    clear hk
    go_wp2
    go_ret
    exact ⟨ret_bool (by rw [HF.out]), by rw [HF.out]; exact hc1, ((Keeps.refl _ _).alloc _).trans (Keeps.of k1 (fun _ _ x => Or.inl x))⟩
  · have HK : Hid (tk p 2 = true) := hk
    go_enter Try.func62, Try.ntmps62
    go_wp2_with fail
    refine (twant b base AB s p vars hv av e a x 2 2 _ ha rfl hs hok).mono ?_
    rintro y w1 ⟨rfl, hc1, k1⟩
    rw [hk, if_pos rfl, if_pos rfl, tp_yes hk] at hc1
    rw [hk]
    clear hk
    have hK1 : Keeps (FT b AB base) w w1 := ((Keeps.refl _ _).alloc _).trans (Keeps.of k1 (fun _ _ x => Or.inl x))
    have bl1 : w1.heap[w.heap.size]? = some (.cells #[.int .i64 p.k, .string p.t, .int .i64 p.a] 57 (0, 0)) := (k1.block w.heap.size (by simp) (show ¬ w.heap.size = b by omega)).trans (heap_alloc_new _ _)
    have v1 : w1.cell? ⟨w.heap.size, 1, none⟩ = some (.string p.t) := by simp [World.cell?, bl1]
    have v2 : w1.cell? ⟨w.heap.size, 2, none⟩ = some (.int .i64 p.a) := by simp [World.cell?, bl1]
    have lv : w.heap.size < w1.heap.size := lt_of_block bl1
    obtain ⟨vv1, g1, g2⟩ := hc1.ex
    have d5 := g1.c5
    have lb1 := g1.lt
    have hB1 : base ≤ w1.heap.size := Nat.le_trans hB hK1.size
    obtain ⟨i1, hix⟩ : ∃ i, ixOf vars p.t = i := ⟨_, rfl⟩
    have HIX : Hid (ixOf vars p.t = i1) := hix
    have a2 : w1.cell? ⟨AB, 2, none⟩ = some (.int .u8 x.set) := by simp [World.cell?, hc1.ab]
    have f2 : w1.frozen? ⟨AB, 2, none⟩ = false := by simp [World.frozen?, hc1.ab]
    clear h1 h2 c1 c2 c3 h ha k1
    by_cases hn : 0 ≤ i1
    · obtain ⟨n, hni⟩ : ∃ n : Nat, i1 = n := ⟨i1.toNat, by omega⟩
      subst hni
      have hn5 : n ≤ 5 := by
        have := ixOf_lt (vars := vars) (t := p.t) (by rw [hix]; exact hn)
        rw [hix] at this; have := this.1; simp at this; omega
      have HF : Hid (R = ⟨true, pnext s p, vars, e, a, { x with set := setBit x.set n }⟩) := by
        unfold Hid; rw [← HR.out, avR, HK.out, if_pos rfl, HIX.out, if_pos hn]; simp
      clear hix
      go_wp2_with fail
      go_quiet ((go_at_call 46; exact Calls.quiet_of_same (Index_any base vars vv1 p.t _ (by exact g2) (by omega))))
      rw [HIX.out]
      go_wp2_with fail
      go_region
      all_goals go_wp2
      all_goals go_ret
      all_goals
        have FIN := (hc1.drewN (nq + 1)).marked (setBit x.set n)
        exact ⟨ret_bool (by rw [HF.out]), by rw [HF.out]; exact FIN.1, (hK1.drewN (nq + 1)).trans FIN.2⟩
    · obtain ⟨va, vcap, hvv⟩ := own_form g2
      subst hvv
      by_cases h6 : vars.length = 6
      · have HF : Hid (R = ⟨false, pnext s p, vars, 3, p.a, x⟩) := by
          unfold Hid; rw [← HR.out, avR, HK.out, if_pos rfl, HIX.out, if_neg hn, if_pos h6]
        have h6' : ((vars.length : Int) == 6) = true := by rw [h6]; rfl
        have hi0 : i1 < 0 := by omega
        clear hix h6
        go_wp2_with fail
        go_quiet ((go_at_call 46; exact Calls.quiet_of_same (Index_any base vars _ p.t _ (by exact g2) (by omega))))
        rw [HIX.out]
        go_wp2_with fail
        refine (tfail b base AB s _ vars hv av e a x 3 3 p.a _ (hc1.drewN nq) rfl).mono ?_
        rintro y w2 ⟨rfl, hc2, k2⟩
        go_wp2
        go_ret
        exact ⟨ret_bool (by rw [HF.out]), by rw [HF.out]; exact hc2, (hK1.drewN nq).trans (Keeps.of k2 (fun _ _ x => Or.inl x))⟩
      · have HF : Hid (R = ⟨true, pnext s p, vars ++ [p.t], e, a, { x with set := setBit x.set vars.length }⟩) := by
          unfold Hid; rw [← HR.out, avR, HK.out, if_pos rfl, HIX.out, if_neg hn, if_neg h6]
        have h6' : ((vars.length : Int) == 6) = false := beq_eq_false_iff_ne.2 (by omega)
        have hi0 : i1 < 0 := by omega
        have hl5 : vars.length ≤ 5 := by omega
        clear hix h6
        obtain ⟨i0, hi, hz0, hz1, hz2⟩ := info_parts Try.info9
        have HI : Hid _ := hi
        have HZ0 : Hid _ := hz0
        have HZ1 : Hid _ := hz1
        have HZ2 : Hid _ := hz2
        clear hi hz0 hz1 hz2
        go_wp2_with fail
        go_quiet ((go_at_call 46; exact Calls.quiet_of_same (Index_any base vars _ p.t _ (by exact g2) (by omega))))
        rw [HIX.out]
        obtain ⟨w2, hw2⟩ : ∃ w2 : World, w2 = w1.drewN nq := ⟨_, rfl⟩
        have hc2 : TSt w2 b base AB s (pnext s p) vars hv av e a x := by rw [hw2]; exact hc1.drewN nq
        have hK2 : Keeps (FT b AB base) w w2 := by rw [hw2]; exact hK1.drewN nq
        have g12 : Cdr w2 b s (pnext s p) hv (.slice va vars.length vcap) av e a := by rw [hw2]; exact ⟨g1.blk⟩
        have g22 : w2.ownsRow base 9 1 (.slice va vars.length vcap) vars.length (strs vars) := by rw [hw2]; exact own_below' g2 ⟨rfl, rfl, rfl, Nat.le_refl _, fun _ _ => rfl⟩
        have v12 : w2.cell? ⟨w.heap.size, 1, none⟩ = some (.string p.t) := by rw [hw2]; exact v1
        have v22 : w2.cell? ⟨w.heap.size, 2, none⟩ = some (.int .i64 p.a) := by rw [hw2]; exact v2
        have d52 := g12.c5
        have l1 := g12.lt
        have l2 : w.heap.size < w2.heap.size := by rw [hw2]; exact lv
        have hB2 : base ≤ w2.heap.size := by rw [hw2]; exact hB1
        rw [← hw2]
        clear hw2 hc1 hK1 g1 g2 v1 v2 d5 a2 f2 bl1 lv lb1 hB1
        go_upto_region 9 with fail
        go_cut [] (fun wx => TSt wx b base AB s (pnext s p) (vars ++ [p.t]) hv av e a x ∧ Keeps (FT b AB base) w wx)
        case first =>
          go_region_law (refine step_append_own rfl (.tmp 41) (.tmp 44) 35 rfl base 9 i0 (.string ⟨#[]⟩) 1 16 Try.underlying35 HI.out HZ0.out HZ1.out HZ2.out rfl (by decide) (.slice va vars.length vcap) _ _ rfl (by exact (g22.alloc _)) ⟨w2.heap.size, 0, none⟩ 1 1 [.string p.t] rfl rfl (one_new _ _ _) (by intro u hu; simp at hu; subst hu; rfl) (by unfold maxLen; omega) (by omega) (by simp; omega) ?_; intro v' w3 hown3 hgrow3; obtain ⟨va3, cap3, rfl⟩ := own_form hown3; have FIN := vars_appended (t := p.t) hc2 g12 g22 (by exact ((Kept.refl (fun _ => False) w2).alloc _).drew) hgrow3 hown3; have e2 := FIN.2.1; have e3 := FIN.2.2)
          all_goals (go_wp2; go_meet)
          all_goals exact ⟨FIN.1.1, hK2.trans FIN.1.2⟩
        case rest =>
          obtain ⟨hc3, hK3⟩ := hcut
          have a2 : wc.cell? ⟨AB, 2, none⟩ = some (.int .u8 x.set) := by simp [World.cell?, hc3.ab]
          have f2 : wc.frozen? ⟨AB, 2, none⟩ = false := by simp [World.frozen?, hc3.ab]
          go_wp2_with fail
          go_region
          all_goals go_wp2
          all_goals go_ret
          all_goals
            have FIN := (hc3.drewN 1).marked (setBit x.set vars.length)
            exact ⟨ret_bool (by rw [HF.out]), by rw [HF.out]; exact FIN.1, (hK3.drewN 1).trans FIN.2⟩

end Go.Proofs.Ytofalpfippdgjaa
