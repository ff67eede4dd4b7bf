import Derived.Test.YtondkinefmjpjaaCode3
import Derived.Test.YtondkinefmjpjaaCode4
import Derived.Test.YtondkinefmjpjaaRef6
namespace Go.Proofs.Ytondkinefmjpjaa
open Go.RowKit

/-- An atom of the program: its relation, how many terms, which variables. -/
structure CA where
  rel : ByteArray
  n : Nat
  set : Int
/-- Atoms as they lie in memory; of each its terms' slice: where it lies, and its room. -/
def ccell (d : CA) (t : Option Addr × Nat) : List Value := [.string d.rel, .slice t.1 d.n t.2, .int .u8 d.set]
def ccells (l : List CA) (ts : List (Option Addr × Nat)) : List Value := (List.zipWith ccell l ts).flatten
theorem ccells_snoc (l : List CA) (ts : List (Option Addr × Nat)) (d : CA) (t : Option Addr × Nat) (h : ts.length = l.length) : ccells (l ++ [d]) (ts ++ [t]) = ccells l ts ++ [.string d.rel, .slice t.1 d.n t.2, .int .u8 d.set] := by
  unfold ccells; rw [List.zipWith_append h.symm]; simp [ccell]
/-- The row of the atoms. -/
def AR (w : World) (base : Nat) (av : Value) (l : List CA) : Prop := ∃ ts : List (Option Addr × Nat), ts.length = l.length ∧ w.ownsRow base 95 3 av l.length (ccells l ts)
theorem AR.keeps {F : Nat → Option Obj → Prop} {w w' : World} {base : Nat} {av : Value} {l : List CA} (h : AR w base av l) (hk : Keeps F w w')
    (hf : ∀ k, base ≤ k → k < w.heap.size → tag w.heap[k]? = 95 → av.ownBlock = some k → ¬ F k w.heap[k]?) : AR w' base av l := by
  obtain ⟨ts, h1, h2⟩ := h
  exact ⟨ts, h1, own_keeps h2 hk hf⟩
theorem AR.form {w : World} {base : Nat} {av : Value} {l : List CA} (h : AR w base av l) : ∃ a cap, av = .slice a l.length cap := by
  obtain ⟨ts, _, h2⟩ := h
  exact own_form h2

/-- The program's reader: the piece that stands next, head, variables, atoms, the fault. -/
structure CS where
  p : Est.Pc
  hd : List Est.Pc
  vars : List ByteArray
  ats : List CA
  e : Nat
  a : Nat

structure CSt (w : World) (b base : Nat) (s : ByteArray) (c : CS) : Prop where
  ex : ∃ hv vv av, Cdr w b s c.p hv vv av c.e c.a ∧ w.ownsRow base 58 3 hv c.hd.length (pcells c.hd) ∧ w.ownsRow base 9 1 vv c.vars.length (strs c.vars) ∧ AR w base av c.ats

section
variable {w w' : World} {b base : Nat} {s : ByteArray} {c : CS}
theorem CSt.keeps {F : Nat → Option Obj → Prop} (h : CSt w b base s c) (k : Keeps F w w') (hb : ¬ F b w.heap[b]?) (hr : ∀ j, base ≤ j → (tag w.heap[j]? = 58 ∨ tag w.heap[j]? = 9 ∨ tag w.heap[j]? = 95) → ¬ F j w.heap[j]?) : CSt w' b base s c := by
  obtain ⟨hv, vv, av, h1, h2, h3, h4⟩ := h.ex
  exact ⟨hv, vv, av, h1.keeps k hb, own_keeps h2 k (fun j hj _ ht _ => hr j hj (Or.inl ht)), own_keeps h3 k (fun j hj _ ht _ => hr j hj (Or.inr (Or.inl ht))), AR.keeps h4 k (fun j hj _ ht _ => hr j hj (Or.inr (Or.inr ht)))⟩
theorem CSt.below (h : CSt w b base s c) (hb : Below w.heap.size w w') : CSt w' b base s c :=
  h.keeps (F := fun _ _ => False) ⟨hb.os, hb.tape, hb.output, hb.size, fun k hk _ => hb.block k hk⟩ (fun x => x) (fun _ _ _ x => x)
theorem CSt.alloc (h : CSt w b base s c) (o : Obj) : CSt (w.alloc o) b base s c := h.below ((Below.refl _ _).alloc (Nat.le_refl _) _)
/-- Behind a method that touches the reader's own block alone. -/
theorem CSt.kept {hv vv av : Value} {p' : Est.Pc} {e' a' : Nat} (h1 : Cdr w b s c.p hv vv av c.e c.a) (h2 : w.ownsRow base 58 3 hv c.hd.length (pcells c.hd)) (h3 : w.ownsRow base 9 1 vv c.vars.length (strs c.vars)) (h4 : AR w base av c.ats)
    (hc : Cdr w' b s p' hv vv av e' a') (k : Kept (· = b) w w') : CSt w' b base s { c with p := p', e := e', a := a' } := by
  have hK : Keeps (fun j _ => j = b) w w' := Keeps.of k (fun _ _ x => x)
  have ht : ∀ j (n : Nat), n ≠ 61 → tag w.heap[j]? = n → ¬ (j = b) := by
    intro j n hn h9 e; rw [e, h1.tg] at h9; exact hn h9.symm
  exact ⟨hv, vv, av, hc, own_keeps h2 hK (fun j _ _ h9 _ => ht j 58 (by decide) h9), own_keeps h3 hK (fun j _ _ h9 _ => ht j 9 (by decide) h9), AR.keeps h4 hK (fun j _ _ h9 _ => ht j 95 (by decide) h9)⟩
end

set_option maxHeartbeats 1000000 in
theorem ctake (b base : Nat) (s : ByteArray) (c : CS) (n : Int) (k : Nat) (w : World) (h : CSt w b base s c) (hn : (k : Int) = n) (hs : s.size ≤ maxLen) (hok : OkC s c.p) :
    Calls Try.prog 45 #[.pointer (some ⟨b, 0, none⟩), .int .i64 n] w fun x w' => x = .returned (.bool (tk c.p k)) ∧ CSt w' b base s { c with p := tp s c.p k } ∧ Kept (· = b) w w' := by
  obtain ⟨hv, vv, av, h1, h2, h3, h4⟩ := h.ex
  exact (take_at b s c.p hv vv av c.e c.a n k w h1 hn hs hok).mono fun x w' ⟨e1, e2, e3⟩ => ⟨e1, CSt.kept h1 h2 h3 h4 e2 e3, e3⟩
/-- Behind 'want'. -/
def cw (s : ByteArray) (c : CS) (k : Nat) : CS := { c with p := tp s c.p k, e := if tk c.p k then c.e else 2, a := if tk c.p k then c.a else c.p.a }
theorem cwant (b base : Nat) (s : ByteArray) (c : CS) (n : Int) (k : Nat) (w : World) (h : CSt w b base s c) (hn : (k : Int) = n) (hs : s.size ≤ maxLen) (hok : OkC s c.p) :
    Calls Try.prog 27 #[.pointer (some ⟨b, 0, none⟩), .int .i64 n] w fun x w' => x = .returned (.bool (tk c.p k)) ∧ CSt w' b base s (cw s c k) ∧ Kept (· = b) w w' := by
  obtain ⟨hv, vv, av, h1, h2, h3, h4⟩ := h.ex
  exact (want_at b s c.p hv vv av c.e c.a n k w h1 hn hs hok).mono fun x w' ⟨e1, e2, e3⟩ => ⟨e1, CSt.kept h1 h2 h3 h4 e2 e3, e3⟩
theorem cfail (b base : Nat) (s : ByteArray) (c : CS) (n : Int) (e' a' : Nat) (w : World) (h : CSt w b base s c) (hn : (e' : Int) = n) :
    Calls Try.prog 48 #[.pointer (some ⟨b, 0, none⟩), .int .i64 n, .int .i64 a'] w fun x w' => x = .returned (.bool false) ∧ CSt w' b base s { c with e := e', a := a' } ∧ Kept (· = b) w w' := by
  obtain ⟨hv, vv, av, h1, h2, h3, h4⟩ := h.ex
  exact (cfail_at b s c.p hv vv av c.e c.a n e' a' w h1 hn).mono fun x w' ⟨e1, e2, e3⟩ => ⟨e1, CSt.kept h1 h2 h3 h4 e2 e3, e3⟩

/-- One variable of the head. -/
def rhB (c : CS) : Bool := tk c.p 2 && !decide (0 ≤ pixOf c.hd c.p.t) && !decide (c.hd.length = 6)
def rhC (s : ByteArray) (c : CS) : CS :=
  if tk c.p 2 then
    if 0 ≤ pixOf c.hd c.p.t then { c with p := pnext s c.p, e := 4, a := c.p.a }
    else if c.hd.length = 6 then { c with p := pnext s c.p, e := 3, a := c.p.a }
    else { c with p := pnext s c.p, hd := c.hd ++ [c.p] }
  else { c with e := 2, a := c.p.a }
def FH (b base : Nat) : Nat → Option Obj → Prop := fun k o => k = b ∨ (base ≤ k ∧ tag o = 58)
theorem Try.info58 : (Try.prog.info? 58).map (fun i => (i.zero, i.size, i.bytes)) = some (some (.agg #[.int .i64 0, .string ⟨#[]⟩, .int .i64 0]), 3, 32) := by kernel_rfl

theorem head_appended {w w1 w2 : World} {b base : Nat} {s : ByteArray} {c : CS} {hv vv av hv' : Value} {q : Est.Pc} (h1 : Cdr w b s c.p hv vv av c.e c.a) (h2 : w.ownsRow base 58 3 hv c.hd.length (pcells c.hd)) (h3 : w.ownsRow base 9 1 vv c.vars.length (strs c.vars)) (h4 : AR w base av c.ats)
    (hk : Kept (fun _ => False) w w1) (hg : w1.grownBy w2 hv.ownBlock) (ho : w2.ownsRow base 58 3 hv' (c.hd.length + 1) (pcells c.hd ++ [.int .i64 q.k, .string q.t, .int .i64 q.a])) :
    (CSt (w2.setCell ⟨b, 4, none⟩ hv') b base s { c with hd := c.hd ++ [q] } ∧ Keeps (FH b base) w (w2.setCell ⟨b, 4, none⟩ hv')) ∧ w2.cell? ⟨b, 4, none⟩ = some hv ∧ w2.frozen? ⟨b, 4, none⟩ = false := by
  have hbl : ∀ k, hv.ownBlock = some k → base ≤ k ∧ tag w.heap[k]? = 58 := fun k hk => ⟨(own_tag h2 hk).1, (own_tag h2 hk).2.2⟩
  have k1 : Keeps (fun k _ => hv.ownBlock = some k) w w2 := (Keeps.of hk (fun _ _ x => x.elim)).trans (Keeps.grown (Keeps.refl _ _) hg (fun k hk => hk))
  have k2 : Keeps (fun k _ => k = b) w2 (w2.setCell ⟨b, 4, none⟩ hv') := (Keeps.refl _ _).setCell _ (fun _ => rfl) _
  have nb : hv.ownBlock ≠ some b := fun e => by have := (hbl _ e).2; rw [h1.tg] at this; simp at this
  have e2 : w2.heap[b]? = some (cdBlk s c.p hv vv av c.e c.a) := (k1.block b h1.lt nb).trans h1.blk
  have t2 : tag w2.heap[b]? = 61 := by rw [e2]; rfl
  have row : ∀ {v : Value} {bb n z t : Nat} {ys : List Value}, t ≠ 61 → w2.ownsRow bb t z v n ys → (w2.setCell ⟨b, 4, none⟩ hv').ownsRow bb t z v n ys := fun ht hx => own_keeps hx k2 (fun k _ _ h9 _ e => by rw [show k = b from e, t2] at h9; exact ht h9.symm)
  refine ⟨⟨⟨hv', vv, av, ⟨?_⟩, ?_, row (by decide) (own_keeps h3 k1 (fun k _ _ h9 _ e => by have := (hbl k e).2; rw [h9] at this; simp at this)), AR.keeps (AR.keeps h4 k1 (fun k _ _ h9 _ e => by have := (hbl k e).2; rw [h9] at this; simp at this)) k2 (fun k _ _ h9 _ e => by rw [show k = b from e, t2] at h9; simp at h9)⟩, ?_⟩, by simp [World.cell?, e2, cdBlk], by simp [World.frozen?, e2, cdBlk]⟩
  · rw [blk_setCell e2 4 hv']; simp [cdBlk, Array.setIfInBounds]
  · rw [pcells_snoc, List.length_append]; exact row (by decide) ho
  · exact (k1.mono_at (fun k hk => Or.inr ⟨(hbl k hk).1, (hbl k hk).2⟩)).trans (k2.mono (fun _ _ x => Or.inl x))

set_option maxHeartbeats 4000000 in
set_option maxRecDepth 100000 in
theorem readHeadVar_any (b base : Nat) (s : ByteArray) (c : CS) (w : World) (h : CSt w b base s c) (hs : s.size ≤ maxLen) (hok : OkC s c.p) (hl : c.hd.length ≤ 100) (hB : base ≤ w.heap.size) :
    Calls Try.prog 47 #[.pointer (some ⟨b, 0, none⟩)] w fun x w' => x = .returned (.bool (rhB c)) ∧ CSt w' b base s (rhC s c) ∧ Keeps (FH b base) w w' := by
  obtain ⟨hv, vv, av, h1, h2, h3, h4⟩ := h.ex
  have c1 := h1.c1
  have c2 := h1.c2
  have c3 := h1.c3
  have lb := h1.lt
  have ha := h.alloc (.cells #[.int .i64 c.p.k, .string c.p.t, .int .i64 c.p.a] 58)
  cases hk : tk c.p 2
  · have HC : Hid (rhC s c = cw s c 2 ∧ rhB c = false) := by
      constructor
      · unfold rhC cw; rw [hk, tp_no hk]; rfl
      · unfold rhB; rw [hk]; rfl
    go_enter Try.func47, Try.ntmps47
    go_wp2_with fail
    refine (cwant b base s c 2 2 _ ha rfl hs hok).mono ?_
    rintro x w1 ⟨rfl, hc1, k1⟩
    rw [hk]
    clear hk
    go_wp2
    go_ret
    exact ⟨ret_bool HC.out.2.symm, by rw [HC.out.1]; exact hc1, ((Keeps.refl _ _).alloc _).trans (Keeps.of k1 (fun _ _ x => Or.inl x))⟩
  · have HK : Hid (tk c.p 2 = true) := hk
    have HW : Hid (cw s c 2 = { c with p := pnext s c.p }) := by unfold Hid cw; rw [hk, tp_yes hk]; rfl
    go_enter Try.func47, Try.ntmps47
    go_wp2_with fail
    refine (cwant b base s c 2 2 _ ha rfl hs hok).mono ?_
    rintro x w1 ⟨rfl, hc1, k1⟩
    rw [HW.out] at hc1
    rw [hk]
    clear hk
    have bl1 : w1.heap[w.heap.size]? = some (.cells #[.int .i64 c.p.k, .string c.p.t, .int .i64 c.p.a] 58 (0, 0)) := (k1.block w.heap.size (by simp) (show ¬ w.heap.size = b by omega)).trans (heap_alloc_new _ _)
    have hK1 : Keeps (FH b base) w w1 := ((Keeps.refl _ _).alloc _).trans (Keeps.of k1 (fun _ _ x => Or.inl x))
    have v1 : w1.cell? ⟨w.heap.size, 1, none⟩ = some (.string c.p.t) := by simp [World.cell?, bl1]
    obtain ⟨hv1, vv1, av1, g1, g2, g3, g4⟩ := hc1.ex
    have g1' : Cdr w1 b s (pnext s c.p) hv1 vv1 av1 c.e c.a := g1
    have d4 := g1.c4
    clear ha k1 h1 h2 h3 h4 c1 c2 c3 h
    go_upto_region 4 with fail
    go_cut [16] (fun x wx => x = .bool (decide (0 ≤ pixOf c.hd c.p.t)) ∧ Below w1.heap.size w1 wx)
    case first =>
      go_region_with (go_at_call 53; refine (headHas_any b base c.hd hv1 c.p.t _ (by exact d4) (by exact (own_keeps g2 (F := fun _ _ => False) (Keeps.refl _ _).drew (fun _ _ _ _ _ x => x))) (by omega)).mono ?_; rintro x w2 ⟨rfl, hb2⟩)
      all_goals (go_wp2; go_meet)
      all_goals exact ⟨rfl, ⟨hb2.os, hb2.tape, hb2.output, hb2.size, hb2.block⟩⟩
    case rest =>
      obtain ⟨rfl, hb2⟩ := hcut
      obtain ⟨w2, hw2⟩ : ∃ w2 : World, w2 = wc := ⟨_, rfl⟩
      subst hw2
      have hc2 := hc1.below hb2
      have hK2 : Keeps (FH b base) w w2 := hK1.below hb2
      have bl2 := (hb2.block w.heap.size (lt_of_block bl1)).trans bl1
      have z1 : w2.cell? ⟨w.heap.size, 0, none⟩ = some (.int .i64 c.p.k) := by simp [World.cell?, bl2]
      have z2 : w2.cell? ⟨w.heap.size, 1, none⟩ = some (.string c.p.t) := by simp [World.cell?, bl2]
      have z3 : w2.cell? ⟨w.heap.size, 2, none⟩ = some (.int .i64 c.p.a) := by simp [World.cell?, bl2]
      have l2 : w.heap.size < w2.heap.size := lt_of_block bl2
      clear g1 g1' g2 g3 g4 d4 v1 hc1 bl1 hb2 hK1
      obtain ⟨hv2, vv2, av2, g1, g2, g3, g4⟩ := hc2.ex
      have d4 := g1.c4
      have lb2 := g1.lt
      have hB2 : base ≤ w2.heap.size := Nat.le_trans hB hK2.size
      obtain ⟨ha2, hcap2, hhv⟩ := own_form g2
      have hhv' : hv2 = .slice ha2 c.hd.length hcap2 := hhv
      subst hhv'
      cases hx : decide (0 ≤ pixOf c.hd c.p.t)
      · by_cases h6 : c.hd.length = 6
        · have HC : Hid (rhC s c = { c with p := pnext s c.p, e := 3, a := c.p.a } ∧ rhB c = false) := by
            constructor
            · unfold rhC; rw [HK.out, if_pos rfl, if_neg (of_decide_eq_false hx), if_pos h6]
            · unfold rhB; rw [h6]; simp
          have h6' : ((c.hd.length : Int) == 6) = true := by rw [h6]; rfl
          have H6 : Hid (c.hd.length = 6) := h6
          clear h6 hx
          go_wp2_with fail
          refine (cfail b base s _ 3 3 c.p.a _ hc2 rfl).mono ?_
          rintro x w3 ⟨rfl, hc3, k3⟩
          go_wp2
          go_ret
          exact ⟨ret_bool HC.out.2.symm, by rw [HC.out.1]; exact hc3, hK2.trans (Keeps.of k3 (fun _ _ x => Or.inl x))⟩
        · have HC : Hid (rhC s c = { c with p := pnext s c.p, hd := c.hd ++ [c.p] } ∧ rhB c = true) := by
            constructor
            · unfold rhC; rw [HK.out, if_pos rfl, if_neg (of_decide_eq_false hx), if_neg h6]
            · unfold rhB; rw [HK.out, hx, decide_eq_false h6]; rfl
          have h6' : ((c.hd.length : Int) == 6) = false := beq_eq_false_iff_ne.2 (by omega)
          clear h6 hx
          obtain ⟨i0, hi, hz0, hz1, hz2⟩ := info_parts Try.info58
          have HI : Hid _ := hi
          have HZ0 : Hid _ := hz0
          have HZ1 : Hid _ := hz1
          have HZ2 : Hid _ := hz2
          clear hi hz0 hz1 hz2
          go_wp2_with fail
          go_region_law (refine step_append_own rfl (.tmp 37) (.tmp 39) 34 rfl base 58 i0 (.agg #[.int .i64 0, .string ⟨#[]⟩, .int .i64 0]) 3 32 Try.underlying34 HI.out HZ0.out HZ1.out HZ2.out rfl (by decide) (.slice ha2 c.hd.length hcap2) _ _ rfl (by exact (g2.alloc _)) ⟨w2.heap.size, 0, none⟩ 1 1 [.int .i64 c.p.k, .string c.p.t, .int .i64 c.p.a] rfl rfl (three_new _ _ _ _ _) (by intro u hu; simp at hu; rcases hu with rfl | rfl | rfl <;> rfl) (by unfold maxLen; omega) (by omega) (by simp; omega) ?_; intro v' w3 hown3 hgrow3; obtain ⟨va3, cap3, rfl⟩ := own_form hown3; have FIN := head_appended (c := { c with p := pnext s c.p }) (q := c.p) g1 g2 g3 g4 (by exact ((Kept.refl (fun _ => False) w2).alloc _).drew) hgrow3 hown3; have e2 := FIN.2.1; have e3 := FIN.2.2)
          all_goals go_wp2
          all_goals go_ret
          all_goals exact ⟨ret_bool HC.out.2.symm, by rw [HC.out.1]; exact FIN.1.1, hK2.trans FIN.1.2⟩
      · have HC : Hid (rhC s c = { c with p := pnext s c.p, e := 4, a := c.p.a } ∧ rhB c = false) := by
          constructor
          · unfold rhC; rw [HK.out, if_pos rfl, if_pos (of_decide_eq_true hx)]
          · unfold rhB; rw [hx]; simp
        clear hx
        go_wp2_with fail
        refine (cfail b base s _ 4 4 c.p.a _ hc2 rfl).mono ?_
        rintro x w3 ⟨rfl, hc3, k3⟩
        go_wp2
        go_ret
        exact ⟨ret_bool HC.out.2.symm, by rw [HC.out.1]; exact hc3, hK2.trans (Keeps.of k3 (fun _ _ x => Or.inl x))⟩

end Go.Proofs.Ytondkinefmjpjaa
