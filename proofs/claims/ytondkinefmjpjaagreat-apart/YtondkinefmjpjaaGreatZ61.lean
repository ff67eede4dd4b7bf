import Derived.Test.YtondkinefmjpjaaGreatZ53
import Derived.Test.YtondkinefmjpjaaGreatZ57
import Derived.Test.YtondkinefmjpjaaGreatZ60
namespace Go.Proofs.YtondkinefmjpjaaGreat
open Go.RowKit Go.WideMaps Go.WideElems Go.Maps Go.Shelf
def IsC (w : World) (b : Nat) : Prop := ∃ (c : Array Value) (t : TypeId) (z : Nat × Nat), w.heap[b]? = some (.cells c t z)
def SpM (B hi : Nat) (w : World) (b : Nat) : Prop := B ≤ b ∧ b < hi ∧ IsC w b
structure Sp (B hi : Nat) (w w' : World) : Prop where
  fr : Fr (SpM B hi w) w w'
  blk : ∀ (b : Nat) (cur : Array Value) (t : TypeId), w.heap[b]? = some (.cells cur t (0, 0)) → ∃ cur' : Array Value, w'.heap[b]? = some (.cells cur' t (0, 0)) ∧ ∀ (j : Nat) (x : Value), cur[j]? = some x → (∃ y, x = .int .i64 y ∧ ∃ y', cur'[j]? = some (.int .i64 y')) ∨ ((∀ y, x ≠ .int .i64 y) ∧ cur'[j]? = some x)
theorem cells_keep (cur : Array Value) (j : Nat) (x : Value) (h : cur[j]? = some x) : (∃ y, x = .int .i64 y ∧ ∃ y', cur[j]? = some (.int .i64 y')) ∨ ((∀ y, x ≠ .int .i64 y) ∧ cur[j]? = some x) := by
  by_cases e : ∃ y, x = .int .i64 y
  · obtain ⟨y, rfl⟩ := e
    exact .inl ⟨y, rfl, y, h⟩
  · exact .inr ⟨fun y k => e ⟨y, k⟩, h⟩
theorem Sp.refl (B hi : Nat) (w : World) : Sp B hi w w := ⟨Fr.refl _ _, fun _ cur _ h => ⟨cur, h, fun j x hx => cells_keep cur j x hx⟩⟩
theorem Sp.trans {B hi : Nat} {w w1 w2 : World} (h : Sp B hi w w1) (h' : Sp B hi w1 w2) : Sp B hi w w2 := by
  refine ⟨h.fr.trans h'.fr (fun i hi' hM => ?_), fun b cur t e => ?_⟩
  · by_cases k : SpM B hi w i
    · exact k
    · obtain ⟨a1, a2, c, t, z, e⟩ := hM
      exact ⟨a1, a2, c, t, z, (h.fr.block i hi' k).symm.trans e⟩
  · obtain ⟨c1, e1, k1⟩ := h.blk b cur t e
    obtain ⟨c2, e2, k2⟩ := h'.blk b c1 t e1
    refine ⟨c2, e2, fun j x hx => ?_⟩
    rcases k1 j x hx with ⟨y, rfl, y', q⟩ | ⟨q1, q2⟩
    · rcases k2 j _ q with ⟨_, _, r⟩ | ⟨r, _⟩
      · exact .inl ⟨y, rfl, r⟩
      · exact absurd rfl (r y')
    · rcases k2 j _ q2 with ⟨y, r, _⟩ | r
      · exact absurd r (q1 y)
      · exact .inr r
theorem Sp.set {B hi : Nat} {w : World} {b k : Nat} {cur : Array Value} {t : TypeId} (hb : w.heap[b]? = some (.cells cur t (0, 0))) (h1 : B ≤ b) (h2 : b < hi) {y : Int} (hk : cur[k]? = some (.int .i64 y)) (y' : Int) : Sp B hi w (w.setCell ⟨b, k, none⟩ (.int .i64 y')) := by
  refine ⟨Fr.setCell _ _ (fun _ => ⟨h1, h2, _, _, _, hb⟩), fun b' cur' t' e => ?_⟩
  by_cases hb' : b' = b
  · subst hb'
    rw [hb] at e
    simp only [Option.some.injEq, Obj.cells.injEq, and_true] at e
    obtain ⟨rfl, rfl⟩ := e
    refine ⟨cur.setIfInBounds k (.int .i64 y'), heap_setCell_same w b' k cur t _ hb, fun j x hx => ?_⟩
    rw [Array.getElem?_setIfInBounds]
    by_cases e : k = j
    · subst e
      rw [hk] at hx
      have hlt : k < cur.size := (Array.getElem?_eq_some_iff.1 hk).1
      rw [if_pos rfl, if_pos hlt]
      exact .inl ⟨y, (Option.some.inj hx).symm, y', rfl⟩
    · rw [if_neg e]
      exact cells_keep cur j x hx
  · exact ⟨cur', (Below.heap_setCell _ _ _ _ hb').trans e, fun j x hx => cells_keep cur' j x hx⟩
theorem Sp.mono {B B' hi hi' : Nat} {w w' : World} (h : Sp B hi w w') (hB : B' ≤ B) (hh : hi ≤ hi') : Sp B' hi' w w' := ⟨h.fr.mono fun _ _ k => ⟨Nat.le_trans hB k.1, Nat.lt_of_lt_of_le k.2.1 hh, k.2.2⟩, h.blk⟩
theorem Sp.below {B hi : Nat} {w w' : World} (h : Sp B hi w w') : Below B w w' ∨ w.heap.size < B := by
  by_cases e : w.heap.size < B
  · exact .inr e
  · exact .inl ⟨h.fr.os, h.fr.tape, h.fr.output, h.fr.size, fun i hi' => h.fr.block i (by omega) (fun k => by have := k.1; omega)⟩
theorem Sp.own {B hi : Nat} {w w' : World} (h : Sp B hi w w') {base : Nat} (hb : hi ≤ base) {e : TypeId} {size : Nat} {v : Value} {n : Nat} {xs : List Value} (ho : w.ownsRow base e size v n xs) : w'.ownsRow base e size v n xs := by
  refine ⟨ho.1, ?_⟩
  rcases ho.2 with hn | ⟨g, cap, cur, rfl, h1, h2, rest⟩
  · exact .inl hn
  · exact .inr ⟨g, cap, cur, rfl, h1, (h.fr.block g (vlt_of_block h2) (fun k => by have := k.2.1; omega)).trans h2, rest⟩
theorem RNew.sp {B hi : Nat} {w w' : World} {e : TypeId} {base : Nat} {v : Value} {us : List Value} {l : Rws} (hr : RNew e base w v us l) (h : Sp B hi w w') (hb : hi ≤ base) : RNew e base w' v us l :=
  ⟨hr.1, h.own hb hr.2.1, fun j hj => h.own hb (hr.2.2 j hj)⟩
def IntRow (B hi : Nat) (w : World) (v : Value) : Prop :=
  ∃ a n c, v = .slice a n c ∧ n < 4611686018427387904 ∧ (0 < n → ∃ (g : Nat) (cur : Array Value), a = some ⟨g, 0, none⟩ ∧ B ≤ g ∧ g < hi ∧ w.heap[g]? = some (.cells cur 3 (0, 0)) ∧ ∀ j, j < n → ∃ y, cur[j]? = some (.int .i64 y))
theorem IntRow.sp {B hi B' hi' : Nat} {w w' : World} {v : Value} (hr : IntRow B hi w v) (h : Sp B' hi' w w') : IntRow B hi w' v := by
  obtain ⟨a, n, c, rfl, hn, k⟩ := hr
  refine ⟨a, n, c, rfl, hn, fun h0 => ?_⟩
  obtain ⟨g, cur, rfl, g1, g2, hb, hc⟩ := k h0
  obtain ⟨cur', e', k'⟩ := h.blk g cur 3 hb
  refine ⟨g, cur', rfl, g1, g2, e', fun j hj => ?_⟩
  obtain ⟨y, hy⟩ := hc j hj
  rcases k' j _ hy with ⟨_, _, r⟩ | ⟨r, _⟩
  · exact r
  · exact absurd rfl (r y)
theorem IntRow.below {B hi : Nat} {w w' : World} {v : Value} (hr : IntRow B hi w v) (hb : Below w.heap.size w w') : IntRow B hi w' v := by
  obtain ⟨a, n, c, rfl, hn, k⟩ := hr
  refine ⟨a, n, c, rfl, hn, fun h0 => ?_⟩
  obtain ⟨g, cur, rfl, g1, g2, e, hc⟩ := k h0
  exact ⟨g, cur, rfl, g1, g2, (hb.block g (vlt_of_block e)).trans e, hc⟩
theorem intRow_own {B hi base : Nat} {w : World} {v : Value} {xs : List Int} (ho : w.ownsRow base 3 1 v xs.length (i64s xs)) (hB : B ≤ base) (hh : w.heap.size ≤ hi) (hl : xs.length < 4611686018427387904) : IntRow B hi w v := by
  rcases ho.2 with ⟨rfl, h0⟩ | ⟨g, cap, cur, rfl, h1, h2, h3, h4, h5, h6⟩
  · exact ⟨_, _, _, rfl, by omega, fun h => absurd h (by simp)⟩
  · refine ⟨_, _, _, rfl, hl, fun _ => ⟨g, cur, rfl, Nat.le_trans hB h1, Nat.lt_of_lt_of_le (vlt_of_block h2) hh, h2, fun j hj => ?_⟩⟩
    have e : (cur.toList.take (xs.length * 1))[j]? = cur[j]? := by
      rw [List.getElem?_take_of_lt (by omega)]; simp
    rw [← e, h6]
    exact ⟨xs[j], by simp [i64s, hj]⟩
def ARow (B hi : Nat) (w : World) (v : Value) (n : Nat) : Prop :=
  ∃ a c, v = .slice a n c ∧ (0 < n → ∃ (g : Nat) (cur : Array Value), a = some ⟨g, 0, none⟩ ∧ B ≤ g ∧ g < hi ∧ w.heap[g]? = some (.cells cur 55 (0, 0)) ∧ ∀ j, j < n → (∃ u, cur[j * 2]? = some u ∧ IntRow B hi w u) ∧ ∃ y, cur[j * 2 + 1]? = some (.int .i64 y))
theorem ARow.sp {B hi B' hi' : Nat} {w w' : World} {v : Value} {n : Nat} (hr : ARow B hi w v n) (h : Sp B' hi' w w') : ARow B hi w' v n := by
  obtain ⟨a, c, rfl, k⟩ := hr
  refine ⟨a, c, rfl, fun h0 => ?_⟩
  obtain ⟨g, cur, rfl, g1, g2, hb, hc⟩ := k h0
  obtain ⟨cur', e', k'⟩ := h.blk g cur 55 hb
  refine ⟨g, cur', rfl, g1, g2, e', fun j hj => ?_⟩
  obtain ⟨⟨u, hu, hi1⟩, y, hy⟩ := hc j hj
  refine ⟨⟨u, ?_, hi1.sp h⟩, ?_⟩
  · rcases k' _ _ hu with ⟨y, r, _⟩ | ⟨_, r⟩
    · obtain ⟨_, _, _, r', _⟩ := hi1
      rw [r] at r'; cases r'
    · exact r
  · rcases k' _ _ hy with ⟨_, _, r⟩ | ⟨r, _⟩
    · exact r
    · exact absurd rfl (r y)
theorem ARow.below {B hi : Nat} {w w' : World} {v : Value} {n : Nat} (hr : ARow B hi w v n) (hb : Below w.heap.size w w') : ARow B hi w' v n := by
  obtain ⟨a, c, rfl, k⟩ := hr
  refine ⟨a, c, rfl, fun h0 => ?_⟩
  obtain ⟨g, cur, rfl, g1, g2, e, hc⟩ := k h0
  exact ⟨g, cur, rfl, g1, g2, (hb.block g (vlt_of_block e)).trans e, fun j hj => let ⟨⟨u, hu, hi1⟩, hy⟩ := hc j hj; ⟨⟨u, hu, hi1.below hb⟩, hy⟩⟩
theorem arow_new {B hi base : Nat} {w : World} {v : Value} {us : List Value} {l : Rws} (hr : RNew 55 base w v us l) (hB : B ≤ base) (hh : w.heap.size ≤ hi) (hl : ∀ j, j < l.length → (rAt l j).1.length < 4611686018427387904) : ARow B hi w v l.length := by
  obtain ⟨e1, ho, h3⟩ := hr
  rcases ho.2 with ⟨rfl, h0⟩ | ⟨g, cap, cur, rfl, h1, h2, h4, h5, h6, h7⟩
  · rw [h0]; exact ⟨_, _, rfl, fun h => absurd h (by simp)⟩
  · refine ⟨_, _, rfl, fun _ => ⟨g, cur, rfl, Nat.le_trans hB h1, Nat.lt_of_lt_of_le (vlt_of_block h2) hh, h2, fun j hj => ?_⟩⟩
    obtain ⟨r1, r2⟩ := rcells_at us l e1 j hj
    have e : ∀ i, i < l.length * 2 → (rcells us l)[i]? = cur[i]? := fun i hi => by
      rw [← h7, List.getElem?_take_of_lt hi]; simp
    rw [e _ (by omega)] at r1 r2
    exact ⟨⟨_, r1, intRow_own (h3 j hj) hB hh (hl j hj)⟩, _, r2⟩
end Go.Proofs.YtondkinefmjpjaaGreat
namespace Go.Proofs.YtondkinefmjpjaaGreat
open Go.RowKit Go.WideMaps Go.WideElems Go.Maps Go.Shelf
def MpB (w : World) (b : Nat) : Prop := ∃ es c, w.heap[b]? = some (.map es c)
theorem mps_mp (w : World) : Mps w (MpB w) := fun _ _ h => h
theorem VSt.sp {w2 wx wy : World} {B hi : Nat} {vb : Nat} {P : PlanD} {rb ib : List Nat} {wb : Nat} {R R2 : Nat → List Int → Int} {g g2 : Nat → List Int → Option Nat} {own own2 : Nat → Option (Nat × List Int)} (h2 : VSt w2 vb P rb ib wb R2 g2 own2) (h : VSt wx vb P rb ib wb R g own) (hf : Fr (MpB w2) w2 wy) (hs : Sp B hi wx wy) : VSt wy vb P rb ib wb R g own := by
  obtain ⟨c, hb⟩ := h2.hb
  obtain ⟨rv, b1, r1, r2⟩ := h2.rows
  obtain ⟨iv, b2, i1, i2⟩ := h2.ixs
  have hm := mps_mp w2
  have hn : ∀ i p, own i = some p → wy.heap[i]? = wx.heap[i]? := fun i p hp => by
    obtain ⟨es, k, e⟩ := h.W.m i p hp
    refine hs.fr.block i (vlt_of_block e) (fun q => ?_)
    obtain ⟨_, _, c, t, z, e'⟩ := q
    rw [e] at e'; cases e'
  have nv : ¬ MpB w2 vb := fun ⟨es, k, e⟩ => by rw [hb] at e; cases e
  refine ⟨h.ok, h.rel, h.rok, ⟨c, (hf.block vb (vlt_of_block hb) nv).trans hb⟩, hf.cell hm h2.h0, h2.pl.fr hf hm, ⟨rv, b1, hf.cell hm r1, hf.own hm r2⟩, ⟨iv, b2, hf.cell hm i1, hf.own hm i2⟩, hf.cell hm h2.wo, h.hrb, h.hil, fun r hr => ⟨(h.cr r hr).1.block (hn _ _ (h.cr r hr).2), (h.cr r hr).2⟩, fun l hl => (h.A l hl).block (hn _ _ (h.W.o l hl)) (fun k hk c hc => hn _ _ (h.W.i l hl k hk c hc)), ⟨h.W.o, h.W.i, fun i p hp => ?_⟩, h.ow, h.cw.block (hn _ _ h.ow), h.no4⟩
  obtain ⟨es, k, e⟩ := h.W.m i p hp
  exact ⟨es, k, (hn i p hp).trans e⟩
structure AI (w w2 : World) (P : PlanD) (V1 V2 : VN) (wx : World) : Prop where
  two : ∃ R, Two w.heap.size wx P V1 R V2 noR
  st : ∃ R R', Two w.heap.size w2 P V1 R V2 R'
  fr : Fr (MpB w2) w2 wx
  le : w.heap.size ≤ w2.heap.size
  blw : Below w.heap.size w wx
theorem AI.size {w w2 : World} {P : PlanD} {V1 V2 : VN} {wx : World} (h : AI w w2 P V1 V2 wx) : w2.heap.size ≤ wx.heap.size := h.fr.size
theorem AI.below {w w2 : World} {P : PlanD} {V1 V2 : VN} {wx wy : World} (h : AI w w2 P V1 V2 wx) (hb : Below wx.heap.size wx wy) : AI w w2 P V1 V2 wy := by
  obtain ⟨R, hT⟩ := h.two
  exact ⟨⟨R, hT.below hb⟩, h.st, h.fr.trans (M' := fun _ => False) (Fr.of_below hb) (fun _ _ k => k.elim), h.le, h.blw.trans (hb.mono (Nat.le_trans h.le h.size))⟩
theorem AI.sp {w w2 : World} {P : PlanD} {V1 V2 : VN} {wx wy : World} (h : AI w w2 P V1 V2 wx) {hi : Nat} (hs : Sp w2.heap.size hi wx wy) : AI w w2 P V1 V2 wy := by
  obtain ⟨R, g1, o1, g2, o2, h1, h2, h3, h4, h5⟩ := h.two
  obtain ⟨Ra, Rb, ga, oa, gb, ob, ha, hb, _⟩ := h.st
  have hf : Fr (MpB w2) w2 wy := h.fr.trans hs.fr (fun i hi' k => by have := k.1; omega)
  refine ⟨⟨R, g1, o1, g2, o2, ha.sp h1 hf hs, hb.sp h2 hf hs, h3, h4, h5⟩, h.st, hf, h.le, ?_⟩
  rcases hs.below with q | q
  · exact h.blw.trans (q.mono h.le)
  · have := h.size; omega
def PosL (l : Rws) : Prop := ∀ j, j < l.length → (∀ i, 0 ≤ (rAt l j).1.getD i 0) ∧ (rAt l j).2 ≠ 0 ∧ (rAt l j).1.length * 8 ≤ 140737488355328
theorem rowsA_mem {l m : Rws} (hp : l.Perm m) {j : Nat} (hj : j < l.length) : rAt l j ∈ m := by
  rw [rAt_get l j hj]; exact hp.subset (List.getElem_mem hj)
theorem getD_pos {xs : List Int} (h : ∀ x, x ∈ xs → 0 ≤ x) (i : Nat) : 0 ≤ xs.getD i 0 := by
  rw [List.getD_eq_getElem?_getD]
  cases e : xs[i]? with
  | none => simp
  | some x => exact h x (List.mem_of_getElem? e)
theorem pos_rows {P : PlanD} {f : List Int → Int} {l : Rws} (hp : l.Perm (rowsL (hvals P.head) f (live 6 f))) (hh : P.head.length ≤ 6) : PosL l := fun j hj => by
  have hm := rowsA_mem hp hj
  have hF := (rows_fit hp hh (Nat.le_refl _)).2 j hj
  obtain ⟨a, ha, e⟩ := List.mem_map.1 hm
  rw [mem_live, mem_boxN] at ha
  rw [← e] at hF ⊢
  refine ⟨fun i => getD_pos (fun x hx => ?_) i, ha.2, hF⟩
  simp only [hvals, List.mem_map] at hx
  obtain ⟨q, _, rfl⟩ := hx
  exact getD_pos (fun x hx => (ha.1.2 x hx).1) _
theorem pos_rel {N : Nat} {f : List Int → Int} {l : Rws} (hp : l.Perm (rowsL (fun t => t.take N) f (live 3 f))) : PosL l := fun j hj => by
  have hm := rowsA_mem hp hj
  obtain ⟨a, ha, e⟩ := List.mem_map.1 hm
  rw [mem_live, mem_boxN] at ha
  rw [← e]
  refine ⟨fun i => getD_pos (fun x hx => (ha.1.2 x (List.mem_of_mem_take hx)).1) i, ha.2, ?_⟩
  have := List.length_take_le N a
  have := ha.1.1
  show (a.take N).length * 8 ≤ _
  rw [List.length_take]; omega
theorem pos_nil : PosL [] := fun j hj => absurd hj (by simp)
def Told (w : World) (v : Value) (us : List Value) (l : Rws) (w' : World) : Prop := RNew 55 w.heap.size w' v us l ∧ PosL l ∧ l.length ≤ 1000000 ∧ Below w.heap.size w w'
theorem rows_ai {w w2 : World} {P : PlanD} {V1 V2 : VN} {wx : World} (h : AI w w2 P V1 V2 wx) :
    ∃ N, ∀ wy, Below wx.heap.size wx wy → Calls Tryz.prog 12 #[.pointer (some ⟨V1.vb, 0, none⟩)] wy fun e w' => ∃ v, e = .returned v ∧ ∃ us l, l.length = N ∧ Told wy v us l w' := by
  obtain ⟨R, g1, o1, g2, o2, h1, h2, h3, h4, h5⟩ := h.two
  refine ⟨(live 6 (P.wor (cont P R))).length, fun wy hb => (rows_s (h1.fr (fr_below hb))).mono ?_⟩
  rintro e w' ⟨v, us, l, rfl, q1, q2, q3, q4⟩
  exact ⟨v, rfl, us, l, by rw [q2.length_eq]; simp [rowsL], q1, pos_rows q2 h1.ok.head6, q3.1, q4⟩
theorem none_ai {w w2 : World} {P : PlanD} {V1 V2 : VN} {wx : World} (h : AI w w2 P V1 V2 wx) :
    Calls Tryz.prog 12 #[.pointer (some ⟨V2.vb, 0, none⟩)] wx fun e w' => ∃ v, e = .returned v ∧ (∃ a c, v = .slice a 0 c) ∧ Below wx.heap.size wx w' := by
  obtain ⟨R, g1, o1, g2, o2, h1, h2, h3, h4, h5⟩ := h.two
  refine (rows_s h2).mono ?_
  rintro e w' ⟨v, us, l, rfl, q1, q2, q3, q4⟩
  have hz : P.wor (cont P noR) = fun _ => 0 := funext fun a => wor_noR h2.ok.n1 a
  have hl : l.length = 0 := by rw [q2.length_eq, hz, live_z]; rfl
  obtain ⟨a, c, e⟩ := vown_form q1.2.1
  exact ⟨v, rfl, ⟨a, c, by rw [e, hl]⟩, q4⟩
theorem rel_ai {w w2 : World} {P : PlanD} {V1 V2 : VN} {wx : World} (h : AI w w2 P V1 V2 wx) (hT : ∀ r, r < P.rels.length → (P.rel r).2.1 ≤ 3) (name : ByteArray) :
    Calls Tryz.prog 31 #[.pointer (some ⟨V1.vb, 0, none⟩), .string name] wx fun e w' => ∃ v, e = .returned v ∧ ∃ vv c us l, v = .tuple #[vv, .int .i64 c] ∧ Told wx vv us l w' := by
  obtain ⟨R, g1, o1, g2, o2, h1, h2, h3, h4, h5⟩ := h.two
  rcases rix_cases P.rels name with hI | ⟨r, hr, hI⟩
  · refine (Relation_no h1 name hI).mono ?_
    rintro e w' ⟨rfl, hb⟩
    exact ⟨_, rfl, _, 5, [], [], rfl, ⟨rfl, World.ownsRow_nil _ _ _ _, fun j hj => absurd hj (by simp)⟩, pos_nil, by simp, hb⟩
  · refine (Relation_ok h1 name hr hI (hT r hr)).mono ?_
    rintro e w' ⟨vv, us, l, rfl, q1, q2, _, q4⟩
    refine ⟨_, rfl, vv, 0, us, l, rfl, q1, pos_rel q2, ?_, q4⟩
    have := h1.rok.few r hr
    have e := q2.length_eq
    simp only [rowsL, List.length_map] at e
    omega
theorem IntRow.frm {B hi : Nat} {M : Nat → Prop} {w w' : World} {v : Value} (hr : IntRow B hi w v) (hf : Fr M w w') (hm : Mps w M) : IntRow B hi w' v := by
  obtain ⟨a, n, c, rfl, hn, k⟩ := hr
  refine ⟨a, n, c, rfl, hn, fun h0 => ?_⟩
  obtain ⟨g, cur, rfl, g1, g2, e, hc⟩ := k h0
  refine ⟨g, cur, rfl, g1, g2, (hf.block g (vlt_of_block e) (fun q => ?_)).trans e, hc⟩
  obtain ⟨es, c, e'⟩ := hm g (vlt_of_block e) q
  rw [e] at e'; cases e'
def UpA (w w2 : World) (P : PlanD) (V1 V2 : VN) (wx : World) (vv : Value) (w' : World) : Prop :=
  AI w w2 P V1 V2 w' ∧ (∃ m, ARow w2.heap.size w'.heap.size w' vv m ∧ m < 4611686018427387904) ∧ wx.heap.size ≤ w'.heap.size ∧ (∀ (b : Nat) (c : Array Value) (t : TypeId) (z : Nat × Nat), wx.heap[b]? = some (.cells c t z) → w'.heap[b]? = some (.cells c t z)) ∧ ∀ B hi v, IntRow B hi wx v → IntRow B hi w' v
theorem update_ai {w w2 : World} {P : PlanD} {V1 V2 : VN} {wx : World} (h : AI w w2 P V1 V2 wx) (hT : ∀ r, r < P.rels.length → (P.rel r).2.1 ≤ 3) (S : ByteArray) (am : Int) {v : Value} {xs : List Int} (hr : Reads wx v xs) (hxl : xs.length < 4611686018427387904) :
    Calls Tryz.prog 16 #[.pointer (some ⟨V1.vb, 0, none⟩), .string S, .int .i64 am, v] wx fun e w' => ∃ v, e = .returned v ∧ ∃ vv c, v = .tuple #[vv, .int .i64 c] ∧ UpA w w2 P V1 V2 wx vv w' := by
  obtain ⟨R, g1, o1, g2, o2, h1, h2, h3, h4, h5⟩ := h.two
  refine (update_c h1 S am hr hxl hT).mono ?_
  rintro e w' ⟨_, rfl, vv, c, rfl, ⟨hc, rfl, hb⟩ | ⟨hc, r, us, l, g', own', hU⟩⟩
  · exact ⟨_, rfl, _, c, rfl, h.below hb, ⟨0, ⟨_, _, rfl, fun k => absurd k (by simp)⟩, by omega⟩, hb.size, fun b c t z e => (hb.block b (vlt_of_block e)).trans e, fun _ _ _ k => k.below hb⟩
  · have hB := Nat.le_trans h.le h.size
    obtain ⟨u1, u2⟩ := hU.up.below hB h4
    obtain ⟨q1, q2⟩ := h1.other h2 h3 hU.up
    have hf : Fr (MpB w2) w2 w' := h.fr.trans hU.up.fr (fun i hi k => by
      obtain ⟨p, hp⟩ := k
      obtain ⟨es, c, e⟩ := h1.W.m i p hp
      by_cases q : MpB w2 i
      · exact q
      · exact ⟨es, c, (h.fr.block i hi q).symm.trans e⟩)
    have hlen : l.length < 4611686018427387904 := by
      have e := hU.perm.length_eq
      have h6 : (live 6 (dlt P R r (pad xs) am)).length ≤ 1000 ^ 6 := by rw [← boxN_len]; exact List.length_filter_le _ _
      simp only [rowsL, List.length_map] at e
      omega
    have hF := (rows_fit hU.perm h1.ok.head6 (Nat.le_refl _)).2
    exact ⟨_, rfl, vv, c, rfl, ⟨⟨_, g', own', g2, o2, hU.st, q1, q2, u2, h5⟩, h.st, hf, h.le, h.blw.trans u1⟩, ⟨l.length, arow_new hU.new h.size (Nat.le_refl _) (fun j hj => by have := hF j hj; omega), hlen⟩, hU.up.fr.size, fun b c t z e => (hU.up.fr.block b (vlt_of_block e) (fun q => by obtain ⟨es, k, e'⟩ := mps_ow h1.W b (vlt_of_block e) q; rw [e] at e'; cases e')).trans e, fun _ _ _ k => k.frm hU.up.fr (mps_ow h1.W)⟩
end Go.Proofs.YtondkinefmjpjaaGreat
namespace Go.Proofs.YtondkinefmjpjaaGreat
open Go.RowKit
theorem cell_cur {w : World} {b j : Nat} {c : Array Value} {t : TypeId} {z : Nat × Nat} (h : w.heap[b]? = some (.cells c t z)) : w.cell? ⟨b, j, none⟩ = c[j]? := by
  unfold World.cell?; rw [h]; rfl
set_option maxHeartbeats 1000000 in
theorem spoil_sp {B hi : Nat} {w : World} {v : Value} (h : IntRow B hi w v) :
    Calls Tryz.prog 30 #[v] w fun e w' => e = .returned (.tuple #[]) ∧ Sp B hi w w' := by
  obtain ⟨a, n, cap, rfl, hn, h1⟩ := h
  have H0 : Hid (IntRow B hi w (.slice a n cap)) := ⟨a, n, cap, rfl, hn, h1⟩
  have HA : Hid (0 < n → ∃ g, a = some ⟨g, 0, none⟩) := fun hp => by
    obtain ⟨g, _, he, _⟩ := h1 hp
    exact ⟨g, he⟩
  clear h1
  go_enter Tryz.func30, Tryz.ntmps30
  go_wp2_with fail
  go_loopw [2] (fun iv wr => ∃ k : Nat, k ≤ n ∧ iv = .int .i64 k ∧ Sp B hi w wr) (fun iv _ => n - (intOf iv).toNat)
  case atStart => exact ⟨0, Nat.zero_le _, rfl, Sp.refl _ _ _⟩
  case round =>
    obtain ⟨k, hk, rfl, hs⟩ := hrel
    by_cases hlt : k < n
    · obtain ⟨g, rfl⟩ := HA.out (by omega)
      obtain ⟨a', n', c', he, _, h2⟩ := H0.out.sp hs
      simp only [Value.slice.injEq] at he
      obtain ⟨rfl, rfl, rfl⟩ := he
      obtain ⟨g', cur, he, q1, q2, hb, hc⟩ := h2 (by omega)
      simp only [Option.some.injEq, Addr.mk.injEq, and_true] at he
      subst he
      obtain ⟨y, hy⟩ := hc k hlt
      have ST : Hid (Sp B hi w (wr.setCell ⟨g, k, none⟩ (.int .i64 (-7)))) := hs.trans (Sp.set hb q1 q2 hy (-7))
      have s0 : wr.cell? ⟨g, k, none⟩ = some (.int .i64 y) := (cell_cur hb).trans hy
      have f0 := blk_free hb k
      have lg := vlt_of_block hb
      have bk : (k : Int) < (n : Int) := by omega
      clear hs h2 hb hc hy H0 HA
      go_wp2_with fail
      go_roundw
      case rel => exact ⟨k + 1, by omega, by go_num, ST.out⟩
      case measure => simp [intOf]; omega
    · have hkl : k = n := by omega
      subst hkl
      go_wp2_with fail
      go_end0
      exact ⟨rfl, hs⟩
end Go.Proofs.YtondkinefmjpjaaGreat
namespace Go.Proofs.YtondkinefmjpjaaGreat
open Go.RowKit
def AAt (B hi : Nat) (w : World) (aa : Option Addr) (k : Nat) : Prop :=
  ∃ g ua un uc, aa = some ⟨g, 0, none⟩ ∧ g < w.heap.size ∧ w.cell? ⟨g, k * 2, none⟩ = some (.slice ua un uc) ∧ IntRow B hi w (.slice ua un uc) ∧ ∀ w', Sp B hi w w' → ∃ y, w'.cell? ⟨g, k * 2 + 1, none⟩ = some (.int .i64 y) ∧ w'.frozen? ⟨g, k * 2 + 1, none⟩ = false ∧ g < w'.heap.size ∧ Sp B hi w (w'.setCell ⟨g, k * 2 + 1, none⟩ (.int .i64 0))
theorem arow_at {B hi : Nat} {w : World} {aa : Option Addr} {n ac : Nat} (h : ARow B hi w (.slice aa n ac) n) {k : Nat} (hk : k < n) : AAt B hi w aa k := by
  obtain ⟨a, c, e, h1⟩ := h
  simp only [Value.slice.injEq, true_and] at e
  obtain ⟨rfl, rfl⟩ := e
  obtain ⟨g, cur, rfl, q1, q2, hb, hc⟩ := h1 (by omega)
  obtain ⟨⟨u, hu, hI⟩, y, hy⟩ := hc k hk
  have hI' := hI
  obtain ⟨ua, un, uc, rfl, _⟩ := hI'
  refine ⟨g, ua, un, uc, rfl, vlt_of_block hb, (cell_cur hb).trans hu, hI, fun w' hs => ?_⟩
  obtain ⟨cur', hb', k'⟩ := hs.blk g cur 55 hb
  have hy' : ∃ y', cur'[k * 2 + 1]? = some (.int .i64 y') := by
    rcases k' _ _ hy with ⟨_, _, r⟩ | ⟨r, _⟩
    · exact r
    · exact absurd rfl (r y)
  obtain ⟨y', hy'⟩ := hy'
  exact ⟨y', (cell_cur hb').trans hy', blk_free hb' _, vlt_of_block hb', hs.trans (Sp.set hb' q1 q2 hy' 0)⟩
def BAt (w : World) (ba : Option Addr) (k : Nat) : Prop :=
  ∃ g ua uc XL y, ba = some ⟨g, 0, none⟩ ∧ w.cell? ⟨g, k * 2, none⟩ = some (.slice ua XL uc) ∧ XL < 4611686018427387904 ∧ w.cell? ⟨g, k * 2 + 1, none⟩ = some (.int .i64 y) ∧ (y == 0) = false ∧ ∀ j, j < XL → ∃ gu off x, ua = some ⟨gu, off, none⟩ ∧ w.cell? ⟨gu, off + j, none⟩ = some (.int .i64 x) ∧ 0 ≤ x
theorem brow_at {B : Nat} {w : World} {ba : Option Addr} {n bc : Nat} {us : List Value} {l : Rws} (h : RNew 55 B w (.slice ba n bc) us l) (hn : l.length = n) (hp : PosL l) {k : Nat} (hk : k < n) : BAt w ba k := by
  subst hn
  obtain ⟨g, ua, uc, rfl, c1, c2, hr, _⟩ := rnew_at h hk
  obtain ⟨p1, p2, p3⟩ := hp k hk
  obtain ⟨a', c', e, hc⟩ := hr
  simp only [Value.slice.injEq, true_and] at e
  obtain ⟨rfl, rfl⟩ := e
  refine ⟨g, ua, uc, _, _, rfl, c1, by omega, c2, beq_eq_false_iff_ne.2 p2, fun j hj => ?_⟩
  obtain ⟨gu, off, rfl, hcc⟩ := hc (by omega)
  exact ⟨gu, off, _, rfl, hcc j hj, p1 j⟩
def OpB (ob : Nat) (S : ByteArray) (w : World) : Prop := ∃ cur : Array Value, w.heap[ob]? = some (.cells cur 30 (0, 0)) ∧ cur[2]? = some (.string S)
theorem OpB.sp {ob : Nat} {S : ByteArray} {w w' : World} {B hi : Nat} (h : OpB ob S w) (hs : Sp B hi w w') : OpB ob S w' := by
  obtain ⟨cur, hb, h2⟩ := h
  obtain ⟨cur', hb', k⟩ := hs.blk ob cur 30 hb
  refine ⟨cur', hb', ?_⟩
  rcases k _ _ h2 with ⟨y, r, _⟩ | ⟨_, r⟩
  · cases r
  · exact r
theorem OpB.below {ob : Nat} {S : ByteArray} {w w' : World} (h : OpB ob S w) (hb : Below w.heap.size w w') : OpB ob S w' := by
  obtain ⟨cur, e, h2⟩ := h
  exact ⟨cur, (hb.block ob (vlt_of_block e)).trans e, h2⟩
theorem OpB.cell {ob : Nat} {S : ByteArray} {w : World} (h : OpB ob S w) : w.cell? ⟨ob, 2, none⟩ = some (.string S) := by
  obtain ⟨cur, hb, h2⟩ := h
  exact (cell_cur hb).trans h2
end Go.Proofs.YtondkinefmjpjaaGreat
