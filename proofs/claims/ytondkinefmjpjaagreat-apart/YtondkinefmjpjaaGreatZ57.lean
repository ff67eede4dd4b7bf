import Derived.Test.YtondkinefmjpjaaGreatW37
import Derived.Test.YtondkinefmjpjaaGreatW39
import Derived.Test.YtondkinefmjpjaaGreatZ50
import Derived.Test.YtondkinefmjpjaaGreatZ54
namespace Go.Proofs.YtondkinefmjpjaaGreat
open Go.RowKit Go.WideMaps Go.WideElems Go.Maps Go.Shelf
def T103 (w : World) (M : Nat → Prop) : Prop := ∀ i, M i → ∃ c, w.heap[i]? = some (.cells c 103 (0, 0))
theorem Fr.blkT {M : Nat → Prop} {w w' : World} (hf : Fr M w w') (hm : T103 w M) {b : Nat} {c : Array Value} {t : TypeId} {z : Nat × Nat} (hb : w.heap[b]? = some (.cells c t z)) (ht : t ≠ 103) : w'.heap[b]? = w.heap[b]? :=
  hf.block b (vlt_of_block hb) (fun h => by obtain ⟨c', e⟩ := hm b h; rw [hb] at e; simp at e; exact ht e.2.1)
theorem Fr.mapT {M : Nat → Prop} {w w' : World} (hf : Fr M w w') (hm : T103 w M) {b c : Nat} {es : Array MapEntry} (hb : w.heap[b]? = some (.map es c)) : w'.heap[b]? = w.heap[b]? :=
  hf.block b (vlt_of_block hb) (fun h => by obtain ⟨c', e⟩ := hm b h; rw [hb] at e; cases e)
theorem Fr.ownT {M : Nat → Prop} {w w' : World} (hf : Fr M w w') (hm : T103 w M) {base : Nat} {e : TypeId} {size : Nat} {v : Value} {n : Nat} {xs : List Value} (ho : w.ownsRow base e size v n xs) (he : e ≠ 103) : w'.ownsRow base e size v n xs := by
  refine ⟨ho.1, ?_⟩
  rcases ho.2 with hn | ⟨g, cap, cur, rfl, h1, h2, rest⟩
  · exact .inl hn
  · exact .inr ⟨g, cap, cur, rfl, h1, (hf.blkT hm h2 he).trans h2, rest⟩
theorem PlanSt.typ {M : Nat → Prop} {w w' : World} {vb : Nat} {P : PlanD} (h : PlanSt w vb P) (hf : Fr M w w') (hm : T103 w M) (e : w'.heap[vb]? = w.heap[vb]?) : PlanSt w' vb P := by
  obtain ⟨⟨hv, b1, h1, h2⟩, h3, ⟨rv, b2, rvs, h4, h5, h6, h7⟩, ⟨av, b3, pvs, h8, h9, h10, h11⟩, ⟨lv, b4, h12, h13⟩, ⟨wv, b5, wvs, h14, h15, h16, h17⟩⟩ := h
  exact ⟨⟨hv, b1, cell_of_block h1 e, hf.ownT hm h2 (by decide)⟩, cell_of_block h3 e, ⟨rv, b2, rvs, cell_of_block h4 e, hf.ownT hm h5 (by decide), h6, fun k hk => let ⟨b', h⟩ := h7 k hk; ⟨b', hf.ownT hm h (by decide)⟩⟩, ⟨av, b3, pvs, cell_of_block h8 e, hf.ownT hm h9 (by decide), h10, fun k hk => let ⟨b', h⟩ := h11 k hk; ⟨b', hf.ownT hm h (by decide)⟩⟩, ⟨lv, b4, cell_of_block h12 e, hf.ownT hm h13 (by decide)⟩, ⟨wv, b5, wvs, cell_of_block h14 e, hf.ownT hm h15 (by decide), h16, fun k hk => let ⟨b', h⟩ := h17 k hk; ⟨b', hf.ownT hm h (by decide)⟩⟩⟩
theorem VSt.typ {M : Nat → Prop} {w w' : World} {vb : Nat} {P : PlanD} {rb ib : List Nat} {wb : Nat} {R : Nat → List Int → Int} {g : Nat → List Int → Option Nat} {own : Nat → Option (Nat × List Int)} (h : VSt w vb P rb ib wb R g own) (hf : Fr M w w') (hm : T103 w M) : VSt w' vb P rb ib wb R g own := by
  obtain ⟨c, hb⟩ := h.hb
  have e := hf.blkT hm hb (by decide)
  obtain ⟨rv, b1, r1, r2⟩ := h.rows
  obtain ⟨iv, b2, i1, i2⟩ := h.ixs
  have hn : ∀ i p, own i = some p → w'.heap[i]? = w.heap[i]? := fun i p hp => by
    obtain ⟨es, k, e⟩ := h.W.m i p hp
    exact hf.mapT hm e
  refine ⟨h.ok, h.rel, h.rok, ⟨c, e.trans hb⟩, cell_of_block h.h0 e, h.pl.typ hf hm e, ⟨rv, b1, cell_of_block r1 e, hf.ownT hm r2 (by decide)⟩, ⟨iv, b2, cell_of_block i1 e, hf.ownT hm i2 (by decide)⟩, cell_of_block h.wo e, h.hrb, h.hil, fun r hr => ⟨(h.cr r hr).1.block (hn _ _ (h.cr r hr).2), (h.cr r hr).2⟩, fun l hl => (h.A l hl).block (hn _ _ (h.W.o l hl)) (fun k hk c hc => hn _ _ (h.W.i l hl k hk c hc)), ⟨h.W.o, h.W.i, fun i p hp => ?_⟩, h.ow, h.cw.block (hn _ _ h.ow), h.no4⟩
  obtain ⟨es, k, e⟩ := h.W.m i p hp
  exact ⟨es, k, (hn i p hp).trans e⟩
theorem Kp.fr {M : Nat → Prop} {w w' : World} (h : Kp M w w') : Fr M w w' := ⟨h.size, h.os, h.tape, h.output, h.block⟩
structure TolI (B : Nat) (w wx : World) (vb : Nat) (P : PlanD) (rb ib : List Nat) (wb : Nat) (av : Value) (k : Nat) (R : Nat → List Int → Int) (g : Nat → List Int → Option Nat) (own : Nat → Option (Nat × List Int)) (us : List Value) (A : Rws) : Prop where
  st : VSt wx vb P rb ib wb R g own
  ob : ∀ b, own b ≠ none → B ≤ b
  row : RNew 103 B wx av us A
  once : Once A
  sm : SmallV A
  len : A.length ≤ k * 1000000
  blw : Below B w wx
structure TolL (B : Nat) (wx : World) (lv : Value) (lus : List Value) (l : Rws) : Prop where
  row : RNew 55 B wx lv lus l
  rise : Rise l
  fit : Fit 1000000 l
  wr' : ∀ r, r ∈ l → wr r.2 = r.2
def TolA (B : Nat) (w wx : World) (vb : Nat) (P : PlanD) (rb ib : List Nat) (wb : Nat) (av : Value) (k : Nat) : Prop :=
  ∃ R g own us A, TolI B w wx vb P rb ib wb av k R g own us A ∧ ∀ ys, wr (totK A ys) = wr (totF (hvals P.head) (P.wor (cont P R)) ys)
def TolT (B : Nat) (w wx : World) (vb : Nat) (P : PlanD) (rb ib : List Nat) (wb : Nat) (av : Value) (k : Nat) (lv : Value) : Prop :=
  ∃ R g own us A lus l, TolI B w wx vb P rb ib wb av k R g own us A ∧ TolL B wx lv lus l ∧ ∀ ys, wr (totK A ys + totK l ys) = wr (totF (hvals P.head) (P.wor (cont P R)) ys)
theorem TolI.below {B : Nat} {w wx wy : World} {vb : Nat} {P : PlanD} {rb ib : List Nat} {wb : Nat} {av : Value} {k : Nat} {R : Nat → List Int → Int} {g : Nat → List Int → Option Nat} {own : Nat → Option (Nat × List Int)} {us : List Value} {A : Rws} (h : TolI B w wx vb P rb ib wb av k R g own us A) (hB : B ≤ w.heap.size) (hb : Below wx.heap.size wx wy) : TolI B w wy vb P rb ib wb av k R g own us A :=
  ⟨h.st.fr (fr_below hb), h.ob, h.row.below hb, h.once, h.sm, h.len, h.blw.trans (hb.mono (Nat.le_trans hB h.blw.size))⟩
theorem TolA.below {B : Nat} {w wx wy : World} {vb : Nat} {P : PlanD} {rb ib : List Nat} {wb : Nat} {av : Value} {k : Nat} (h : TolA B w wx vb P rb ib wb av k) (hB : B ≤ w.heap.size) (hb : Below wx.heap.size wx wy) : TolA B w wy vb P rb ib wb av k := by
  obtain ⟨R, g, own, us, A, h1, h2⟩ := h
  exact ⟨R, g, own, us, A, h1.below hB hb, h2⟩
theorem TolL.nil (B : Nat) (wx : World) : TolL B wx (.slice none 0 0) [] [] :=
  ⟨⟨rfl, World.ownsRow_nil _ _ _ _, fun j hj => absurd hj (by simp)⟩, ⟨fun j hj => absurd hj (by simp), fun j hj => absurd hj (by simp)⟩, ⟨by simp, fun j hj => absurd hj (by simp)⟩, fun _ h => by cases h⟩
theorem TolI.up {B : Nat} {w wx wy : World} {vb : Nat} {P : PlanD} {rb ib : List Nat} {wb : Nat} {av : Value} {k : Nat} {R R' : Nat → List Int → Int} {g g' : Nat → List Int → Option Nat} {own own' : Nat → Option (Nat × List Int)} {us : List Value} {A : Rws} (h : TolI B w wx vb P rb ib wb av k R g own us A) (hB : B ≤ w.heap.size) (hs : VSt wy vb P rb ib wb R' g' own') (hu : VUp wx wy own own') : TolI B w wy vb P rb ib wb av k R' g' own' us A := by
  obtain ⟨u1, u2⟩ := hu.below (Nat.le_trans hB h.blw.size) h.ob
  exact ⟨hs, u2, h.row.frm hu.fr (mps_ow h.st.W), h.once, h.sm, h.len, h.blw.trans u1⟩
end Go.Proofs.YtondkinefmjpjaaGreat
namespace Go.Proofs.YtondkinefmjpjaaGreat
open Go.RowKit Go.WideMaps Go.WideElems Go.Maps Go.Shelf
theorem TolI.next {B : Nat} {w wx wy wz : World} {vb : Nat} {P : PlanD} {rb ib : List Nat} {wb : Nat} {av av' lv : Value} {k : Nat} {R : Nat → List Int → Int} {g : Nat → List Int → Option Nat} {own : Nat → Option (Nat × List Int)} {us us' lus : List Value} {A l : Rws} (hB : B ≤ w.heap.size) (h : TolI B w wx vb P rb ib wb av k R g own us A) (hL : TolL B wx lv lus l) (hb : Below wx.heap.size wx wy) (hS : SumS B wy wz av av' us' (sumL A l)) : TolI B w wz vb P rb ib wb av' (k + 1) R g own us' (sumL A l) := by
  have hy := h.below hB hb
  refine ⟨hy.st.typ hS.kp.fr (fun i hi => own_cells hy.row.2.1 hi), h.ob, hS.row, sumL_once h.once hL.wr', ?_, ?_, hy.blw.trans (hS.kp.below (fun i hi => (hy.row.2.1.lt i hi).1) (Nat.le_trans hB hy.blw.size))⟩
  · have := sumL_small h.sm hL.fit.2 l.length (Nat.le_refl _)
    rw [List.take_length] at this
    exact this
  · have := sumL_len A l
    have := h.len
    have := hL.fit.1
    omega
end Go.Proofs.YtondkinefmjpjaaGreat
namespace Go.Proofs.YtondkinefmjpjaaGreat
open Go.RowKit Go.WideMaps Go.WideElems Go.Maps Go.Shelf
theorem wor_noR {P : PlanD} (h1 : 1 ≤ P.ms.length) (a : List Int) : P.wor (cont P noR) a = 0 := by
  have := clr_wor (P := P) (R := noR) (S := fun _ => true) (i := 0) (by omega) rfl a
  have e : clrR (fun _ => true) noR = noR := by funext r t; simp [clrR, noR]
  rw [e] at this
  exact this
theorem TolT.form {B : Nat} {w wx : World} {vb : Nat} {P : PlanD} {rb ib : List Nat} {wb : Nat} {av : Value} {k : Nat} {lv : Value} (h : TolT B w wx vb P rb ib wb av k lv) : ∃ a m c, lv = .slice a m c := by
  obtain ⟨_, _, _, _, _, _, l, _, hL, _⟩ := h
  obtain ⟨a, c, e⟩ := vown_form hL.row.2.1
  exact ⟨a, _, c, e⟩
theorem TolA.blw {B : Nat} {w wx : World} {vb : Nat} {P : PlanD} {rb ib : List Nat} {wb : Nat} {av : Value} {k : Nat} (h : TolA B w wx vb P rb ib wb av k) : Below B w wx := by
  obtain ⟨_, _, _, _, _, hI, _⟩ := h
  exact hI.blw
end Go.Proofs.YtondkinefmjpjaaGreat
