import Derived.Test.YtondkinefmjpjaaGreatX37
import Derived.Test.YtondkinefmjpjaaGreatX39
import Derived.Test.YtondkinefmjpjaaGreatX50
import Derived.Test.YtondkinefmjpjaaGreatX51
import Derived.Test.YtondkinefmjpjaaGreatX52
import Derived.Test.YtondkinefmjpjaaGreatX54
import Derived.Test.YtondkinefmjpjaaGreatX56
namespace Go.Proofs.YtondkinefmjpjaaGreat
open Go.RowKit Go.WideMaps Go.WideElems Go.Maps Go.Shelf
def RelFull (P : PlanD) : Prop := ∀ r, r < P.rels.length → ∃ i, i < P.ms.length ∧ P.relOf i = r
namespace K
theorem orN_bit (l : List Nat) (j : Nat) : (orN l).testBit j = true ↔ j ∈ l := by
  unfold orN
  suffices hh : ∀ (l : List Nat) (a : Nat), (l.foldl (fun a n => a ||| 2 ^ n) a).testBit j = true ↔ a.testBit j = true ∨ j ∈ l by
    rw [hh l 0]; simp
  intro l
  induction l with
  | nil => intro a; simp
  | cons n l ih =>
    intro a
    rw [List.foldl_cons, ih, Nat.testBit_or, Nat.testBit_two_pow, List.mem_cons]
    by_cases e : n = j
    · subst e; simp
    · have e' : ¬ j = n := fun h => e h.symm
      simp [e, e']
theorem plan_head (c : CS) : HdOk (planOf c) := fun j _ => orN_bit (hdN c) j
theorem plan_full {s : ByteArray} (h : pG s = true) : RelFull (planOf (rq s (c0 s)).2) := by
  have hR := relsK_in (rq s (c0 s)).2.ats (rq s (c0 s)).2.ats.length
  have hQ := (plan_ok h).2
  intro r hr
  obtain ⟨i, h1, h2, _⟩ := hR.hd r hr
  obtain ⟨r', h3, h4⟩ := hR.all i h1
  have h5 := (hR.mem r' h3 i h4).2
  have e := hR.nam r r' hr h3 (h2.symm.trans h5)
  subst e
  have hm : i < (planOf (rq s (c0 s)).2).ms.length := by
    show i < ((rq s (c0 s)).2.ats.map msk).length
    rw [List.length_map]; exact h1
  exact ⟨i, hm, ((hQ.iff r hr i hm).1 h4).symm⟩
end K
theorem rix_name {P : PlanD} {t : ByteArray} {r : Nat} (h : rixOf P.rels t = (r : Int)) : r < P.rels.length ∧ (P.rel r).1.toList = t.toList := by
  have := rix_yes (rels := P.rels) (rel := t) (by omega)
  rw [h, Int.toNat_natCast] at this
  exact this
theorem nam_zero {P : PlanD} (hF : RelFull P) (h1 : 1 ≤ P.ms.length) (R : Nat → List Int → Int) {names : List ByteArray} (hall : ∀ j, j < names.length → ∃ r : Nat, rixOf P.rels (names.getD j ByteArray.empty) = (r : Int)) (a : List Int) : P.wor (cont P (clrR (namS P names) R)) a = 0 := by
  cases names with
  | nil => exact clr_wor (i := 0) (by omega) (by simp [namS]) a
  | cons n names =>
    obtain ⟨r, hr⟩ := hall 0 (by simp)
    obtain ⟨h2, h3⟩ := rix_name hr
    obtain ⟨i, hi, e⟩ := hF r h2
    refine clr_wor hi ?_ a
    rw [e]
    unfold namS
    rw [List.any_cons, h3]
    simp
theorem least {p : Nat → Prop} (n : Nat) : p n → ∃ m, m ≤ n ∧ p m ∧ ∀ j, j < m → ¬ p j := by
  induction n using Nat.strongRecOn with
  | ind n ih =>
    intro h
    by_cases hx : ∃ j, j < n ∧ p j
    · obtain ⟨j, hj, hp⟩ := hx
      obtain ⟨m, h1, h2, h3⟩ := ih j hj hp
      exact ⟨m, by omega, h2, h3⟩
    · exact ⟨n, Nat.le_refl _, h, fun j hj hp => hx ⟨j, hj, hp⟩⟩
def ClC (w : World) (vb : Nat) (P : PlanD) (rb ib : List Nat) (wb : Nat) (R : Nat → List Int → Int) (own : Nat → Option (Nat × List Int)) (names : List ByteArray) (vv : Value) (c : Int) (w1 : World) : Prop :=
  (c = 5 ∧ vv = .slice none 0 0 ∧ Below w.heap.size w w1 ∧ ∃ j, j < names.length ∧ rixOf P.rels (names.getD j ByteArray.empty) = -1) ∨ (c = 0 ∧ (∀ j, j < names.length → ∃ r : Nat, rixOf P.rels (names.getD j ByteArray.empty) = (r : Int)) ∧ ∃ us l g', RNew 55 w.heap.size w1 vv us (l.map negR) ∧ l.Perm (rowsL (hvals P.head) (P.wor (cont P R)) (live 6 (P.wor (cont P R)))) ∧ RiseL l ∧ VSt w1 vb P rb ib wb (clrR (namS P names) R) g' own ∧ VUp w w1 own own)
theorem clear_c {w : World} {vb : Nat} {P : PlanD} {rb ib : List Nat} {wb : Nat} {R : Nat → List Int → Int} {g : Nat → List Int → Option Nat} {own : Nat → Option (Nat × List Int)} (h : VSt w vb P rb ib wb R g own) (hF : RelFull P) (names : List ByteArray) {v : Value} (hv : SReads w v names) (hl : names.length ≤ 1000) :
    Calls Tryz.prog 18 #[.pointer (some ⟨vb, 0, none⟩), v] w fun e w' => ∃ v, e = .returned v ∧ ∃ vv c, v = .tuple #[vv, .int .i64 c] ∧ ClC w vb P rb ib wb R own names vv c w' := by
  by_cases hall : ∀ j, j < names.length → ∃ r : Nat, rixOf P.rels (names.getD j ByteArray.empty) = (r : Int)
  · refine (Clear_ok h names hv hl hall (nam_zero hF h.ok.n1 R hall)).mono ?_
    rintro e w' ⟨vv, us, l, g', rfl, q1, q2, q3, q4, q5⟩
    exact ⟨_, rfl, vv, 0, rfl, Or.inr ⟨rfl, hall, us, l, g', q1, q2, q3, q4, q5⟩⟩
  · obtain ⟨j, hj⟩ := Classical.not_forall.1 hall
    obtain ⟨hj1, hj2⟩ := Classical.not_imp.1 hj
    obtain ⟨m, h1, ⟨h2, h3⟩, h4⟩ := least (p := fun j => j < names.length ∧ rixOf P.rels (names.getD j ByteArray.empty) = -1) j ⟨hj1, by
      rcases rix_cases P.rels (names.getD j ByteArray.empty) with e | ⟨r, _, e⟩
      · exact e
      · exact absurd ⟨r, e⟩ hj2⟩
    refine (Clear_no h names hv hl h2 h3 (fun k hk => ?_)).mono ?_
    · rcases rix_cases P.rels (names.getD k ByteArray.empty) with e | ⟨r, _, e⟩
      · exact absurd ⟨by omega, e⟩ (h4 k hk)
      · exact ⟨r, e⟩
    · rintro e w' ⟨rfl, hb⟩
      exact ⟨_, rfl, _, 5, rfl, Or.inl ⟨rfl, rfl, hb, m, h2, h3⟩⟩
def nmOf (A : Int) (S T : ByteArray) : List ByteArray := if A = 0 then [] else if A = 1 then [S] else [S, T]
theorem nmOf_len (A : Int) (S T : ByteArray) : (nmOf A S T).length ≤ 1000 := by
  unfold nmOf; split
  · simp
  · split <;> simp
set_option maxHeartbeats 2000000 in
set_option maxRecDepth 100000 in
theorem named_any (kd am : Int) (S T : ByteArray) (lv : Value) (w : World) (hlv : ∃ a n c, lv = .slice a n c) :
    Calls Tryz.prog 19 #[.agg #[.int .i64 kd, .int .i64 am, .string S, .string T, lv]] w fun e w' => ∃ v, e = .returned v ∧ SReads w' v (nmOf am S T) ∧ Below w.heap.size w w' := by
  obtain ⟨la, ln, lc, rfl⟩ := hlv
  have hba : Below w.heap.size w (w.alloc (.cells #[.int .i64 kd, .int .i64 am, .string S, .string T, .slice la ln lc] 30)) := (Below.refl _ _).alloc (Nat.le_refl _) _
  cases h0 : (am == 0)
  · cases h1 : (am == 1)
    · have HE : Hid (nmOf am S T = [S, T]) := by
        unfold Hid nmOf; rw [if_neg (by simpa using h0), if_neg (by simpa using h1)]
      go_enter Tryz.func19, Tryz.ntmps19
      go_wp2_with fail
      go_ret
      refine ⟨_, rfl, ?_, hba.alloc hba.size _⟩
      rw [HE.out]
      refine ⟨_, _, rfl, fun _ => ⟨_, 0, rfl, fun j hj => ?_⟩⟩
      match j, hj with
      | 0, _ => simp
      | 1, _ => simp
    · have HE : Hid (nmOf am S T = [S]) := by
        unfold Hid nmOf; rw [if_neg (by simpa using h0), if_pos (by simpa using h1)]
      go_enter Tryz.func19, Tryz.ntmps19
      go_wp2_with fail
      go_ret
      refine ⟨_, rfl, ?_, hba.alloc hba.size _⟩
      rw [HE.out]
      refine ⟨_, _, rfl, fun _ => ⟨_, 0, rfl, fun j hj => ?_⟩⟩
      match j, hj with
      | 0, _ => simp
  · have HE : Hid (nmOf am S T = []) := by
      unfold Hid nmOf; rw [if_pos (by simpa using h0)]
    go_enter Tryz.func19, Tryz.ntmps19
    go_wp2_with fail
    go_ret
    refine ⟨_, rfl, ?_, hba⟩
    rw [HE.out]
    exact ⟨_, _, rfl, fun h => absurd h (by simp)⟩
end Go.Proofs.YtondkinefmjpjaaGreat
namespace Go.Proofs.YtondkinefmjpjaaGreat
open Go.RowKit Go.WideMaps Go.WideElems Go.Maps Go.Shelf
def T103 (w : World) (M : Nat → Prop) : Prop := ∀ i, M i → ∃ c, w.heap[i]? = some (.cells c 103 (0, 0))
theorem Fr.blkT {M : Nat → Prop} {w w' : World} (hf : Fr M w w') (hm : T103 w M) {b : Nat} {c : Array Value} {t : TypeId} {z : Nat × Nat} (hb : w.heap[b]? = some (.cells c t z)) (ht : t ≠ 103) : w'.heap[b]? = w.heap[b]? :=
  hf.block b (vlt_of_block hb) (fun h => by obtain ⟨c', e⟩ := hm b h; rw [hb] at e; simp at e; exact ht e.2.1)
theorem Fr.mapT {M : Nat → Prop} {w w' : World} (hf : Fr M w w') (hm : T103 w M) {b c : Nat} {es : Array MapEntry} (hb : w.heap[b]? = some (.map es c)) : w'.heap[b]? = w.heap[b]? :=
  hf.block b (vlt_of_block hb) (fun h => by obtain ⟨c', e⟩ := hm b h; rw [hb] at e; cases e)
theorem Fr.ownT {M : Nat → Prop} {w w' : World} (hf : Fr M w w') (hm : T103 w M) {base : Nat} {e : TypeId} {size : Nat} {v : Value} {n : Nat} {xs : List Value} (ho : w.ownsRow base e size v n xs) (he : e ≠ 103) : w'.ownsRow base e size v n xs := by
  refine ⟨ho.1, ?_⟩
  rcases ho.2 with hn | ⟨g, cap, cur, rfl, h1, h2, rest⟩
  · exact .inl hn
  · exact .inr ⟨g, cap, cur, rfl, h1, (hf.blkT hm h2 he).trans h2, rest⟩
theorem PlanSt.typ {M : Nat → Prop} {w w' : World} {vb : Nat} {P : PlanD} (h : PlanSt w vb P) (hf : Fr M w w') (hm : T103 w M) (e : w'.heap[vb]? = w.heap[vb]?) : PlanSt w' vb P := by
  obtain ⟨⟨hv, b1, h1, h2⟩, h3, ⟨rv, b2, rvs, h4, h5, h6, h7⟩, ⟨av, b3, pvs, h8, h9, h10, h11⟩, ⟨lv, b4, h12, h13⟩, ⟨wv, b5, wvs, h14, h15, h16, h17⟩⟩ := h
  exact ⟨⟨hv, b1, cell_of_block h1 e, hf.ownT hm h2 (by decide)⟩, cell_of_block h3 e, ⟨rv, b2, rvs, cell_of_block h4 e, hf.ownT hm h5 (by decide), h6, fun k hk => let ⟨b', h⟩ := h7 k hk; ⟨b', hf.ownT hm h (by decide)⟩⟩, ⟨av, b3, pvs, cell_of_block h8 e, hf.ownT hm h9 (by decide), h10, fun k hk => let ⟨b', h⟩ := h11 k hk; ⟨b', hf.ownT hm h (by decide)⟩⟩, ⟨lv, b4, cell_of_block h12 e, hf.ownT hm h13 (by decide)⟩, ⟨wv, b5, wvs, cell_of_block h14 e, hf.ownT hm h15 (by decide), h16, fun k hk => let ⟨b', h⟩ := h17 k hk; ⟨b', hf.ownT hm h (by decide)⟩⟩⟩
theorem VSt.typ {M : Nat → Prop} {w w' : World} {vb : Nat} {P : PlanD} {rb ib : List Nat} {wb : Nat} {R : Nat → List Int → Int} {g : Nat → List Int → Option Nat} {own : Nat → Option (Nat × List Int)} (h : VSt w vb P rb ib wb R g own) (hf : Fr M w w') (hm : T103 w M) : VSt w' vb P rb ib wb R g own := by
  obtain ⟨c, hb⟩ := h.hb
  have e := hf.blkT hm hb (by decide)
  obtain ⟨rv, b1, r1, r2⟩ := h.rows
  obtain ⟨iv, b2, i1, i2⟩ := h.ixs
  have hn : ∀ i p, own i = some p → w'.heap[i]? = w.heap[i]? := fun i p hp => by
    obtain ⟨es, k, e⟩ := h.W.m i p hp
    exact hf.mapT hm e
  refine ⟨h.ok, h.rel, h.rok, ⟨c, e.trans hb⟩, cell_of_block h.h0 e, h.pl.typ hf hm e, ⟨rv, b1, cell_of_block r1 e, hf.ownT hm r2 (by decide)⟩, ⟨iv, b2, cell_of_block i1 e, hf.ownT hm i2 (by decide)⟩, cell_of_block h.wo e, h.hrb, h.hil, fun r hr => ⟨(h.cr r hr).1.block (hn _ _ (h.cr r hr).2), (h.cr r hr).2⟩, fun l hl => (h.A l hl).block (hn _ _ (h.W.o l hl)) (fun k hk c hc => hn _ _ (h.W.i l hl k hk c hc)), ⟨h.W.o, h.W.i, fun i p hp => ?_⟩, h.ow, h.cw.block (hn _ _ h.ow), h.no4⟩
  obtain ⟨es, k, e⟩ := h.W.m i p hp
  exact ⟨es, k, (hn i p hp).trans e⟩
theorem Kp.fr {M : Nat → Prop} {w w' : World} (h : Kp M w w') : Fr M w w' := ⟨h.size, h.os, h.tape, h.output, h.block⟩
structure TolI (B : Nat) (w wx : World) (vb : Nat) (P : PlanD) (rb ib : List Nat) (wb : Nat) (av : Value) (k : Nat) (R : Nat → List Int → Int) (g : Nat → List Int → Option Nat) (own : Nat → Option (Nat × List Int)) (us : List Value) (A : Rws) : Prop where
  st : VSt wx vb P rb ib wb R g own
  ob : ∀ b, own b ≠ none → B ≤ b
  row : RNew 103 B wx av us A
  once : Once A
  sm : SmallV A
  len : A.length ≤ k * 1000000
  blw : Below B w wx
structure TolL (B : Nat) (wx : World) (lv : Value) (lus : List Value) (l : Rws) : Prop where
  row : RNew 55 B wx lv lus l
  rise : Rise l
  fit : Fit 1000000 l
  wr' : ∀ r, r ∈ l → wr r.2 = r.2
def TolA (B : Nat) (w wx : World) (vb : Nat) (P : PlanD) (rb ib : List Nat) (wb : Nat) (av : Value) (k : Nat) : Prop :=
  ∃ R g own us A, TolI B w wx vb P rb ib wb av k R g own us A ∧ ∀ ys, wr (totK A ys) = wr (totF (hvals P.head) (P.wor (cont P R)) ys)
def TolT (B : Nat) (w wx : World) (vb : Nat) (P : PlanD) (rb ib : List Nat) (wb : Nat) (av : Value) (k : Nat) (lv : Value) : Prop :=
  ∃ R g own us A lus l, TolI B w wx vb P rb ib wb av k R g own us A ∧ TolL B wx lv lus l ∧ ∀ ys, wr (totK A ys + totK l ys) = wr (totF (hvals P.head) (P.wor (cont P R)) ys)
theorem TolI.below {B : Nat} {w wx wy : World} {vb : Nat} {P : PlanD} {rb ib : List Nat} {wb : Nat} {av : Value} {k : Nat} {R : Nat → List Int → Int} {g : Nat → List Int → Option Nat} {own : Nat → Option (Nat × List Int)} {us : List Value} {A : Rws} (h : TolI B w wx vb P rb ib wb av k R g own us A) (hB : B ≤ w.heap.size) (hb : Below wx.heap.size wx wy) : TolI B w wy vb P rb ib wb av k R g own us A :=
  ⟨h.st.fr (fr_below hb), h.ob, h.row.below hb, h.once, h.sm, h.len, h.blw.trans (hb.mono (Nat.le_trans hB h.blw.size))⟩
theorem TolA.below {B : Nat} {w wx wy : World} {vb : Nat} {P : PlanD} {rb ib : List Nat} {wb : Nat} {av : Value} {k : Nat} (h : TolA B w wx vb P rb ib wb av k) (hB : B ≤ w.heap.size) (hb : Below wx.heap.size wx wy) : TolA B w wy vb P rb ib wb av k := by
  obtain ⟨R, g, own, us, A, h1, h2⟩ := h
  exact ⟨R, g, own, us, A, h1.below hB hb, h2⟩
theorem TolL.nil (B : Nat) (wx : World) : TolL B wx (.slice none 0 0) [] [] :=
  ⟨⟨rfl, World.ownsRow_nil _ _ _ _, fun j hj => absurd hj (by simp)⟩, ⟨fun j hj => absurd hj (by simp), fun j hj => absurd hj (by simp)⟩, ⟨by simp, fun j hj => absurd hj (by simp)⟩, fun _ h => by cases h⟩
theorem TolA.still {B : Nat} {w wx : World} {vb : Nat} {P : PlanD} {rb ib : List Nat} {wb : Nat} {av : Value} {k : Nat} (h : TolA B w wx vb P rb ib wb av k) : TolT B w wx vb P rb ib wb av k (.slice none 0 0) := by
  obtain ⟨R, g, own, us, A, h1, h2⟩ := h
  exact ⟨R, g, own, us, A, [], [], h1, TolL.nil _ _, fun ys => by rw [show totK [] ys = 0 from rfl, Int.add_zero]; exact h2 ys⟩
theorem TolI.up {B : Nat} {w wx wy : World} {vb : Nat} {P : PlanD} {rb ib : List Nat} {wb : Nat} {av : Value} {k : Nat} {R R' : Nat → List Int → Int} {g g' : Nat → List Int → Option Nat} {own own' : Nat → Option (Nat × List Int)} {us : List Value} {A : Rws} (h : TolI B w wx vb P rb ib wb av k R g own us A) (hB : B ≤ w.heap.size) (hs : VSt wy vb P rb ib wb R' g' own') (hu : VUp wx wy own own') : TolI B w wy vb P rb ib wb av k R' g' own' us A := by
  obtain ⟨u1, u2⟩ := hu.below (Nat.le_trans hB h.blw.size) h.ob
  exact ⟨hs, u2, h.row.frm hu.fr (mps_ow h.st.W), h.once, h.sm, h.len, h.blw.trans u1⟩
theorem rise_neg {l : Rws} (h : Rise l) (hw : ∀ r, r ∈ l → wr r.2 = r.2) : Rise (l.map negR) := by
  have hat : ∀ j, j < l.length → rAt (l.map negR) j = negR (rAt l j) := fun j hj => by
    rw [rAt_get _ _ (by simpa using hj), rAt_get _ _ hj, List.getElem_map]
  refine ⟨fun j hj => ?_, fun j hj => ?_⟩
  · rw [List.length_map] at hj
    rw [hat j hj]
    have h1 := h.1 j hj
    have h2 := hw (rAt l j) (by rw [rAt_get _ _ hj]; exact List.getElem_mem hj)
    intro e
    have e' : wr (-(rAt l j).2) = 0 := e
    have h3 : wr (-(wr (-(rAt l j).2))) = wr (- -(rAt l j).2) := wr_neg _
    rw [e', Int.neg_neg, h2] at h3
    exact h1 h3.symm
  · rw [List.length_map] at hj
    rw [hat j (by omega), hat (j + 1) hj]
    exact h.2 j hj
theorem TolA.upd {B : Nat} {w wx wy : World} {vb : Nat} {P : PlanD} {rb ib : List Nat} {wb : Nat} {av vv : Value} {k : Nat} {R R' : Nat → List Int → Int} {g g' : Nat → List Int → Option Nat} {own own' : Nat → Option (Nat × List Int)} {us lus : List Value} {A l : Rws} (hH : HdOk P) (hB : B ≤ w.heap.size) (h : TolI B w wx vb P rb ib wb av k R g own us A) (hA : ∀ ys, wr (totK A ys) = wr (totF (hvals P.head) (P.wor (cont P R)) ys))
    (hn : RNew 55 wx.heap.size wy vv lus l) (hp : l.Perm (rowsL (hvals P.head) (fun a => P.wor (cont P R') a - P.wor (cont P R) a) (live 6 (fun a => P.wor (cont P R') a - P.wor (cont P R) a)))) (hr : RiseL l) (hs : VSt wy vb P rb ib wb R' g' own') (hu : VUp wx wy own own') : TolT B w wy vb P rb ib wb av k vv := by
  refine ⟨R', g', own', us, A, lus, l, h.up hB hs hu, ⟨hn.weak (Nat.le_trans hB h.blw.size), rows_rise hH hp hr (fun a ha => dlt_fix ha), rows_fit hp h.st.ok.head6 (diff_few (wor_few h.st.ok h.st.rel hs.rok) (wor_few h.st.ok h.st.rel h.st.rok)), rows_wr hp⟩, fun ys => ?_⟩
  rw [wr_tr (hA ys), Int.add_comm, wr_tr (rows_tot hp ys), totF_add]
  refine wr_to ?_
  unfold totF
  exact S_congr fun a _ => by
    dsimp only
    split <;> omega
theorem TolA.clr {B : Nat} {w wx wy : World} {vb : Nat} {P : PlanD} {rb ib : List Nat} {wb : Nat} {av vv : Value} {k : Nat} {R R' : Nat → List Int → Int} {g g' : Nat → List Int → Option Nat} {own own' : Nat → Option (Nat × List Int)} {us lus : List Value} {A l : Rws} (hH : HdOk P) (hB : B ≤ w.heap.size) (h : TolI B w wx vb P rb ib wb av k R g own us A) (hA : ∀ ys, wr (totK A ys) = wr (totF (hvals P.head) (P.wor (cont P R)) ys))
    (hn : RNew 55 wx.heap.size wy vv lus (l.map negR)) (hp : l.Perm (rowsL (hvals P.head) (P.wor (cont P R)) (live 6 (P.wor (cont P R))))) (hr : RiseL l) (h0 : ∀ a, P.wor (cont P R') a = 0) (hs : VSt wy vb P rb ib wb R' g' own') (hu : VUp wx wy own own') : TolT B w wy vb P rb ib wb av k vv := by
  refine ⟨R', g', own', us, A, lus, l.map negR, h.up hB hs hu, ⟨hn.weak (Nat.le_trans hB h.blw.size), rise_neg (rows_rise hH hp hr (fun a ha => wor_fix ha)) (rows_wr hp), fit_neg (rows_fit hp h.st.ok.head6 (by have := wor_few h.st.ok h.st.rel h.st.rok; omega)), neg_wr l⟩, fun ys => ?_⟩
  rw [wr_tr (hA ys), Int.add_comm, wr_tr (neg_tot l ys), Int.add_comm, ← wr_add_r]
  have h1 : wr (-(totK l ys)) = wr (-(totF (hvals P.head) (P.wor (cont P R)) ys)) := by rw [← wr_neg, rows_tot hp ys, wr_neg]
  rw [h1, wr_add_r]
  refine wr_to ?_
  rw [show totF (hvals P.head) (P.wor (cont P R')) ys = 0 from S_zero fun a _ => by rw [h0]; split <;> rfl]; omega
end Go.Proofs.YtondkinefmjpjaaGreat
namespace Go.Proofs.YtondkinefmjpjaaGreat
open Go.RowKit Go.WideMaps Go.WideElems Go.Maps Go.Shelf
theorem TolA.refused {B : Nat} {w u w' : World} {vb : Nat} {P : PlanD} {rb ib : List Nat} {wb : Nat} {av : Value} {k : Nat} (h : TolA B w u vb P rb ib wb av k) (hB : B ≤ w.heap.size) (hb : Below u.heap.size u w') (c : Int) :
    ∃ v : Value, Ending.returned (.tuple #[.slice none 0 0, .int .i64 c]) = .returned v ∧ ∃ vv c, v = .tuple #[vv, .int .i64 c] ∧ TolT B w w' vb P rb ib wb av k vv ∧ ∀ p x, u.cell? p = some x → w'.cell? p = some x :=
  ⟨_, rfl, _, c, rfl, (h.below hB hb).still, fun _ _ hx => (fr_below hb).cell (mps_none _) hx⟩
theorem upd_ch {B : Nat} {w u : World} {vb : Nat} {P : PlanD} {rb ib : List Nat} {wb : Nat} {av : Value} {k : Nat} (h : TolA B w u vb P rb ib wb av k) (hH : HdOk P) (hB : B ≤ w.heap.size) (name : ByteArray) (x : Int) {v : Value} {xs : List Int} (hr : Reads u v xs) (hxl : xs.length < 4611686018427387904) (hT : ∀ r, r < P.rels.length → (P.rel r).2.1 ≤ 3) :
    Calls Tryz.prog 16 #[.pointer (some ⟨vb, 0, none⟩), .string name, .int .i64 x, v] u fun e w' => ∃ v, e = .returned v ∧ ∃ vv c, v = .tuple #[vv, .int .i64 c] ∧ TolT B w w' vb P rb ib wb av k vv ∧ ∀ p x, u.cell? p = some x → w'.cell? p = some x := by
  have h' := h
  obtain ⟨R, g, own, us, A, hI, hA⟩ := h'
  rcases rix_cases P.rels name with hX | ⟨r, hrl, hX⟩
  · refine (Update_name hI.st name x hr hX).mono ?_
    rintro e w' ⟨rfl, hb⟩; exact h.refused hB hb _
  · by_cases heq : xs.length = (P.rel r).2.1
    · cases hrg : (beyond x 9 || !xs.all okV)
      · rw [Bool.or_eq_false_iff] at hrg
        have hvs : xs.all okV = true := by simpa using hrg.2
        have hx3 : xs.length ≤ 3 := by rw [heq]; exact hT r hrl
        by_cases hrf : refus (R r (pad xs)) x (live 3 (R r)).length = 0
        · refine (Update_ok hI.st name x hr hrl hX heq hx3 hrg.1 hvs hrf).mono ?_
          rintro e w' ⟨vv, lus, l, g', own', rfl, h1, h2, h3, h4, h5⟩
          exact ⟨_, rfl, vv, 0, rfl, TolA.upd hH hB hI hA h1 h2 h3 h4 h5, fun _ _ hx => h5.fr.cell (mps_ow hI.st.W) hx⟩
        · refine (Update_refus hI.st name x hr hrl hX heq hx3 hrg.1 hvs hrf).mono ?_
          rintro e w' ⟨rfl, hb⟩; exact h.refused hB hb _
      · refine (Update_range hI.st name x hr hxl hrl hX heq hrg).mono ?_
        rintro e w' ⟨rfl, hb⟩; exact h.refused hB hb _
    · refine (Update_shape hI.st name x hr hxl hrl hX heq).mono ?_
      rintro e w' ⟨rfl, hb⟩; exact h.refused hB hb _
theorem clr_ch {B : Nat} {w u : World} {vb : Nat} {P : PlanD} {rb ib : List Nat} {wb : Nat} {av : Value} {k : Nat} (h : TolA B w u vb P rb ib wb av k) (hH : HdOk P) (hF : RelFull P) (hB : B ≤ w.heap.size) (names : List ByteArray) {v : Value} (hv : SReads u v names) (hl : names.length ≤ 1000) :
    Calls Tryz.prog 18 #[.pointer (some ⟨vb, 0, none⟩), v] u fun e w' => ∃ v, e = .returned v ∧ ∃ vv c, v = .tuple #[vv, .int .i64 c] ∧ TolT B w w' vb P rb ib wb av k vv := by
  have h' := h
  obtain ⟨R, g, own, us, A, hI, hA⟩ := h'
  refine (clear_c hI.st hF names hv hl).mono ?_
  rintro e w' ⟨_, rfl, vv, c, rfl, ⟨rfl, rfl, hb, _⟩ | ⟨rfl, hall, lus, l, g', h1, h2, h3, h4, h5⟩⟩
  · exact ⟨_, rfl, _, 5, rfl, (h.below hB hb).still⟩
  · exact ⟨_, rfl, vv, 0, rfl, TolA.clr hH hB hI hA h1 h2 h3 (nam_zero hF hI.st.ok.n1 R hall) h4 h5⟩
theorem rows_r {w : World} {vb : Nat} {P : PlanD} {rb ib : List Nat} {wb : Nat} {R : Nat → List Int → Int} {g : Nat → List Int → Option Nat} {own : Nat → Option (Nat × List Int)} (h : VSt w vb P rb ib wb R g own) (hH : HdOk P) :
    Calls Tryz.prog 12 #[.pointer (some ⟨vb, 0, none⟩)] w fun e w' => ∃ v us l, e = .returned v ∧ TolL w.heap.size w' v us l ∧ l.Perm (rowsL (hvals P.head) (P.wor (cont P R)) (live 6 (P.wor (cont P R)))) ∧ Below w.heap.size w w' := by
  obtain ⟨c, hb⟩ := h.hb
  have hfew := wor_few h.ok h.rel h.rok
  refine (Rows_any vb wb P h.ok _ w c hb h.h0 h.pl h.wo h.cw (by omega)).mono ?_
  rintro e w' ⟨v, us, l, rfl, q1, q2, q3, q4⟩
  exact ⟨v, us, l, rfl, ⟨q1, rows_rise hH q2 q3 (fun a ha => wor_fix ha), rows_fit q2 h.ok.head6 (by omega), rows_wr q2⟩, q2, q4⟩
theorem sound_s {B : Nat} {wx u : World} {lv : Value} {lus : List Value} {l : Rws} (h : TolL B wx lv lus l) (hr : RRead u lv l) :
    Calls Tryz.prog 20 #[lv] u fun e w' => e = .returned (.bool true) ∧ Below u.heap.size u w' :=
  sound_any lv l u hr (by have := h.fit.1; omega) (fun j hj => by have := h.fit.2 j hj; omega) h.rise
theorem TolI.next {B : Nat} {w wx wy wz : World} {vb : Nat} {P : PlanD} {rb ib : List Nat} {wb : Nat} {av av' lv : Value} {k : Nat} {R : Nat → List Int → Int} {g : Nat → List Int → Option Nat} {own : Nat → Option (Nat × List Int)} {us us' lus : List Value} {A l : Rws} (hB : B ≤ w.heap.size) (h : TolI B w wx vb P rb ib wb av k R g own us A) (hL : TolL B wx lv lus l) (hb : Below wx.heap.size wx wy) (hS : SumS B wy wz av av' us' (sumL A l)) : TolI B w wz vb P rb ib wb av' (k + 1) R g own us' (sumL A l) := by
  have hy := h.below hB hb
  refine ⟨hy.st.typ hS.kp.fr (fun i hi => own_cells hy.row.2.1 hi), h.ob, hS.row, sumL_once h.once hL.wr', ?_, ?_, hy.blw.trans (hS.kp.below (fun i hi => (hy.row.2.1.lt i hi).1) (Nat.le_trans hB hy.blw.size))⟩
  · have := sumL_small h.sm hL.fit.2 l.length (Nat.le_refl _)
    rw [List.take_length] at this
    exact this
  · have := sumL_len A l
    have := h.len
    have := hL.fit.1
    omega
theorem keep_map (l : Rws) : l.map keepR = l := by
  have : keepR = id := by funext r; rfl
  rw [this, List.map_id]
theorem rest_nothing {P : PlanD} {R : Nat → List Int → Int} {A m : Rws} (hA : Once A) (htot : ∀ ys, wr (totK A ys) = wr (totF (hvals P.head) (P.wor (cont P R)) ys)) (hm : m.Perm (rowsL (hvals P.head) (P.wor (cont P R)) (live 6 (P.wor (cont P R))))) : ((sumL (sumL [] (m.map negR)) A).all fun r => r.2 == 0) = true := by
  refine sum_two (neg_wr m) hA.2 (fun ys => ?_)
  rw [wr_tr (neg_tot m ys), Int.add_comm, wr_tr (htot ys), Int.add_comm]
  have h1 := rows_tot hm ys
  rw [← wr_add_l, ← wr_neg, h1, wr_neg, wr_add_l, Int.add_left_neg]; rfl
end Go.Proofs.YtondkinefmjpjaaGreat
