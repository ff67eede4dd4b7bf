import Derived.Test.YtondkinefmjpjaaPar1
namespace Go.Proofs.Ytondkinefmjpjaa
open Go.RowKit

/-- An atom, plainly: its relation, its terms' variables, its place. -/
structure PA where
  rel : ByteArray
  vs : List Int
  a : Nat

def AD.pa (d : AD) : PA := ⟨d.rel, d.ts.map Prod.fst, d.at_⟩
def clashP (rel : ByteArray) (n : Nat) (d : PA) : Bool := (d.rel.toList == rel.toList) && (d.vs.length != n)
def aFinP (s : ByteArray) (r : Est.Rd) (pl : List PA) (vars : List ByteArray) : Est.Rd :=
  if pl.any (clashP (aR1 r pl.length).g.t (aT s r pl.length vars).2.2.length) then ((aT s r pl.length vars).1.must s 41).fail 6 r.g.a else (aT s r pl.length vars).1.must s 41
theorem aFin_eq (s : ByteArray) (r : Est.Rd) (l : List AD) (vars : List ByteArray) : aFin s r l vars = aFinP s r (l.map AD.pa) vars := by
  unfold aFin aFinP aShape
  rw [List.take_length, List.length_map, List.any_map]
  have : (clashP (aR1 r l.length).g.t (aT s r l.length vars).2.2.length ∘ AD.pa) = clash (aR1 r l.length).g.t (aT s r l.length vars).2.2.length := by
    funext d; simp [clashP, clash, AD.pa]
  rw [this]
/-- One atom. -/
def aStep (s : ByteArray) (x : Est.Rd × List ByteArray × List PA) : Est.Rd × List ByteArray × List PA :=
  (aFinP s x.1 x.2.2 x.2.1, (aT s x.1 x.2.2.length x.2.1).2.1, x.2.2 ++ [⟨(aR1 x.1 x.2.2.length).g.t, (aT s x.1 x.2.2.length x.2.1).2.2, x.1.g.a⟩])
/-- The atoms behind the first. -/
def al (s : ByteArray) : Nat → Est.Rd × List ByteArray × List PA → Est.Rd × List ByteArray × List PA
  | 0, x => x
  | n + 1, x => if x.1.isB 44 then al s n (aStep s (x.1.next s, x.2.1, x.2.2)) else x
/-- The names of the head. -/
def nl (vars : List ByteArray) : List ByteArray → List Nat → Est.Rd → Est.Rd
  | n :: ns, p :: ps, r => if r.bad = 0 then (if vars.any (fun v => v.toList == n.toList) then nl vars ns ps r else r.fail 5 p) else r
  | _, _, r => r
def TA (s : ByteArray) : Est.Rd × List ByteArray × List PA := al s 5 (aStep s ((((TH s).1.must s 41).must s 58), [], []))
def rE (s : ByteArray) : Est.Rd := if ((TA s).1.must s 46).bad = 0 ∧ ((TA s).1.must s 46).g.k ≠ 0 then ((TA s).1.must s 46).fail 2 ((TA s).1.must s 46).g.a else (TA s).1.must s 46
def rN (s : ByteArray) : Est.Rd := nl (TA s).2.1 (TH s).2.1 (TH s).2.2 (rE s)

/-- Going round, plainly. -/
def hasP (pl : List PA) (i v : Nat) : Bool := (((pl.map PA.vs)[i]?).getD []).any fun t => t == (v : Int)
def earP (nv : Nat) (left : List Bool) (pl : List PA) (i k : Nat) : Bool :=
  (List.range pl.length).all fun j => !(left.getD j false) || j == i || (List.range nv).all fun v => !(hasP pl i v && hasP pl j v && !hasP pl k v)
def cycP (nv : Nat) (pl : List PA) : Nat → List Bool → Bool
  | 0, _ => false
  | n + 1, left => match (List.range pl.length).find? fun i => (List.range pl.length).any fun k => left.getD i false && left.getD k false && !(i == k) && earP nv left pl i k with
    | none => true
    | some g => cycP nv pl n (left.set g false)
theorem hasP_eq (l : List AD) (i v : Nat) : hasP (l.map AD.pa) i v = hasV (tsAt l i) v := by
  unfold hasP hasV tsAt
  rw [List.map_map]
  by_cases h : i < l.length
  · simp [h, AD.pa, List.any_map, Function.comp_def]
  · simp [Nat.le_of_not_lt h]
theorem earP_eq (nv : Nat) (left : List Bool) (l : List AD) (i k : Nat) : earP nv left (l.map AD.pa) i k = earB nv left l i k := by
  unfold earP earB earJ shr
  simp only [List.length_map, hasP_eq]
theorem cycP_eq (nv : Nat) (l : List AD) (n : Nat) (left : List Bool) : cyc nv l n left = cycP nv (l.map AD.pa) n left := by
  induction n generalizing left with
  | zero => rfl
  | succ n ih =>
    unfold cyc cycP gone1 goneB pairB
    simp only [List.length_map, earP_eq]
    split <;> rename_i h <;> rw [h]
    simp only [ih]

/-- What the document's Parse answers: the error and its place. -/
def refE (s : ByteArray) : Int := if 200 < s.size then 1 else if (rN s).bad ≠ 0 then ((rN s).bad : Int) else if cycP (TA s).2.1.length (TA s).2.2 ((TA s).2.2.length - 1) (List.replicate (TA s).2.2.length true) then 7 else 0
def refP (s : ByteArray) : Int := if 200 < s.size then 0 else if (rN s).bad ≠ 0 then ((rN s).bat : Int) else 0

/-- While atoms are read. -/
structure PSt (w wr : World) (B base : Nat) (s : ByteArray) (r : Est.Rd) (vars : List ByteArray) (hv : Value) (l : List AD) (ns : List ByteArray) (ps : List Nat) (nv pv : Value) : Prop where
  ast : ASt wr (B + 1) B base s r vars hv l
  nrow : wr.ownsRow (B + 2) 9 1 nv ns.length (strs ns)
  nlt : ∀ k, nv.ownBlock = some k → k < base
  prow : wr.ownsRow (B + 2) 3 1 pv ps.length (ints ps)
  plt : ∀ k, pv.ownBlock = some k → k < base
  below : Below B w wr
  bb : B + 2 ≤ base
  bs : base ≤ wr.heap.size
  vs : r.bad = 0 → ∀ d, d ∈ l → d.ts.length ≤ 100 ∧ ∀ t, t ∈ d.ts → t.1 < vars.length

section
variable {w wr w' : World} {B base : Nat} {s : ByteArray} {r r' : Est.Rd} {vars vars' : List ByteArray} {hv : Value} {l l' : List AD} {ns : List ByteArray} {ps : List Nat} {nv pv : Value}
theorem HSt.toP (h : HSt w wr B s r ns ps nv pv) : PSt w wr B wr.heap.size s r [] (.slice none 0 0) [] ns ps nv pv :=
  ⟨⟨⟨_, ⟨h.rd, _, h.q, World.ownsRow_nil _ _ _ _⟩, World.ownsRow_nil _ _ _ _⟩, fun d hd => by simp at hd⟩, h.nrow, fun k hk => (h.nrow.lt k hk).2, h.prow, fun k hk => (h.prow.lt k hk).2, h.below, h.lt, Nat.le_refl _, fun _ d hd => by simp at hd⟩
theorem PSt.keeps {F : Nat → Option Obj → Prop} (h : PSt w wr B base s r vars hv l ns ps nv pv) (k : Keeps F wr w') (ha : ASt w' (B + 1) B base s r' vars' hv l') (hF : ∀ j o, F j o → j = B + 1 ∨ j = B ∨ base ≤ j)
    (hvs : r'.bad = 0 → ∀ d, d ∈ l' → d.ts.length ≤ 100 ∧ ∀ t, t ∈ d.ts → t.1 < vars'.length) : PSt w w' B base s r' vars' hv l' ns ps nv pv := by
  have hb := h.bb
  have hs := h.bs
  refine ⟨ha, own_keeps h.nrow k (fun j hj _ _ hk e => ?_), h.nlt, own_keeps h.prow k (fun j hj _ _ hk e => ?_), h.plt, ?_, h.bb, Nat.le_trans h.bs k.size, hvs⟩
  · have := hF _ _ e; have := h.nlt j hk; omega
  · have := hF _ _ e; have := h.plt j hk; omega
  · refine h.below.trans ⟨k.os, k.tape, k.output, k.size, fun j hj => k.block j (by omega) (fun e => ?_)⟩
    have := hF _ _ e; omega
theorem PSt.kept (h : PSt w wr B base s r vars hv l ns ps nv pv) (hr : Rdr w' (B + 1) s r' (.pointer (some ⟨B, 0, none⟩))) (k : Kept (· = B + 1) wr w') (hb : r'.bad = 0 → r.bad = 0) : PSt w w' B base s r' vars hv l ns ps nv pv :=
  h.keeps (F := fun j _ => j = B + 1) (Keeps.of k (fun _ _ x => x)) (h.ast.kept hr k) (fun _ _ x => Or.inl x) (fun h0 => h.vs (hb h0))
theorem PSt.headed (h : PSt w wr B base s r vars hv l ns ps nv pv) {hb n m : Nat} {xs ys : List Value} {hv' : Value} {w1 w2 : World} (hrow : wr.ownsRow hb 3 1 hv n xs) (hbb : base ≤ hb) (hk : Kept (fun _ => False) wr w1) (hg : w1.grownBy w2 hv.ownBlock)
    (ho : w2.ownsRow hb 3 1 hv' m ys) :
    (PSt w (w2.setCell ⟨B, 1, none⟩ hv') B base s r vars hv' l ns ps nv pv ∧ (w2.setCell ⟨B, 1, none⟩ hv').ownsRow hb 3 1 hv' m ys) ∧ w2.cell? ⟨B, 1, none⟩ = some hv ∧ w2.frozen? ⟨B, 1, none⟩ = false ∧ w2.cell? ⟨B + 1, 7, none⟩ = some (.pointer (some ⟨B, 0, none⟩)) := by
  obtain ⟨av, hv1, har⟩ := h.ast.ex
  obtain ⟨vv, hq, hvr⟩ := hv1.q
  have hB := h.bb
  have hbl : ∀ k, hv.ownBlock = some k → hb ≤ k ∧ tag wr.heap[k]? = 3 := fun k hk => ⟨(own_tag hrow hk).1, (own_tag hrow hk).2.2⟩
  have k1 : Keeps (fun k _ => hv.ownBlock = some k) wr w2 := (Keeps.of hk (fun _ _ x => x.elim)).trans (Keeps.grown (Keeps.refl _ _) hg (fun k hk => hk))
  have k2 : Keeps (fun k _ => k = B) w2 (w2.setCell ⟨B, 1, none⟩ hv') := (Keeps.refl _ _).setCell _ (fun _ => rfl) _
  have nB : hv.ownBlock ≠ some B := fun e => by have := (hbl _ e).1; omega
  have nR : hv.ownBlock ≠ some (B + 1) := fun e => by have := (hbl _ e).1; omega
  have q1 : w2.heap[B]? = some (.cells #[vv, hv, av] 47 (0, 0)) := (k1.block B (lt_of_block hq) nB).trans hq
  have tq : tag w2.heap[B]? = 47 := by rw [q1]; rfl
  have rd1 : Rdr w2 (B + 1) s r (.pointer (some ⟨B, 0, none⟩)) := hv1.rd.keeps k1 nR
  have row : ∀ {v : Value} {bb n z t : Nat} {ys : List Value}, t ≠ 47 → w2.ownsRow bb t z v n ys → (w2.setCell ⟨B, 1, none⟩ hv').ownsRow bb t z v n ys :=
    fun ht hx => own_keeps hx k2 (fun k _ _ h9 _ e => by rw [show k = B from e, tq] at h9; exact ht h9.symm)
  have row1 : ∀ {v : Value} {bb n z t : Nat} {ys : List Value}, t ≠ 3 → wr.ownsRow bb t z v n ys → w2.ownsRow bb t z v n ys :=
    fun ht hx => own_keeps hx k1 (fun k _ _ h9 _ e => by have := (hbl k e).2; rw [h9] at this; exact ht this)
  refine ⟨⟨⟨⟨⟨av, ⟨rd1.keeps k2 (fun e => by have e' : B + 1 = B := e; omega), vv, ?_, row (by decide) (row1 (by decide) hvr)⟩, row (by decide) (row1 (by decide) har)⟩, fun d hd => row (by decide) (row1 (by decide) (h.ast.ts d hd))⟩,
    row (by decide) (row1 (by decide) h.nrow), h.nlt, row (by decide) (own_keeps h.prow k1 (fun k _ _ _ hk e => ?_)), h.plt, ?_, h.bb, ?_, h.vs⟩, row (by decide) ho⟩, by simp [World.cell?, q1], by simp [World.frozen?, q1], rd1.cell7⟩
  · rw [blk_setCell q1 1 hv']; simp [Array.setIfInBounds]
  · have h1 := h.plt k hk
    have h2 := (hbl k e).1
    omega
  · have hs := h.bs
    refine h.below.trans ⟨k1.os, k1.tape, k1.output, by simpa [World.setCell] using k1.size, fun j hj => ?_⟩
    rw [Below.heap_setCell _ _ _ _ (by show j ≠ B; omega)]
    exact k1.block j (by omega) (fun e => by have := (hbl j e).1; omega)
  · have := Nat.le_trans h.bs k1.size
    simpa [World.setCell] using this
theorem PSt.rd (h : PSt w wr B base s r vars hv l ns ps nv pv) : Rdr wr (B + 1) s r (.pointer (some ⟨B, 0, none⟩)) := h.ast.rd
end

theorem fail_good {r : Est.Rd} {e a : Nat} (h : (r.fail e a).bad = 0) (he : e ≠ 0) : False := by
  unfold Est.Rd.fail at h; split at h
  · exact he h
  · rename_i hx; exact hx h
theorem must_good {s : ByteArray} {r : Est.Rd} {k : UInt8} (h : (r.must s k).bad = 0) : r.bad = 0 ∧ r.isB k = true := by
  unfold Est.Rd.must at h
  cases hb : r.isB k
  · rw [hb] at h; exact (fail_good h (by decide)).elim
  · refine ⟨?_, rfl⟩
    by_cases h0 : r.bad = 0
    · exact h0
    · rw [isB_bad h0] at hb; cases hb
theorem is_good {s : ByteArray} {r : Est.Rd} {k : UInt8} (h : (r.is s k).bad = 0) : r.bad = 0 := by
  unfold Est.Rd.is at h; split at h <;> exact h
theorem tR_good {s : ByteArray} {r : Est.Rd} {vars : List ByteArray} (h : (tR s r vars).bad = 0) : r.bad = 0 := by
  by_cases h0 : r.bad = 0
  · exact h0
  · exact absurd h (bad_stays h0 vars)
theorem vix_le (vars : List ByteArray) (t : ByteArray) : vix vars t ≤ vars.length := List.findIdx_le_length
theorem t_lt {s : ByteArray} {r : Est.Rd} {vars : List ByteArray} (h : (tR s r vars).bad = 0) : tV s r vars < ((tVars s r vars).length : Int) ∧ vars.length ≤ (tVars s r vars).length := by
  cases hb : r.isB 110
  · by_cases hm : (r.must s 118).bad = 0
    · rw [(t_var hb hm).2.1, (t_var hb hm).2.2]
      unfold vadd
      have := vix_le vars r.g.t
      split
      · exact ⟨by omega, by omega⟩
      · simp; omega
    · rw [(t_bad hb hm).1] at h; exact absurd h hm
  · rw [(t_num hb).2.1, (t_num hb).2.2]; exact ⟨by omega, by omega⟩
theorem tl_lt (s : ByteArray) (n : Nat) (r : Est.Rd) (vars : List ByteArray) (ts : List Int) (h : (tl s n r vars ts).1.bad = 0) (hts : ∀ v, v ∈ ts → v < (vars.length : Int)) :
    (∀ v, v ∈ (tl s n r vars ts).2.2 → v < ((tl s n r vars ts).2.1.length : Int)) ∧ vars.length ≤ (tl s n r vars ts).2.1.length ∧ (tl s n r vars ts).2.2.length ≤ ts.length + n ∧ r.bad = 0 := by
  induction n generalizing r vars ts with
  | zero => exact ⟨hts, Nat.le_refl _, by simp [tl], h⟩
  | succ n ih =>
    by_cases hb : r.bad = 0
    · obtain ⟨r2, hr2⟩ : ∃ r2, (if 3 ≤ ts.length then r.fail 3 r.g.a else r) = r2 := ⟨_, rfl⟩
      rw [tl_step s n r r2 vars ts hb hr2] at h ⊢
      split at h
      · rename_i hx
        rw [if_pos hx]
        have hg : (tR s r2 vars).bad = 0 := by
          by_cases h0 : (tR s r2 vars).bad = 0
          · exact h0
          · rw [isB_bad h0] at hx; cases hx
        obtain ⟨t1, t2⟩ := t_lt hg
        obtain ⟨i1, i2, i3, _⟩ := ih _ _ _ h (by
          intro v hv
          rcases List.mem_append.1 hv with hv | hv
          · have := hts v hv; omega
          · simp at hv; omega)
        exact ⟨i1, by omega, by simp at i3 ⊢; omega, hb⟩
      · rename_i hx
        rw [if_neg hx]
        obtain ⟨t1, t2⟩ := t_lt h
        refine ⟨?_, t2, by simp, hb⟩
        intro v hv
        rcases List.mem_append.1 hv with hv | hv
        · have := hts v hv; simp only; omega
        · simp at hv; simp only; omega
    · rw [tl_done s _ r vars ts hb] at h; exact absurd h hb
theorem aFin_good {s : ByteArray} {r : Est.Rd} {l : List AD} {vars : List ByteArray} (h : (aFin s r l vars).bad = 0) : (aT s r l.length vars).1.bad = 0 ∧ r.bad = 0 := by
  have h1 : ((aT s r l.length vars).1.must s 41).bad = 0 := by
    unfold aFin aShape at h
    split at h
    · exact (fail_good h (by decide)).elim
    · exact h
  have h2 := (must_good h1).1
  refine ⟨h2, ?_⟩
  have h3 := (tl_lt s 5 _ vars [] h2 (by intro v hv; simp at hv)).2.2.2
  have h4 := (must_good (must_good h3).1).1
  unfold aR1 at h4
  split at h4
  · exact (fail_good h4 (by decide)).elim
  · exact h4
theorem aR_four {s : ByteArray} {r : Est.Rd} {n : Nat} (h4 : 4 ≤ n) : ((aR1 r n).must s 114).bad ≠ 0 := by
  intro h
  obtain ⟨h1, h2⟩ := must_good h
  unfold aR1 at h1 h2
  rw [decide_eq_true h4, Bool.and_true] at h1 h2
  cases hb : r.isB 114
  · rw [hb] at h2; simp [hb] at h2
  · rw [hb] at h1; simp at h1; exact (fail_good h1 (by decide)).elim
theorem aFin_four {s : ByteArray} {r : Est.Rd} {l : List AD} {vars : List ByteArray} (h4 : 4 ≤ l.length) : (aFin s r l vars).bad ≠ 0 := by
  intro h
  have h1 := (aFin_good h).1
  have h3 := (tl_lt s 5 _ vars [] h1 (by intro v hv; simp at hv)).2.2.2
  exact aR_four h4 (must_good h3).1

theorem nl_bad {vars ns : List ByteArray} {ps : List Nat} {r : Est.Rd} (h : r.bad ≠ 0) : nl vars ns ps r = r := by
  cases ns with
  | nil => simp [nl]
  | cons n ns =>
    cases ps with
    | nil => simp [nl]
    | cons p ps => rw [nl, if_neg h]
theorem nl_step {vars ns : List ByteArray} {ps : List Nat} {r : Est.Rd} {i : Nat} (h : r.bad = 0) (hn : i < ns.length) (hp : i < ps.length) :
    nl vars (ns.drop i) (ps.drop i) r = if vars.any (fun v => v.toList == ns[i].toList) then nl vars (ns.drop (i + 1)) (ps.drop (i + 1)) r else r.fail 5 ps[i] := by
  rw [List.drop_eq_getElem_cons hn, List.drop_eq_getElem_cons hp, nl, if_pos h]

end Go.Proofs.Ytondkinefmjpjaa
