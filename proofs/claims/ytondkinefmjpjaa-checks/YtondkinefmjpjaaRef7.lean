import Derived.Test.YtondkinefmjpjaaRef6
import Derived.Deep.DeepCutAuto
namespace Go.Proofs.Ytondkinefmjpjaa
open Go.RowKit

/-- A weaker frame, where the block is what it is. -/
theorem Keeps.mono_at {F G : Nat → Option Obj → Prop} {w w' : World} (h : Keeps F w w') (hfg : ∀ k, F k w.heap[k]? → G k w.heap[k]?) : Keeps G w w' :=
  ⟨h.os, h.tape, h.output, h.size, fun k hk hg => h.block k hk (fun hf => hg (hfg k hf))⟩
theorem own_base {w : World} {base base' : Nat} {e : TypeId} {size : Nat} {v : Value} {n : Nat} {xs : List Value} (h : w.ownsRow base e size v n xs) (hb : base' ≤ base) : w.ownsRow base' e size v n xs := by
  refine ⟨h.1, ?_⟩
  rcases h.2 with hn | ⟨g, cap, cur, rfl, hg, rest⟩
  · exact .inl hn
  · exact .inr ⟨g, cap, cur, rfl, Nat.le_trans hb hg, rest⟩

def FA (rb qb base : Nat) : Nat → Option Obj → Prop := fun k o => k = rb ∨ k = qb ∨ (base ≤ k ∧ (tag o = 9 ∨ tag o = 71))
theorem FV_FA {rb qb base k : Nat} {o : Option Obj} (h : FV rb qb base k o) : FA rb qb base k o := by
  rcases h with h | h | ⟨h, h'⟩
  · exact Or.inl h
  · exact Or.inr (Or.inl h)
  · exact Or.inr (Or.inr ⟨h, Or.inl h'⟩)

/-- The blocks of a reader and its query have kinds of their own. -/
theorem VSt.ne {w : World} {rb qb base : Nat} {s : ByteArray} {r : Est.Rd} {vars : List ByteArray} {hv av : Value} (h : VSt w rb qb base s r vars hv av) (k : Nat) (n : Nat) (hk : tag w.heap[k]? = n) (h50 : n ≠ 51) (h46 : n ≠ 47) : k ≠ rb ∧ k ≠ qb := by
  obtain ⟨vv, hq, _⟩ := h.q
  constructor
  · rintro rfl; rw [h.rd.blk] at hk; exact h50 hk.symm
  · rintro rfl; rw [hq] at hk; exact h46 hk.symm

/-- While an atom is read. -/
structure MSt (w wr : World) (rb qb base AB : Nat) (s : ByteArray) (r : Est.Rd) (vars : List ByteArray) (hv av : Value) (l : List AD) (rel : ByteArray) (a : Nat) (tv : Value) (ts : List (Int × Int)) : Prop where
  vst : VSt wr rb qb base s r vars hv av
  arow : wr.ownsRow base 71 3 av l.length (acells l)
  ats : ∀ d, d ∈ l → wr.ownsRow base 73 2 d.tv d.ts.length (tcells d.ts)
  avlt : ∀ k, av.ownBlock = some k → k < AB
  tlt : ∀ d, d ∈ l → ∀ k, d.tv.ownBlock = some k → k < AB
  ab : wr.heap[AB]? = some (.cells #[.string rel, tv, .int .i64 a] 71 (0, 0))
  own : wr.ownsRow (AB + 1) 73 2 tv ts.length (tcells ts)
  kp : Keeps (FA rb qb base) w wr
  new : w.heap.size ≤ AB
  bas : base ≤ AB

section
variable {w wr w' : World} {rb qb base AB : Nat} {s : ByteArray} {r r' : Est.Rd} {vars vars' : List ByteArray} {hv av : Value} {l : List AD} {rel : ByteArray} {a : Nat} {tv : Value} {ts : List (Int × Int)}

theorem MSt.ast (h : MSt w wr rb qb base AB s r vars hv av l rel a tv ts) : ASt wr rb qb base s r vars hv l := ⟨⟨av, h.vst, h.arow⟩, h.ats⟩
theorem MSt.ne (h : MSt w wr rb qb base AB s r vars hv av l rel a tv ts) : AB ≠ rb ∧ AB ≠ qb :=
  h.vst.ne AB 71 (by rw [h.ab]; rfl) (by decide) (by decide)
theorem MSt.lt (h : MSt w wr rb qb base AB s r vars hv av l rel a tv ts) : rb < wr.heap.size ∧ qb < wr.heap.size ∧ AB < wr.heap.size := by
  obtain ⟨vv, hq, _⟩ := h.vst.q
  exact ⟨h.vst.rd.lt, lt_of_block hq, lt_of_block h.ab⟩
theorem MSt.keeps {F : Nat → Option Obj → Prop} (h : MSt w wr rb qb base AB s r vars hv av l rel a tv ts) (k : Keeps F wr w') (hv' : VSt w' rb qb base s r' vars' hv av) (hA : ¬ F AB wr.heap[AB]?)
    (h66 : ∀ j, base ≤ j → tag wr.heap[j]? = 71 → j < AB → ¬ F j wr.heap[j]?) (h68 : ∀ j, tag wr.heap[j]? = 73 → ¬ F j wr.heap[j]?) (hF : Keeps (FA rb qb base) w w') : MSt w w' rb qb base AB s r' vars' hv av l rel a tv ts :=
  ⟨hv', own_keeps h.arow k (fun j hj _ ht hk => h66 j hj ht (h.avlt j hk)), fun d hd => own_keeps (h.ats d hd) k (fun j _ _ ht _ => h68 j ht), h.avlt, h.tlt, (k.block AB h.lt.2.2 hA).trans h.ab, own_keeps h.own k (fun j _ _ ht _ => h68 j ht), hF, h.new, h.bas⟩
theorem MSt.kept (h : MSt w wr rb qb base AB s r vars hv av l rel a tv ts) (hr : Rdr w' rb s r' (.pointer (some ⟨qb, 0, none⟩))) (k : Kept (· = rb) wr w') : MSt w w' rb qb base AB s r' vars hv av l rel a tv ts :=
  h.keeps (F := fun j _ => j = rb) (Keeps.of k (fun _ _ x => x)) (h.vst.kept hr k) h.ne.1 (fun j _ ht _ e => (h.vst.ne j 71 ht (by decide) (by decide)).1 e) (fun j ht e => (h.vst.ne j 73 ht (by decide) (by decide)).1 e) (h.kp.trans (Keeps.of k (fun _ _ x => Or.inl x)))
theorem MSt.alloc (h : MSt w wr rb qb base AB s r vars hv av l rel a tv ts) (o : Obj) : MSt w (wr.alloc o) rb qb base AB s r vars hv av l rel a tv ts :=
  h.keeps (F := fun _ _ => False) ((Keeps.refl _ _).alloc o) (h.vst.alloc o) (fun x => x) (fun _ _ _ _ x => x) (fun _ _ x => x) (h.kp.alloc o)
theorem MSt.drew (h : MSt w wr rb qb base AB s r vars hv av l rel a tv ts) : MSt w wr.drew rb qb base AB s r vars hv av l rel a tv ts :=
  h.keeps (F := fun _ _ => False) (Keeps.refl _ _).drew (h.vst.keeps (F := fun _ _ => False) (Keeps.refl _ _).drew (fun x => x) (fun x => x) (fun _ _ _ x => x)) (fun x => x) (fun _ _ _ _ x => x) (fun _ _ x => x) h.kp.drew
theorem MSt.termed (h : MSt w wr rb qb base AB s r vars hv av l rel a tv ts) (h' : VSt w' rb qb base s r' vars' hv av) (k : Keeps (FV rb qb base) wr w') : MSt w w' rb qb base AB s r' vars' hv av l rel a tv ts := by
  refine h.keeps k h' ?_ (fun j _ ht _ => ?_) (fun j ht => ?_) (h.kp.trans (k.mono (fun _ _ => FV_FA)))
  · rintro (e | e | ⟨_, e⟩)
    · exact h.ne.1 e
    · exact h.ne.2 e
    · rw [h.ab] at e; simp [tag] at e
  · rintro (e | e | ⟨_, e⟩)
    · exact (h.vst.ne j 71 ht (by decide) (by decide)).1 e
    · exact (h.vst.ne j 71 ht (by decide) (by decide)).2 e
    · rw [e] at ht; simp at ht
  · rintro (e | e | ⟨_, e⟩)
    · exact (h.vst.ne j 73 ht (by decide) (by decide)).1 e
    · exact (h.vst.ne j 73 ht (by decide) (by decide)).2 e
    · rw [e] at ht; simp at ht
theorem MSt.grown (h : MSt w wr rb qb base AB s r vars hv av l rel a tv ts) (hg : wr.grownBy w' tv.ownBlock) : w'.heap[AB]? = some (.cells #[.string rel, tv, .int .i64 a] 71 (0, 0)) ∧ w'.heap[rb]? = wr.heap[rb]? := by
  constructor
  · refine (hg.block AB h.lt.2.2 (fun e => ?_)).trans h.ab
    have := (own_tag h.own e.symm).2.2
    rw [h.ab] at this; simp [tag] at this
  · refine hg.block rb h.lt.1 (fun e => ?_)
    exact (h.vst.ne rb 73 (own_tag h.own e.symm).2.2 (by decide) (by decide)).1 rfl
/-- The relation's name, laid down in the atom's own block. -/
theorem MSt.named (h : MSt w wr rb qb base AB s r vars hv av l rel a tv ts) (rel' : ByteArray) : MSt w (wr.setCell ⟨AB, 0, none⟩ (.string rel')) rb qb base AB s r vars hv av l rel' a tv ts := by
  have k2 : Keeps (fun k _ => k = AB) wr (wr.setCell ⟨AB, 0, none⟩ (.string rel')) := (Keeps.refl _ _).setCell _ (fun _ => rfl) _
  refine ⟨h.vst.keeps k2 (fun e => h.ne.1 e.symm) (fun e => h.ne.2 e.symm) (fun k _ ht e => ?_), own_keeps h.arow k2 (fun k _ _ _ hk e => ?_), fun d hd => own_keeps (h.ats d hd) k2 (fun k _ _ _ hk e => ?_), h.avlt, h.tlt, ?_, own_keeps h.own k2 (fun k hk _ _ _ e => ?_), h.kp.setNew _ h.new _, h.new, h.bas⟩
  · rw [show k = AB from e, h.ab] at ht; simp [tag] at ht
  · have := h.avlt k hk; rw [show k = AB from e] at this; omega
  · have := h.tlt d hd k hk; rw [show k = AB from e] at this; omega
  · rw [blk_setCell h.ab 0 _]; simp [Array.setIfInBounds]
  · rw [show k = AB from e] at hk; omega

/-- Another row of terms, laid down in the atom's own block. -/
theorem MSt.appended (h : MSt w wr rb qb base AB s r vars hv av l rel a tv ts) (hg : wr.grownBy w' tv.ownBlock) (tv' : Value) (ts' : List (Int × Int)) (ho : w'.ownsRow (AB + 1) 73 2 tv' ts'.length (tcells ts')) :
    MSt w (w'.setCell ⟨AB, 1, none⟩ tv') rb qb base AB s r vars hv av l rel a tv' ts' := by
  have hb := (h.grown hg).1
  have hbl : ∀ k, tv.ownBlock = some k → AB < k ∧ tag wr.heap[k]? = 73 := fun k hk => ⟨by have := (own_tag h.own hk).1; omega, (own_tag h.own hk).2.2⟩
  have k1 : Keeps (fun k _ => tv.ownBlock = some k) wr w' := Keeps.grown (Keeps.refl _ _) hg (fun k hk => hk)
  have k2 : Keeps (fun k _ => k = AB) w' (w'.setCell ⟨AB, 1, none⟩ tv') := (Keeps.refl _ _).setCell _ (fun _ => rfl) _
  have v1 : VSt w' rb qb base s r vars hv av := h.vst.keeps k1 (fun e => (h.vst.ne rb 73 (hbl rb e).2 (by decide) (by decide)).1 rfl) (fun e => (h.vst.ne qb 73 (hbl qb e).2 (by decide) (by decide)).2 rfl) (fun k _ ht e => by have := (hbl k e).2; rw [ht] at this; simp at this)
  have r66 : ∀ {v : Value} {n : Nat} {xs : List Value}, wr.ownsRow base 71 3 v n xs → (∀ k, v.ownBlock = some k → k < AB) → (w'.setCell ⟨AB, 1, none⟩ tv').ownsRow base 71 3 v n xs := by
    intro v n xs hx hlt
    refine own_keeps (own_keeps hx k1 (fun k _ _ ht _ e => by have := (hbl k e).2; rw [ht] at this; simp at this)) k2 (fun k _ _ _ hk e => ?_)
    have := hlt k hk
    rw [show k = AB from e] at this; omega
  have r68 : ∀ d, d ∈ l → (w'.setCell ⟨AB, 1, none⟩ tv').ownsRow base 73 2 d.tv d.ts.length (tcells d.ts) := by
    intro d hd
    have hlt := h.tlt d hd
    refine own_keeps (own_keeps (h.ats d hd) k1 (fun k _ _ _ hk e => ?_)) k2 (fun k _ _ _ hk e => ?_)
    · have h1 := hlt k hk
      have h2 := (hbl k e).1
      omega
    · have h1 := hlt k hk
      rw [show k = AB from e] at h1; omega
  refine ⟨v1.keeps k2 (fun e => h.ne.1 e.symm) (fun e => h.ne.2 e.symm) (fun k _ ht e => ?_), r66 h.arow h.avlt, r68, h.avlt, h.tlt, ?_, own_keeps ho k2 (fun k hk _ ht _ e => ?_), ?_, h.new, h.bas⟩
  · rw [show k = AB from e, hb] at ht; simp [tag] at ht
  · rw [blk_setCell hb 1 tv']; simp [Array.setIfInBounds]
  · rw [show k = AB from e] at hk; omega
  · refine Keeps.setNew ⟨hg.os.trans h.kp.os, hg.tape.trans h.kp.tape, hg.output.trans h.kp.output, Nat.le_trans h.kp.size hg.size, fun k hk hf => ?_⟩ _ h.new _
    rw [hg.block k (Nat.lt_of_lt_of_le hk h.kp.size) (fun e => by have := (hbl k e.symm).1; have := h.new; omega), h.kp.block k hk hf]
/-- The atom's row has grown: the query and the reader are as they were. -/
theorem MSt.grownA (h : MSt w wr rb qb base AB s r vars hv av l rel a tv ts) (hg : wr.grownBy w' av.ownBlock) : w'.heap[qb]? = wr.heap[qb]? ∧ w'.heap[rb]? = wr.heap[rb]? := by
  constructor
  · refine hg.block qb h.lt.2.1 (fun e => ?_)
    exact (h.vst.ne qb 71 (own_tag h.arow e.symm).2.2 (by decide) (by decide)).2 rfl
  · refine hg.block rb h.lt.1 (fun e => ?_)
    exact (h.vst.ne rb 71 (own_tag h.arow e.symm).2.2 (by decide) (by decide)).1 rfl
/-- The atom is laid behind the others. -/
theorem MSt.finish (h : MSt w wr rb qb base AB s r vars hv av l rel a tv ts) (hg : wr.grownBy w' av.ownBlock) (v' : Value) (ho : w'.ownsRow base 71 3 v' (l.length + 1) (acells l ++ [.string rel, tv, .int .i64 a])) :
    ASt (w'.setCell ⟨qb, 2, none⟩ v') rb qb base s r vars hv (l ++ [⟨rel, tv, ts, a⟩]) ∧ Keeps (FA rb qb base) w (w'.setCell ⟨qb, 2, none⟩ v') := by
  obtain ⟨vv, hq, hvr⟩ := h.vst.q
  have hbl : ∀ k, av.ownBlock = some k → base ≤ k ∧ tag wr.heap[k]? = 71 := fun k hk => ⟨(own_tag h.arow hk).1, (own_tag h.arow hk).2.2⟩
  have k1 : Keeps (fun k _ => av.ownBlock = some k) wr w' := Keeps.grown (Keeps.refl _ _) hg (fun k hk => hk)
  have k2 : Keeps (fun k _ => k = qb) w' (w'.setCell ⟨qb, 2, none⟩ v') := (Keeps.refl _ _).setCell _ (fun _ => rfl) _
  have q1 : w'.heap[qb]? = some (.cells #[vv, hv, av] 47 (0, 0)) := (h.grownA hg).1.trans hq
  have tq : tag w'.heap[qb]? = 47 := by rw [q1]; rfl
  have row : ∀ {v : Value} {bb n z t : Nat} {ys : List Value}, t ≠ 47 → w'.ownsRow bb t z v n ys → (w'.setCell ⟨qb, 2, none⟩ v').ownsRow bb t z v n ys :=
    fun ht hx => own_keeps hx k2 (fun k _ _ h9 _ e => by rw [show k = qb from e, tq] at h9; exact ht h9.symm)
  have row1 : ∀ {v : Value} {bb n z t : Nat} {ys : List Value}, t ≠ 71 → wr.ownsRow bb t z v n ys → w'.ownsRow bb t z v n ys :=
    fun ht hx => own_keeps hx k1 (fun k _ _ h9 _ e => by have := (hbl k e).2; rw [h9] at this; exact ht this)
  have hrb : rb ≠ qb := by
    intro e; have := h.vst.rd.blk; rw [e, hq] at this; simp [rdBlk] at this
  refine ⟨⟨⟨v', ⟨?_, vv, ?_, row (by decide) (row1 (by decide) hvr)⟩, ?_⟩, ?_⟩, ?_⟩
  · refine (h.vst.rd.keeps k1 (fun e => ?_)).keeps k2 (fun e => hrb e)
    exact (h.vst.ne rb 71 (hbl rb e).2 (by decide) (by decide)).1 rfl
  · rw [blk_setCell q1 2 v']; simp [Array.setIfInBounds]
  · rw [acells_snoc, List.length_append]; exact row (by decide) ho
  · intro d hd
    rcases List.mem_append.1 hd with hd | hd
    · exact row (by decide) (row1 (by decide) (h.ats d hd))
    · simp only [List.mem_singleton] at hd
      subst hd
      exact row (by decide) (row1 (by decide) (own_base h.own (by have := h.bas; omega)))
  · exact h.kp.trans ((k1.mono_at (fun k hk => Or.inr (Or.inr ⟨(hbl k hk).1, Or.inr (hbl k hk).2⟩))).trans (k2.mono (fun _ _ x => Or.inr (Or.inl x))))
end

end Go.Proofs.Ytondkinefmjpjaa
