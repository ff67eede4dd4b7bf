import Derived.Test.YtondkinefmjpjaaRef5
namespace Go.Proofs.Ytondkinefmjpjaa
open Go.RowKit

/-- An atom as it lies in memory: its relation, its terms' slice, its terms, its place. -/
structure AD where
  rel : ByteArray
  tv : Value
  ts : List (Int × Int)
  at_ : Nat

def tcells (ts : List (Int × Int)) : List Value := ts.flatMap fun t => [.int .i64 t.1, .int .i64 t.2]
def acells (l : List AD) : List Value := l.flatMap fun d => [.string d.rel, d.tv, .int .i64 d.at_]
theorem tcells_len (ts : List (Int × Int)) : (tcells ts).length = ts.length * 2 := by
  induction ts with
  | nil => rfl
  | cons t ts ih => simp [tcells] at ih ⊢; omega
theorem acells_len (l : List AD) : (acells l).length = l.length * 3 := by
  induction l with
  | nil => rfl
  | cons t ts ih => simp [acells] at ih ⊢; omega
theorem tcells_snoc (ts : List (Int × Int)) (a b : Int) : tcells (ts ++ [(a, b)]) = tcells ts ++ [.int .i64 a, .int .i64 b] := by simp [tcells]
theorem acells_snoc (l : List AD) (d : AD) : acells (l ++ [d]) = acells l ++ [.string d.rel, d.tv, .int .i64 d.at_] := by simp [acells]

/-- The reader, the query's variables and its atoms. -/
structure ASt (w : World) (rb qb base : Nat) (s : ByteArray) (r : Est.Rd) (vars : List ByteArray) (hv : Value) (l : List AD) : Prop where
  ex : ∃ av, VSt w rb qb base s r vars hv av ∧ w.ownsRow base 71 3 av l.length (acells l)
  ts : ∀ d, d ∈ l → w.ownsRow base 73 2 d.tv d.ts.length (tcells d.ts)

theorem ASt.rd {w : World} {rb qb base : Nat} {s : ByteArray} {r : Est.Rd} {vars : List ByteArray} {hv : Value} {l : List AD} (h : ASt w rb qb base s r vars hv l) : Rdr w rb s r (.pointer (some ⟨qb, 0, none⟩)) := by
  obtain ⟨av, h1, _⟩ := h.ex; exact h1.rd
theorem ASt.keeps {F : Nat → Option Obj → Prop} {w w' : World} {rb qb base : Nat} {s : ByteArray} {r : Est.Rd} {vars : List ByteArray} {hv : Value} {l : List AD} (h : ASt w rb qb base s r vars hv l) (k : Keeps F w w')
    (hr : ¬ F rb w.heap[rb]?) (hq : ¬ F qb w.heap[qb]?) (hvs : ∀ k, base ≤ k → (tag w.heap[k]? = 9 ∨ tag w.heap[k]? = 71 ∨ tag w.heap[k]? = 73) → ¬ F k w.heap[k]?) : ASt w' rb qb base s r vars hv l := by
  obtain ⟨av, h1, h2⟩ := h.ex
  exact ⟨⟨av, h1.keeps k hr hq (fun j hj ht => hvs j hj (Or.inl ht)), own_keeps h2 k (fun j hj _ ht _ => hvs j hj (Or.inr (Or.inl ht)))⟩,
    fun d hd => own_keeps (h.ts d hd) k (fun j hj _ ht _ => hvs j hj (Or.inr (Or.inr ht)))⟩
theorem ASt.alloc {w : World} {rb qb base : Nat} {s : ByteArray} {r : Est.Rd} {vars : List ByteArray} {hv : Value} {l : List AD} (h : ASt w rb qb base s r vars hv l) (o : Obj) : ASt (w.alloc o) rb qb base s r vars hv l :=
  h.keeps (F := fun _ _ => False) ((Keeps.refl _ _).alloc o) (fun x => x) (fun x => x) (fun _ _ _ x => x)
/-- Behind a method that touches the reader alone. -/
theorem ASt.kept {w w' : World} {rb qb base : Nat} {s : ByteArray} {r r' : Est.Rd} {vars : List ByteArray} {hv : Value} {l : List AD} (h : ASt w rb qb base s r vars hv l) (hr : Rdr w' rb s r' (.pointer (some ⟨qb, 0, none⟩))) (k : Kept (· = rb) w w') : ASt w' rb qb base s r' vars hv l := by
  obtain ⟨av, h1, h2⟩ := h.ex
  have hK : Keeps (fun j _ => j = rb) w w' := Keeps.of k (fun _ _ x => x)
  have ht : ∀ j (n : Nat), n ≠ 51 → tag w.heap[j]? = n → ¬ (j = rb) := by
    intro j n hn h9 e; rw [e, h1.rd.blk] at h9; exact hn h9.symm
  exact ⟨⟨av, h1.kept hr k, own_keeps h2 hK (fun j _ _ h9 _ => ht j 71 (by decide) h9)⟩, fun d hd => own_keeps (h.ts d hd) hK (fun j _ _ h9 _ => ht j 73 (by decide) h9)⟩
/-- Behind 'term'. -/
theorem ASt.termed {w w' : World} {rb qb base : Nat} {s : ByteArray} {r r' : Est.Rd} {vars vars' : List ByteArray} {hv av : Value} {l : List AD} (h1 : VSt w rb qb base s r vars hv av) (h2 : w.ownsRow base 71 3 av l.length (acells l))
    (h3 : ∀ d, d ∈ l → w.ownsRow base 73 2 d.tv d.ts.length (tcells d.ts)) (h' : VSt w' rb qb base s r' vars' hv av) (k : Keeps (FV rb qb base) w w') : ASt w' rb qb base s r' vars' hv l := by
  obtain ⟨vv, hq, _⟩ := h1.q
  have hn : ∀ j, tag w.heap[j]? = 71 ∨ tag w.heap[j]? = 73 → ¬ FV rb qb base j w.heap[j]? := by
    rintro j ht (e | e | ⟨_, e⟩)
    · rw [e, h1.rd.blk] at ht; simp [rdBlk, tag] at ht
    · rw [e, hq] at ht; simp [tag] at ht
    · rw [e] at ht; simp at ht
  exact ⟨⟨av, h', own_keeps h2 k (fun j _ _ ht _ => hn j (Or.inl ht))⟩, fun d hd => own_keeps (h3 d hd) k (fun j _ _ ht _ => hn j (Or.inr ht))⟩

/-- The terms of an atom, from the point at which ts have been read. -/
def tl (s : ByteArray) : Nat → Est.Rd → List ByteArray → List Int → Est.Rd × List ByteArray × List Int
  | 0, r, vars, ts => (r, vars, ts)
  | n + 1, r, vars, ts =>
    if r.bad = 0 then
      if (tR s (if 3 ≤ ts.length then r.fail 3 r.g.a else r) vars).isB 44 then
        tl s n ((tR s (if 3 ≤ ts.length then r.fail 3 r.g.a else r) vars).is s 44) (tVars s (if 3 ≤ ts.length then r.fail 3 r.g.a else r) vars) (ts ++ [tV s (if 3 ≤ ts.length then r.fail 3 r.g.a else r) vars])
      else (tR s (if 3 ≤ ts.length then r.fail 3 r.g.a else r) vars, tVars s (if 3 ≤ ts.length then r.fail 3 r.g.a else r) vars, ts ++ [tV s (if 3 ≤ ts.length then r.fail 3 r.g.a else r) vars])
    else (r, vars, ts)

/-- The reader keeps within the text. -/
def Ok (s : ByteArray) (r : Est.Rd) : Prop := r.g.n ≤ s.size ∧ r.g.a ≤ s.size ∧ r.g.t.size ≤ s.size
theorem Ok.next {s : ByteArray} {r : Est.Rd} (h : Ok s r) : Ok s (r.next s) := Est.sign_le s r.g.n h.1
theorem Ok.fail {s : ByteArray} {r : Est.Rd} (h : Ok s r) (e a : Nat) : Ok s (r.fail e a) := by unfold Est.Rd.fail; split <;> exact h
theorem Ok.is {s : ByteArray} {r : Est.Rd} (h : Ok s r) (k : UInt8) : Ok s (r.is s k) := by unfold Est.Rd.is; split; exact h.next; exact h
theorem Ok.must {s : ByteArray} {r : Est.Rd} (h : Ok s r) (k : UInt8) : Ok s (r.must s k) := by unfold Est.Rd.must; split; exact h.next; exact h.fail _ _
theorem Ok.vrd {s : ByteArray} {r : Est.Rd} (h : Ok s r) (vars : List ByteArray) (t : ByteArray) (a : Nat) : Ok s (vrd r vars t a) := by
  unfold Ytondkinefmjpjaa.vrd; split; exact h; split; exact h.fail _ _; exact h
theorem Ok.tR {s : ByteArray} {r : Est.Rd} (h : Ok s r) (vars : List ByteArray) : Ok s (tR s r vars) := by
  unfold Ytondkinefmjpjaa.tR; split; exact h.next; split; exact (h.must _).vrd _ _ _; exact h.must _

theorem two_new (w : World) (x y : Value) (t : TypeId) : ∀ j u, [x, y][j]? = some u → (w.alloc (.cells #[x, y] t)).cell? ((⟨w.heap.size, 0, none⟩ : Addr).add j) = some u := by
  intro j u hj
  match j, hj with
  | 0, hj => simp at hj; subst hj; simp [Addr.add]
  | 1, hj => simp at hj; subst hj; simp [Addr.add]
theorem three_new (w : World) (x y z : Value) (t : TypeId) : ∀ j u, [x, y, z][j]? = some u → (w.alloc (.cells #[x, y, z] t)).cell? ((⟨w.heap.size, 0, none⟩ : Addr).add j) = some u := by
  intro j u hj
  match j, hj with
  | 0, hj => simp at hj; subst hj; simp [Addr.add]
  | 1, hj => simp at hj; subst hj; simp [Addr.add]
  | 2, hj => simp at hj; subst hj; simp [Addr.add]

theorem vadd_le (vars : List ByteArray) (t : ByteArray) : (vadd vars t).length ≤ vars.length + 1 := by unfold vadd; split <;> simp
theorem tVars_le (s : ByteArray) (r : Est.Rd) (vars : List ByteArray) : (tVars s r vars).length ≤ vars.length + 1 := by
  unfold tVars; split; omega; split; exact vadd_le _ _; omega

end Go.Proofs.Ytondkinefmjpjaa
