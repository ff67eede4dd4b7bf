import Derived.Test.YtondkinefmjpjaaRef8
import Derived.Test.YtondkinefmjpjaaCyc3
namespace Go.Proofs.Ytondkinefmjpjaa
open Go.RowKit

theorem Try.info3 : (Try.prog.info? 3).map (fun i => (i.zero, i.size, i.bytes)) = some (some (.int .i64 0), 1, 8) := by kernel_rfl

def r00 : Est.Rd := ⟨⟨0, ⟨#[]⟩, 0, 0⟩, 0, 0⟩
def nShape (r : Est.Rd) (ns : List ByteArray) (v : ByteArray) (a k : Nat) : Est.Rd := if (ns.take k).any (fun x => x.toList == v.toList) then r.fail 4 a else r
def hR (s : ByteArray) (r : Est.Rd) (ns : List ByteArray) : Est.Rd :=
  if 6 ≤ ns.length then (nShape (r.must s 118) ns r.g.t r.g.a ns.length).fail 3 r.g.a else nShape (r.must s 118) ns r.g.t r.g.a ns.length
def hl (s : ByteArray) : Nat → Est.Rd → List ByteArray → List Nat → Est.Rd × List ByteArray × List Nat
  | 0, r, ns, ps => (r, ns, ps)
  | n + 1, r, ns, ps =>
    if r.bad = 0 then
      if (hR s r ns).isB 44 then hl s n ((hR s r ns).is s 44) (ns ++ [r.g.t]) (ps ++ [r.g.a]) else (hR s r ns, ns ++ [r.g.t], ps ++ [r.g.a])
    else (r, ns, ps)

theorem hl_done (s : ByteArray) (n : Nat) (r : Est.Rd) (ns : List ByteArray) (ps : List Nat) (h : r.bad ≠ 0) : hl s n r ns ps = (r, ns, ps) := by
  cases n with
  | zero => rfl
  | succ n => unfold hl; rw [if_neg h]
theorem nShape_done {r : Est.Rd} {l : List ByteArray} {v : ByteArray} {a k : Nat} (h : (nShape r l v a k).bad ≠ 0) : nShape r l v a l.length = nShape r l v a k := by
  unfold nShape at h ⊢
  rw [List.take_length]
  by_cases h1 : (l.take k).any (fun x => x.toList == v.toList) = true
  · have h2 : l.any (fun x => x.toList == v.toList) = true := by
      rw [List.any_eq_true] at h1 ⊢
      obtain ⟨x, hx, hp⟩ := h1
      exact ⟨x, List.mem_of_mem_take hx, hp⟩
    rw [if_pos h1, if_pos h2]
  · rw [if_neg h1] at h ⊢
    split
    · unfold Est.Rd.fail; rw [if_neg h]
    · rfl
theorem nShape_step {r : Est.Rd} {l : List ByteArray} {v : ByteArray} {a k : Nat} (hk : k < l.length) (h : (nShape r l v a k).bad = 0) :
    nShape r l v a (k + 1) = if (l[k].toList == v.toList) then (nShape r l v a k).fail 4 a else nShape r l v a k := by
  unfold nShape at h ⊢
  rw [List.take_succ_eq_append_getElem hk, List.any_append]
  by_cases h1 : (l.take k).any (fun x => x.toList == v.toList) = true
  · rw [if_pos h1] at h
    unfold Est.Rd.fail at h
    split at h
    · simp at h
    · rename_i hx; exact absurd h hx
  · have h1' : (l.take k).any (fun x => x.toList == v.toList) = false := by simpa using h1
    rw [h1']
    simp
theorem Ok.nShape {s : ByteArray} {r : Est.Rd} (h : Ok s r) (ns : List ByteArray) (v : ByteArray) (a k : Nat) : Ok s (nShape r ns v a k) := by
  unfold Ytondkinefmjpjaa.nShape; split; exact h.fail _ _; exact h
theorem Ok.hR {s : ByteArray} {r : Est.Rd} (h : Ok s r) (ns : List ByteArray) : Ok s (hR s r ns) := by
  unfold Ytondkinefmjpjaa.hR; split; exact ((h.must 118).nShape _ _ _ _).fail _ _; exact (h.must 118).nShape _ _ _ _

def ints (l : List Nat) : List Value := l.map fun (n : Nat) => Value.int .i64 n

/-- While the head is read: B the first new block (the query's), B + 1 the reader's. -/
structure HSt (w wr : World) (B : Nat) (s : ByteArray) (r : Est.Rd) (ns : List ByteArray) (ps : List Nat) (nv pv : Value) : Prop where
  rd : Rdr wr (B + 1) s r (.pointer (some ⟨B, 0, none⟩))
  q : wr.heap[B]? = some (.cells #[.slice none 0 0, .slice none 0 0, .slice none 0 0] 47 (0, 0))
  nrow : wr.ownsRow (B + 2) 9 1 nv ns.length (strs ns)
  prow : wr.ownsRow (B + 2) 3 1 pv ps.length (ints ps)
  below : Below B w wr

section
variable {w wr w' : World} {B : Nat} {s : ByteArray} {r r' : Est.Rd} {ns : List ByteArray} {ps : List Nat} {nv pv : Value}
theorem HSt.keeps {F : Nat → Option Obj → Prop} (h : HSt w wr B s r ns ps nv pv) (k : Keeps F wr w') (hr : Rdr w' (B + 1) s r' (.pointer (some ⟨B, 0, none⟩))) (hF : ∀ j o, F j o → j = B + 1) : HSt w w' B s r' ns ps nv pv := by
  refine ⟨hr, (k.block B (lt_of_block h.q) (fun e => ?_)).trans h.q, own_keeps h.nrow k (fun j hj _ _ _ e => ?_), own_keeps h.prow k (fun j hj _ _ _ e => ?_), ?_⟩
  · have := hF _ _ e; omega
  · have := hF _ _ e; omega
  · have := hF _ _ e; omega
  · refine h.below.trans ⟨k.os, k.tape, k.output, k.size, fun j hj => k.block j (Nat.lt_trans hj (lt_of_block h.q)) (fun e => ?_)⟩
    have := hF _ _ e; omega
theorem HSt.kept (h : HSt w wr B s r ns ps nv pv) (hr : Rdr w' (B + 1) s r' (.pointer (some ⟨B, 0, none⟩))) (k : Kept (· = B + 1) wr w') : HSt w w' B s r' ns ps nv pv :=
  h.keeps (F := fun j _ => j = B + 1) (Keeps.of k (fun _ _ x => x)) hr (fun _ _ x => x)
theorem HSt.lt (h : HSt w wr B s r ns ps nv pv) : B + 2 ≤ wr.heap.size := h.rd.lt
/-- Behind an append to the names. -/
theorem HSt.named (h : HSt w wr B s r ns ps nv pv) {v : ByteArray} {nv' : Value} {w1 : World} (h1 : Kept (fun _ => False) wr w1) (hg : w1.grownBy w' nv.ownBlock) (ho : w'.ownsRow (B + 2) 9 1 nv' (ns.length + 1) (strs ns ++ [.string v])) : HSt w w' B s r (ns ++ [v]) ps nv' pv := by
  have hbl : ∀ k, nv.ownBlock = some k → B + 2 ≤ k ∧ tag wr.heap[k]? = 9 := fun k hk => ⟨(own_tag h.nrow hk).1, (own_tag h.nrow hk).2.2⟩
  have k0 : Keeps (fun k _ => nv.ownBlock = some k) wr w' := (Keeps.of h1 (fun _ _ x => x.elim)).trans (Keeps.grown (Keeps.refl _ _) hg (fun k hk => hk))
  refine ⟨h.rd.keeps k0 (fun e => by have := (hbl _ e).1; omega), (k0.block B (lt_of_block h.q) (fun e => by have := (hbl _ e).1; omega)).trans h.q, ?_, own_keeps h.prow k0 (fun j _ _ ht _ e => by have := (hbl _ e).2; rw [ht] at this; simp at this), ?_⟩
  · simpa [strs] using ho
  · exact h.below.trans ⟨k0.os, k0.tape, k0.output, k0.size, fun j hj => k0.block j (Nat.lt_trans hj (lt_of_block h.q)) (fun e => by have := (hbl _ e).1; omega)⟩
/-- Behind an append to the places. -/
theorem HSt.placed (h : HSt w wr B s r ns ps nv pv) {v : Nat} {pv' : Value} {w1 : World} (h1 : Kept (fun _ => False) wr w1) (hg : w1.grownBy w' pv.ownBlock) (ho : w'.ownsRow (B + 2) 3 1 pv' (ps.length + 1) (ints ps ++ [.int .i64 v])) : HSt w w' B s r ns (ps ++ [v]) nv pv' := by
  have hbl : ∀ k, pv.ownBlock = some k → B + 2 ≤ k ∧ tag wr.heap[k]? = 3 := fun k hk => ⟨(own_tag h.prow hk).1, (own_tag h.prow hk).2.2⟩
  have k0 : Keeps (fun k _ => pv.ownBlock = some k) wr w' := (Keeps.of h1 (fun _ _ x => x.elim)).trans (Keeps.grown (Keeps.refl _ _) hg (fun k hk => hk))
  refine ⟨h.rd.keeps k0 (fun e => by have := (hbl _ e).1; omega), (k0.block B (lt_of_block h.q) (fun e => by have := (hbl _ e).1; omega)).trans h.q, own_keeps h.nrow k0 (fun j _ _ ht _ e => by have := (hbl _ e).2; rw [ht] at this; simp at this), ?_, ?_⟩
  · simpa [ints] using ho
  · exact h.below.trans ⟨k0.os, k0.tape, k0.output, k0.size, fun j hj => k0.block j (Nat.lt_trans hj (lt_of_block h.q)) (fun e => by have := (hbl _ e).1; omega)⟩
end

/-- The loop over the head. -/
structure HInv (w wr : World) (B : Nat) (s : ByteArray) (TH : Est.Rd × List ByteArray × List Nat) (m : Bool) (r : Est.Rd) (ns : List ByteArray) (ps : List Nat) (nv pv : Value) : Prop where
  st : HSt w wr B s r ns ps nv pv
  ok : Ok s r
  same : ps.length = ns.length
  len : ns.length ≤ 7
  full : ns.length = 7 → r.bad ≠ 0
  th : TH = if m then hl s (8 - ns.length) r ns ps else (r, ns, ps)

def r1 (s : ByteArray) : Est.Rd := (r00.next s).must s 40
def TH (s : ByteArray) : Est.Rd × List ByteArray × List Nat := if (r1 s).bad = 0 ∧ (r1 s).g.k ≠ 41 then hl s 8 (r1 s) [] [] else (r1 s, [], [])

theorem Ok.r00 (s : ByteArray) : Ok s r00 := ⟨Nat.zero_le _, Nat.zero_le _, Nat.zero_le _⟩
theorem Ok.r1 (s : ByteArray) : Ok s (r1 s) := Ok.must (Ok.next (Ok.r00 s)) 40

end Go.Proofs.Ytondkinefmjpjaa
