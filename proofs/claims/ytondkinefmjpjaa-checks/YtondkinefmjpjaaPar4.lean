import Derived.Test.YtondkinefmjpjaaPar3
import Derived.Deep.QuietTactic
import Derived.BigQuiet
namespace Go.Proofs.Ytondkinefmjpjaa
open Go.RowKit

theorem hl_step (s : ByteArray) (n : Nat) (r : Est.Rd) (ns : List ByteArray) (ps : List Nat) (h : r.bad = 0) :
    hl s (n + 1) r ns ps = if (hR s r ns).isB 44 then hl s n ((hR s r ns).is s 44) (ns ++ [r.g.t]) (ps ++ [r.g.a]) else (hR s r ns, ns ++ [r.g.t], ps ++ [r.g.a]) := by
  rw [hl, if_pos h]
theorem fail_bad {r : Est.Rd} {e a : Nat} (h : r.bad ≠ 0) : r.fail e a = r := by unfold Est.Rd.fail; rw [if_neg h]
theorem fail_ne {r : Est.Rd} {e a : Nat} (he : e ≠ 0) : (r.fail e a).bad ≠ 0 := by
  unfold Est.Rd.fail; split
  · exact he
  · assumption

theorem tl_len (s : ByteArray) (n : Nat) (r : Est.Rd) (vars : List ByteArray) (ts : List Int) : (tl s n r vars ts).2.1.length ≤ vars.length + n := by
  induction n generalizing r vars ts with
  | zero => simp [tl]
  | succ n ih =>
    by_cases hb : r.bad = 0
    · obtain ⟨r2, hr2⟩ : ∃ r2, (if 3 ≤ ts.length then r.fail 3 r.g.a else r) = r2 := ⟨_, rfl⟩
      rw [tl_step s n r r2 vars ts hb hr2]
      have := tVars_le s r2 vars
      split
      · have := ih ((tR s r2 vars).is s 44) (tVars s r2 vars) (ts ++ [tV s r2 vars]); omega
      · simp only; omega
    · rw [tl_done s _ r vars ts hb]; simp
theorem Ok.tl {s : ByteArray} (n : Nat) {r : Est.Rd} (h : Ok s r) (vars : List ByteArray) (ts : List Int) : Ok s (tl s n r vars ts).1 := by
  induction n generalizing r vars ts with
  | zero => exact h
  | succ n ih =>
    by_cases hb : r.bad = 0
    · obtain ⟨r2, hr2⟩ : ∃ r2, (if 3 ≤ ts.length then r.fail 3 r.g.a else r) = r2 := ⟨_, rfl⟩
      have h2 : Ok s r2 := by rw [← hr2]; split; exact h.fail _ _; exact h
      rw [tl_step s n r r2 vars ts hb hr2]
      split
      · exact ih ((h2.tR vars).is 44) _ _
      · exact h2.tR vars
    · rw [tl_done s _ r vars ts hb]; exact h
theorem Ok.aFin {s : ByteArray} {r : Est.Rd} (h : Ok s r) (l : List AD) (vars : List ByteArray) : Ok s (aFin s r l vars) := by
  have h1 : Ok s (aR1 r l.length) := by unfold aR1; split; exact h.fail _ _; exact h
  have h2 : Ok s ((aT s r l.length vars).1.must s 41) := (Ok.tl 5 ((h1.must 114).must 40) vars []).must 41
  unfold Ytondkinefmjpjaa.aFin aShape; split; exact h2.fail _ _; exact h2

theorem PSt.atomed {w wr w' : World} {B base : Nat} {s : ByteArray} {r : Est.Rd} {vars : List ByteArray} {hv : Value} {l : List AD} {ns : List ByteArray} {ps : List Nat} {nv pv : Value}
    (h : PSt w wr B base s r vars hv l ns ps nv pv) (hp : APost wr w' (B + 1) B base s r vars hv l) : ∃ d : AD, PSt w w' B base s (aFin s r l vars) (aT s r l.length vars).2.1 hv (l ++ [d]) ns ps nv pv ∧ d.pa = ⟨(aR1 r l.length).g.t, (aT s r l.length vars).2.2, r.g.a⟩ := by
  obtain ⟨⟨d, h1, h2, h3, h4⟩, hk⟩ := hp
  refine ⟨d, h.keeps hk h1 ?_ ?_, by simp [AD.pa, h2, h3, h4]⟩
  · rintro j o (e | e | ⟨e, _⟩)
    · exact Or.inl e
    · exact Or.inr (Or.inl e)
    · exact Or.inr (Or.inr e)
  · intro hb d' hd'
    obtain ⟨g1, g2⟩ := aFin_good hb
    obtain ⟨t1, t2, t3, _⟩ := tl_lt s 5 _ vars [] g1 (by intro v hv; simp at hv)
    rcases List.mem_append.1 hd' with hd' | hd'
    · obtain ⟨i1, i2⟩ := h.vs g2 d' hd'
      refine ⟨i1, fun t ht => ?_⟩
      have := i2 t ht
      have t2' : vars.length ≤ (aT s r l.length vars).2.1.length := t2
      omega
    · simp only [List.mem_singleton] at hd'
      subst hd'
      refine ⟨?_, fun t ht => ?_⟩
      · have : (d'.ts.map Prod.fst).length = (aT s r l.length vars).2.2.length := by rw [h3]
        have t3' : (aT s r l.length vars).2.2.length ≤ 0 + 5 := t3
        simp at this; omega
      · refine t1 t.1 ?_
        show t.1 ∈ (aT s r l.length vars).2.2
        rw [← h3]; exact List.mem_map.2 ⟨t, ht, rfl⟩

/-- The loop over the atoms. -/
structure AInv (w wr : World) (B base : Nat) (s : ByteArray) (TT : Est.Rd × List ByteArray × List PA) (r : Est.Rd) (vars : List ByteArray) (l : List AD) (ns : List ByteArray) (ps : List Nat) (nv pv : Value) : Prop where
  st : PSt w wr B base s r vars (.slice none 0 0) l ns ps nv pv
  ok : Ok s r
  one : 1 ≤ l.length
  len : l.length ≤ 5
  full : l.length = 5 → r.bad ≠ 0
  vlen : vars.length ≤ 5 * l.length
  tt : TT = al s (6 - l.length) (r, vars, l.map AD.pa)

structure Veil (p : Prop) : Prop where
  out : p
structure Cut2 (P : Prop) where
  g1 : Prop
  g2 : Prop
  pf : Veil g1 → Veil g2 → P

end Go.Proofs.Ytondkinefmjpjaa
