/-
  Sets of variables as bits; the head as a whole.
-/
import Derived.Test.YtondkinefmjpjaaEq2
namespace Go.Proofs.Ytondkinefmjpjaa
open Go.RowKit

/-- The set z has variable v where f says so. -/
def SR (z : Int) (f : Nat → Bool) : Prop := ∃ m : Nat, z = (m : Int) ∧ m < 256 ∧ ∀ v, v < 8 → m.testBit v = f v

theorem bv8 (m : Nat) (h : m < 256) : (BitVec.ofInt 8 (m : Int)).toNat = m := by
  rw [BitVec.ofInt_natCast, BitVec.toNat_ofNat]; exact Nat.mod_eq_of_lt (by omega)
theorem wrap8 (m : Nat) (h : m < 256) : IntKind.u8.wrap (m : Int) = (m : Int) := by rw [IntKind.wrap_u8]; omega

theorem SR.zero : SR 0 (fun _ => false) := ⟨0, rfl, by decide, fun v _ => Nat.zero_testBit v⟩
theorem SR.congr {z : Int} {f g : Nat → Bool} (h : SR z f) (e : ∀ v, v < 8 → f v = g v) : SR z g := by
  obtain ⟨m, h1, h2, h3⟩ := h; exact ⟨m, h1, h2, fun v hv => (h3 v hv).trans (e v hv)⟩
theorem SR.or {z y : Int} {f g : Nat → Bool} (h : SR z f) (k : SR y g) : SR (bits BinOp.or IntKind.u8 z y) (fun v => f v || g v) := by
  obtain ⟨m, rfl, h2, h3⟩ := h
  obtain ⟨n, rfl, k2, k3⟩ := k
  have hx : m ||| n < 2 ^ 8 := Nat.or_lt_two_pow (by omega) (by omega)
  refine ⟨m ||| n, ?_, by omega, fun v hv => by rw [Nat.testBit_or, h3 v hv, k3 v hv]⟩
  show IntKind.u8.wrap ((BitVec.ofInt 8 (m : Int) ||| BitVec.ofInt 8 (n : Int)).toNat : Int) = _
  rw [BitVec.toNat_or, bv8 m h2, bv8 n k2, wrap8 _ (by omega)]
theorem SR.and {z y : Int} {f g : Nat → Bool} (h : SR z f) (k : SR y g) : SR (bits BinOp.and IntKind.u8 z y) (fun v => f v && g v) := by
  obtain ⟨m, rfl, h2, h3⟩ := h
  obtain ⟨n, rfl, k2, k3⟩ := k
  have hx : m &&& n < 2 ^ 8 := Nat.and_lt_two_pow _ (by omega)
  refine ⟨m &&& n, ?_, by omega, fun v hv => by rw [Nat.testBit_and, h3 v hv, k3 v hv]⟩
  show IntKind.u8.wrap ((BitVec.ofInt 8 (m : Int) &&& BitVec.ofInt 8 (n : Int)).toNat : Int) = _
  rw [BitVec.toNat_and, bv8 m h2, bv8 n k2, wrap8 _ (by omega)]
theorem SR.andNot {z y : Int} {f g : Nat → Bool} (h : SR z f) (k : SR y g) : SR (bits BinOp.andNot IntKind.u8 z y) (fun v => f v && !g v) := by
  obtain ⟨m, rfl, h2, h3⟩ := h
  obtain ⟨n, rfl, k2, k3⟩ := k
  have hx : (BitVec.ofInt 8 (m : Int) &&& ~~~ BitVec.ofInt 8 (n : Int)).toNat < 256 := (BitVec.ofInt 8 (m : Int) &&& ~~~ BitVec.ofInt 8 (n : Int)).isLt
  refine ⟨(BitVec.ofInt 8 (m : Int) &&& ~~~ BitVec.ofInt 8 (n : Int)).toNat, wrap8 _ hx, hx, fun v hv => ?_⟩
  rw [BitVec.testBit_toNat, BitVec.getLsbD_and, BitVec.getLsbD_not, ← BitVec.testBit_toNat, ← BitVec.testBit_toNat, bv8 m h2, bv8 n k2, h3 v hv, k3 v hv]
  simp [hv]
theorem SR.bit (n : Nat) (hn : n < 8) : SR (2 ^ n % 256) (fun v => v == n) := by
  have h : 2 ^ n < 256 := by
    have : 2 ^ n ≤ 2 ^ 7 := Nat.pow_le_pow_right (by decide) (by omega)
    omega
  refine ⟨2 ^ n, ?_, h, fun v _ => ?_⟩
  · have : ((2 : Int) ^ n) = ((2 ^ n : Nat) : Int) := by simp
    rw [this]
    generalize 2 ^ n = q at h
    omega
  · rw [Nat.testBit_two_pow]
    by_cases e : n = v
    · subst e; simp
    · have e' : ¬ v = n := fun x => e x.symm
      simp [e, e']
theorem SR.setBit {z : Int} {f : Nat → Bool} (h : SR z f) (n : Nat) (hn : n < 8) : SR (setBit z n) (fun v => f v || v == n) := h.or (SR.bit n hn)
theorem SR.isZero {z : Int} {f : Nat → Bool} (h : SR z f) : (z == 0) = (List.range 8).all (fun v => !f v) := by
  obtain ⟨m, rfl, h2, h3⟩ := h
  rw [Bool.eq_iff_iff, List.all_eq_true]
  constructor
  · intro e v hv
    have e0 : m = 0 := by have := beq_iff_eq.1 e; omega
    have hv := List.mem_range.1 hv
    rw [← h3 v hv, e0, Nat.zero_testBit]; rfl
  · intro h
    have : m = 0 := Nat.eq_of_testBit_eq fun v => by
      rw [Nat.zero_testBit]
      by_cases hv : v < 8
      · have := h v (List.mem_range.2 hv); rw [h3 v hv]; simpa using this
      · exact Nat.testBit_lt_two_pow (Nat.lt_of_lt_of_le h2 (Nat.pow_le_pow_right (n := 2) (by decide) (show 8 ≤ v by omega)))
    rw [this]; rfl

theorem At.start (s : ByteArray) : At s (r00.next s) (Est.piece s 0) := ⟨rfl, Est.sim_at s 0 (Nat.zero_le _), OkC.piece s 0 (Nat.zero_le _)⟩

theorem cw_yes {s : ByteArray} {c : CS} {k : Nat} (h : tk c.p k = true) : cw s c k = { c with p := pnext s c.p } := by unfold cw; rw [tp_yes h, h]; rfl
theorem cw_no {s : ByteArray} {c : CS} {k : Nat} (h : tk c.p k = false) : (cw s c k).e = 2 ∧ (cw s c k).a = c.p.a := by unfold cw; rw [h]; exact ⟨rfl, rfl⟩

theorem head_whole (s : ByteArray) :
    ((rdH s (c0 s)).1 = true → At s ((TH s).1.must s 41) (rdH s (c0 s)).2.p ∧ (TH s).2.1 = (rdH s (c0 s)).2.hd.map Est.Pc.t ∧ (TH s).2.2 = (rdH s (c0 s)).2.hd.map Est.Pc.a) ∧
    ((rdH s (c0 s)).1 = false → Bad ((TH s).1.must s 41) (rdH s (c0 s)).2.e (rdH s (c0 s)).2.a) := by
  have A0 := At.start s
  have hc0 : (c0 s).p = Est.piece s 0 := rfl
  cases h5 : tk (c0 s).p 5
  · have B : Bad (r1 s) 2 (Est.piece s 0).a := A0.mustNot 5 (by decide) h5
    have hT : TH s = (r1 s, [], []) := by unfold TH; rw [if_neg (by rw [B.eq]; simp)]
    unfold rdH
    rw [h5, hT]
    simp only [Bool.false_eq_true, if_false]
    refine ⟨fun x => by simp at x, fun _ => ?_⟩
    rw [B.must]
    have := cw_no (s := s) h5
    rw [this.1, this.2]; exact B
  · have A1 : At s (r1 s) (pnext s (c0 s).p) := (A0.must 5 (by decide) (by decide) h5).2
    have hcw := cw_yes (s := s) h5
    unfold rdH
    rw [h5]
    simp only [if_true]
    rw [hcw]
    have hk : decide ((r1 s).g.k = 41) = tk (pnext s (c0 s).p) 6 := by
      have := A1.isB 6 (by decide)
      unfold Est.Rd.isB at this
      rw [A1.z] at this
      rw [← this]
      show _ = (_ == (41 : UInt8))
      simp [BEq.beq]
    cases h6 : tk (pnext s (c0 s).p) 6
    · have hT : TH s = hl s 8 (r1 s) [] [] := by
        unfold TH; rw [if_pos ⟨A1.z, by rw [h6] at hk; exact of_decide_eq_false hk⟩]
      simp only [Bool.false_eq_true, if_false]
      rw [hT]
      obtain ⟨o1, o2⟩ := head_all s 7 { c0 s with p := pnext s (c0 s).p } (r1 s) A1 rfl (by decide)
      have hhl : hl s (7 + 1) (r1 s) (({ c0 s with p := pnext s (c0 s).p } : CS).hd.map Est.Pc.t) (({ c0 s with p := pnext s (c0 s).p } : CS).hd.map Est.Pc.a) = hl s 8 (r1 s) [] [] := rfl
      rw [hhl] at o1 o2
      have h7 : 7 - (c0 s).hd.length = 7 := rfl
      rw [h7]
      generalize lh s 7 { c0 s with p := pnext s (c0 s).p } = L at o1 o2
      generalize hl s 8 (r1 s) [] [] = H at o1 o2
      cases hx : L.1
      · have B := o2 hx
        simp only [Bool.false_eq_true, if_false]
        refine ⟨fun x => by simp at x, fun _ => ?_⟩
        rw [B.must]; exact B
      · obtain ⟨A2, e1, e2⟩ := o1 hx
        simp only [if_true]
        cases hy : tk L.2.p 6
        · refine ⟨fun x => by simp at x, fun _ => ?_⟩
          have := cw_no (s := s) hy
          rw [this.1, this.2]; exact A2.mustNot 6 (by decide) hy
        · refine ⟨fun _ => ?_, fun x => by simp at x⟩
          rw [cw_yes hy]
          exact ⟨(A2.must 6 (by decide) (by decide) hy).2, e1, e2⟩
    · have hT : TH s = (r1 s, [], []) := by
        unfold TH; rw [if_neg (by rw [h6] at hk; exact fun x => x.2 (of_decide_eq_true hk))]
      simp only [if_true]
      rw [hT]
      refine ⟨fun _ => ⟨?_, rfl, rfl⟩, fun x => by simp at x⟩
      show At s _ (tp s (pnext s (c0 s).p) 6)
      rw [tp_yes h6]
      exact (A1.must 6 (by decide) (by decide) h6).2

end Go.Proofs.Ytondkinefmjpjaa
