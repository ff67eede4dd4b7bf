import Derived.Deep.CutBlock
import Derived.Deep.AppendLies
import Derived.Test.YtondkinefmjpjaaGreatW22
import Derived.Test.YtondkinefmjpjaaGreatW25
import Derived.Test.YtondkinefmjpjaaGreatW37
import Derived.Test.YtondkinefmjpjaaGreatW39
import Derived.Test.YtondkinefmjpjaaGreatW48
import Derived.Test.YtondkinefmjpjaaGreatW49
namespace Go.Proofs.YtondkinefmjpjaaGreat
open Go.RowKit
def sIx (l : Rws) (xs : List Int) : Nat := l.findIdx fun r => decide (r.1 = xs)
def addS (l : Rws) (r : List Int × Int) : Rws := if sIx l r.1 < l.length then l.set (sIx l r.1) ((rAt l (sIx l r.1)).1, wr ((rAt l (sIx l r.1)).2 + r.2)) else l ++ [r]
def sumL (l m : Rws) : Rws := m.foldl addS l
theorem sumL_take (l m : Rws) (k : Nat) (hk : k < m.length) : sumL l (m.take (k + 1)) = addS (sumL l (m.take k)) (rAt m k) := by
  unfold sumL
  rw [List.take_succ_eq_append_getElem hk, List.foldl_append]
  have : rAt m k = m[k] := by unfold rAt; rw [List.getD_eq_getElem?_getD, List.getElem?_eq_getElem hk]; rfl
  rw [this]; rfl
theorem addS_len (l : Rws) (r : List Int × Int) : (addS l r).length ≤ l.length + 1 := by
  unfold addS; split <;> simp
theorem sumL_len (l m : Rws) : (sumL l m).length ≤ l.length + m.length := by
  induction m generalizing l with
  | nil => simp [sumL]
  | cons r m ih =>
    have := ih (addS l r)
    have := addS_len l r
    show (sumL (addS l r) m).length ≤ _
    simp only [List.length_cons]; omega
theorem rAt_set (l : Rws) (j : Nat) (v : List Int × Int) (i : Nat) (hi : i < l.length) : rAt (l.set j v) i = if i = j then v else rAt l i := by
  unfold rAt
  rw [List.getD_eq_getElem?_getD, List.getD_eq_getElem?_getD, List.getElem?_set]
  by_cases e : j = i
  · subst e; simp [hi]
  · rw [if_neg e, if_neg (fun x => e x.symm)]
theorem rcells_set (us : List Value) (l : Rws) (h : us.length = l.length) (j : Nat) (hj : j < l.length) (z : Int) : (rcells us l).set (j * 2 + 1) (.int .i64 z) = rcells us (l.set j ((rAt l j).1, z)) := by
  induction l generalizing us j with
  | nil => simp at hj
  | cons r l ih =>
    cases us with
    | nil => simp at h
    | cons u us =>
      cases j with
      | zero => rfl
      | succ j =>
        have e := ih us (by simpa using h) j (by simpa using hj)
        have ra : rAt (r :: l) (j + 1) = rAt l j := rfl
        rw [ra, show (r :: l).set (j + 1) ((rAt l j).1, z) = r :: l.set j ((rAt l j).1, z) from rfl]
        show (u :: .int .i64 r.2 :: rcells us l).set ((j + 1) * 2 + 1) _ = u :: .int .i64 r.2 :: rcells us (l.set j ((rAt l j).1, z))
        rw [show (j + 1) * 2 + 1 = (j * 2 + 1) + 1 + 1 by omega, List.set_cons_succ, List.set_cons_succ, e]
theorem RNew.setBy {B : Nat} {w : World} {g cap n : Nat} {us : List Value} {l : Rws} (h : RNew 103 B w (.slice (some ⟨g, 0, none⟩) n cap) us l) {j : Nat} (hj : j < l.length) (z : Int) :
    RNew 103 B (w.setCell ⟨g, j * 2 + 1, none⟩ (.int .i64 z)) (.slice (some ⟨g, 0, none⟩) n cap) us (l.set j ((rAt l j).1, z)) ∧ Kp (fun k => k = g) w (w.setCell ⟨g, j * 2 + 1, none⟩ (.int .i64 z)) := by
  obtain ⟨h1, h2, h3⟩ := h
  obtain ⟨_, _, he⟩ := vown_form h2
  simp only [Value.slice.injEq] at he
  have hn : n = l.length := he.2.1
  subst hn
  have hk : Kp (fun k => k = g) w (w.setCell ⟨g, j * 2 + 1, none⟩ (.int .i64 z)) := Kp.set _ _ _ rfl
  obtain ⟨c, hc⟩ := own_cells h2 (k := g) rfl
  refine ⟨⟨by simp [h1], ?_, fun i hi => ?_⟩, hk⟩
  · rw [List.length_set, ← rcells_set us l h1 j hj z]
    exact (h2.stored (j * 2 + 1) (.int .i64 z)).1
  · rw [List.length_set] at hi
    rw [rAt_set _ _ _ _ hi]
    have h4 := hk.own (h3 i hi) (fun k hk' e => by
      obtain ⟨c', hc'⟩ := own_cells (h3 i hi) hk'
      rw [show k = g from e, hc] at hc'; simp at hc')
    split
    · rename_i e; subst e; exact h4
    · exact h4
theorem RNew.kp {e B : Nat} {P : Nat → Prop} {w w' : World} {v : Value} {us : List Value} {l : Rws} (h : RNew e B w v us l) (hk : Kp P w w') (hP : ∀ k, P k → ∃ c, w.heap[k]? = some (.cells c 103 (0, 0))) (he : e ≠ 103) : RNew e B w' v us l :=
  ⟨h.1, hk.own h.2.1 (fun k hk' hp => by
    obtain ⟨c, hc⟩ := own_cells h.2.1 hk'
    obtain ⟨c', hc'⟩ := hP k hp
    rw [hc] at hc'; simp at hc'; exact he hc'.2), fun j hj => hk.own (h.2.2 j hj) (fun k hk' hp => by
    obtain ⟨c, hc⟩ := own_cells (h.2.2 j hj) hk'
    obtain ⟨c', hc'⟩ := hP k hp
    rw [hc] at hc'; simp at hc')⟩
end Go.Proofs.YtondkinefmjpjaaGreat
namespace Go.Proofs.YtondkinefmjpjaaGreat
open Go.RowKit
theorem rAt_get (l : Rws) (k : Nat) (hk : k < l.length) : rAt l k = l[k] := by
  unfold rAt; rw [List.getD_eq_getElem?_getD, List.getElem?_eq_getElem hk]; rfl
theorem addS_hit (l : Rws) (r : List Int × Int) (k : Nat) (hk : k < l.length) (h1 : (rAt l k).1 = r.1) (h2 : ∀ j, j < k → (rAt l j).1 ≠ r.1) : addS l r = l.set k ((rAt l k).1, wr ((rAt l k).2 + r.2)) := by
  have e : sIx l r.1 = k := by
    unfold sIx
    rw [List.findIdx_eq hk]
    refine ⟨by rw [← rAt_get l k hk]; simpa using h1, fun j hj => ?_⟩
    rw [← rAt_get l j (by omega)]; simpa using h2 j hj
  unfold addS; rw [e, if_pos hk]
def SmallV (l : Rws) : Prop := ∀ j, j < l.length → (rAt l j).1.length * 8 ≤ 140737488355328
theorem addS_small {l : Rws} {r : List Int × Int} (h : SmallV l) (hr : r.1.length * 8 ≤ 140737488355328) : SmallV (addS l r) := by
  intro j hj
  unfold addS at hj ⊢
  split
  · rename_i hs
    rw [if_pos hs, List.length_set] at hj
    rw [rAt_set _ _ _ _ hj]
    split
    · exact h _ hs
    · exact h j hj
  · rename_i hs
    rw [if_neg hs, List.length_append] at hj
    by_cases hl : j < l.length
    · rw [rAt_snoc l r j hl]; exact h j hl
    · have : j = l.length := by simp at hj; omega
      subst this; rw [rAt_last]; exact hr
theorem sumL_small {l m : Rws} (h : SmallV l) (hm : SmallV m) (k : Nat) (hk : k ≤ m.length) : SmallV (sumL l (m.take k)) := by
  induction k with
  | zero => simpa [sumL] using h
  | succ k ih => rw [sumL_take l m k (by omega)]; exact addS_small (ih (by omega)) (hm k (by omega))
structure SumS (B : Nat) (w wr : World) (lv0 lv : Value) (us : List Value) (L : Rws) : Prop where
  row : RNew 103 B wr lv us L
  kp : Kp (fun k => lv0.ownBlock = some k) w wr
  fr : ∀ k, lv.ownBlock = some k → lv0.ownBlock = some k ∨ w.heap.size ≤ k
theorem SumS.below {B : Nat} {w wr wx : World} {lv0 lv : Value} {us : List Value} {L : Rws} (h : SumS B w wr lv0 lv us L) (hb : Below wr.heap.size wr wx) : SumS B w wx lv0 lv us L :=
  ⟨h.row.below hb, h.kp.trans (Kp.of_below hb) (fun _ _ q => q), h.fr⟩
theorem SumS.hit {B : Nat} {w wr : World} {lv0 : Value} {g n cap : Nat} {us : List Value} {L : Rws} (h : SumS B w wr lv0 (.slice (some ⟨g, 0, none⟩) n cap) us L) {r : List Int × Int} {k : Nat} (hk : k < L.length) (h1 : (rAt L k).1 = r.1) (h2 : ∀ j, j < k → (rAt L j).1 ≠ r.1) :
    SumS B w (wr.setCell ⟨g, k * 2 + 1, none⟩ (.int .i64 (Go.Proofs.YtondkinefmjpjaaGreat.wr ((rAt L k).2 + r.2)))) lv0 (.slice (some ⟨g, 0, none⟩) n cap) us (addS L r) := by
  obtain ⟨q1, q2⟩ := h.row.setBy hk (Go.Proofs.YtondkinefmjpjaaGreat.wr ((rAt L k).2 + r.2))
  refine ⟨by rw [addS_hit L r k hk h1 h2]; exact q1, h.kp.trans q2 (fun k hk' e => ?_), h.fr⟩
  rcases h.fr k (by rw [e]; rfl) with q | q
  · exact q
  · omega
end Go.Proofs.YtondkinefmjpjaaGreat
namespace Go.Proofs.YtondkinefmjpjaaGreat
open Go.RowKit
def totK (l : Rws) (ys : List Int) : Int := Sg l fun r => if r.1 = ys then r.2 else 0
theorem sIx_none (l : Rws) (r : List Int × Int) (h : ¬ sIx l r.1 < l.length) : ∀ x, x ∈ l → x.1 ≠ r.1 := by
  intro x hx e
  refine h (List.findIdx_lt_length_of_exists ⟨x, hx, by simpa using e⟩)
def Once (l : Rws) : Prop := (l.map fun r => r.1).Nodup ∧ ∀ r, r ∈ l → wr r.2 = r.2
theorem set_keys (l : Rws) (k : Nat) (hk : k < l.length) (z : Int) : (l.set k ((rAt l k).1, z)).map (fun r => r.1) = l.map fun r => r.1 := by
  induction l generalizing k with
  | nil => simp at hk
  | cons r l ih =>
    cases k with
    | zero => rfl
    | succ k =>
      rw [show rAt (r :: l) (k + 1) = rAt l k from rfl, show (r :: l).set (k + 1) ((rAt l k).1, z) = r :: l.set k ((rAt l k).1, z) from rfl, List.map_cons, List.map_cons, ih k (by simpa using hk)]
theorem addS_once {l : Rws} {r : List Int × Int} (h : Once l) (hr : wr r.2 = r.2) : Once (addS l r) := by
  unfold addS
  split
  · rename_i hs
    refine ⟨by rw [set_keys l _ hs]; exact h.1, fun x hx => ?_⟩
    rcases List.mem_or_eq_of_mem_set hx with hx | rfl
    · exact h.2 x hx
    · exact wr_self _
  · rename_i hs
    refine ⟨?_, fun x hx => ?_⟩
    · rw [List.map_append, List.nodup_append]
      refine ⟨h.1, List.nodup_cons.2 ⟨by simp, List.nodup_nil⟩, fun a ha b hb e => ?_⟩
      simp only [List.map_cons, List.map_nil, List.mem_singleton] at hb
      obtain ⟨x, hx, rfl⟩ := List.mem_map.1 ha
      exact sIx_none l r hs x hx (by rw [e, hb])
    · rcases List.mem_append.1 hx with hx | hx
      · exact h.2 x hx
      · rw [List.mem_singleton] at hx; subst hx; exact hr
theorem sumL_once {l m : Rws} (h : Once l) (hm : ∀ r, r ∈ m → wr r.2 = r.2) : Once (sumL l m) := by
  induction m generalizing l with
  | nil => exact h
  | cons r m ih => exact ih (addS_once h (hm r (by simp))) (fun x hx => hm x (by simp [hx]))
def totF (v : List Int → List Int) (f : List Int → Int) (ys : List Int) : Int := Sg (boxN 6) fun a => if v a = ys then f a else 0
end Go.Proofs.YtondkinefmjpjaaGreat
namespace Go.Proofs.YtondkinefmjpjaaGreat
open Go.RowKit Go.WideMaps Go.WideElems Go.Maps Go.Shelf
structure UpR (w w1 : World) (vb : Nat) (P : PlanD) (rb ib : List Nat) (wb : Nat) (R : Nat → List Int → Int) (own : Nat → Option (Nat × List Int)) (name : ByteArray) (x : Int) (xs : List Int) (r : Nat) (vv : Value) (us : List Value) (l : Rws) (g' : Nat → List Int → Option Nat) (own' : Nat → Option (Nat × List Int)) : Prop where
  hr : r < P.rels.length
  hI : rixOf P.rels name = (r : Int)
  heq : xs.length = (P.rel r).2.1
  hx3 : xs.length ≤ 3
  hx : beyond x 9 = false
  hvs : xs.all okV = true
  new : RNew 55 w.heap.size w1 vv us l
  perm : l.Perm (rowsL (hvals P.head) (dlt P R r (pad xs) x) (live 6 (dlt P R r (pad xs) x)))
  st : VSt w1 vb P rb ib wb (updR R r (pad xs) x) g' own'
  up : VUp w w1 own own'
def UpS (w : World) (vb : Nat) (P : PlanD) (rb ib : List Nat) (wb : Nat) (R : Nat → List Int → Int) (own : Nat → Option (Nat × List Int)) (name : ByteArray) (x : Int) (xs : List Int) (v : Value) (w1 : World) : Prop :=
  (∃ c : Int, v = .tuple #[.slice none 0 0, .int .i64 c] ∧ c ≠ 0 ∧ Below w.heap.size w w1) ∨ (∃ r vv us l g' own', v = .tuple #[vv, .int .i64 0] ∧ UpR w w1 vb P rb ib wb R own name x xs r vv us l g' own')
theorem update_s {w : World} {vb : Nat} {P : PlanD} {rb ib : List Nat} {wb : Nat} {R : Nat → List Int → Int} {g : Nat → List Int → Option Nat} {own : Nat → Option (Nat × List Int)} (h : VSt w vb P rb ib wb R g own) (name : ByteArray) (x : Int) {v : Value} {xs : List Int} (hr : Reads w v xs) (hxl : xs.length < 4611686018427387904) (hT : ∀ r, r < P.rels.length → (P.rel r).2.1 ≤ 3) :
    Calls Tryz.prog 16 #[.pointer (some ⟨vb, 0, none⟩), .string name, .int .i64 x, v] w fun e w' => ∃ vv, e = .returned vv ∧ UpS w vb P rb ib wb R own name x xs vv w' := by
  rcases rix_cases P.rels name with hI | ⟨r, hrl, hI⟩
  · exact (Update_name h name x hr hI).mono fun e w' ⟨he, hb⟩ => ⟨_, he, Or.inl ⟨_, rfl, by decide, hb⟩⟩
  · by_cases heq : xs.length = (P.rel r).2.1
    · cases hrg : (beyond x 9 || !xs.all okV)
      · rw [Bool.or_eq_false_iff] at hrg
        have hvs : xs.all okV = true := by simpa using hrg.2
        have hx3 : xs.length ≤ 3 := by rw [heq]; exact hT r hrl
        by_cases hrf : refus (R r (pad xs)) x (live 3 (R r)).length = 0
        · refine (Update_ok h name x hr hrl hI heq hx3 hrg.1 hvs hrf).mono fun e w' hh => ?_
          obtain ⟨vv, us, l, g', own', he, h1, h2, _, hV, hU⟩ := hh
          exact ⟨_, he, Or.inr ⟨r, vv, us, l, g', own', rfl, hrl, hI, heq, hx3, hrg.1, hvs, h1, h2, hV, hU⟩⟩
        · exact (Update_refus h name x hr hrl hI heq hx3 hrg.1 hvs hrf).mono fun e w' ⟨he, hb⟩ => ⟨_, he, Or.inl ⟨_, rfl, hrf, hb⟩⟩
      · exact (Update_range h name x hr hxl hrl hI heq hrg).mono fun e w' ⟨he, hb⟩ => ⟨_, he, Or.inl ⟨_, rfl, by decide, hb⟩⟩
    · exact (Update_shape h name x hr hxl hrl hI heq).mono fun e w' ⟨he, hb⟩ => ⟨_, he, Or.inl ⟨_, rfl, by decide, hb⟩⟩
def Fit (N : Nat) (l : Rws) : Prop := l.length ≤ N ∧ SmallV l
theorem rows_fit {l : Rws} {head : List Nat} {f : List Int → Int} (hp : l.Perm (rowsL (hvals head) f (live 6 f))) (hh : head.length ≤ 6) {N : Nat} (hf : (live 6 f).length ≤ N) : Fit N l := by
  refine ⟨?_, fun j hj => ?_⟩
  · have h1 := hp.length_eq
    rw [rowsL, List.length_map] at h1
    omega
  · rw [rows_len hp j hj]; omega
theorem RNew.fr {e B : Nat} {M : Nat → Prop} {w w' : World} {v : Value} {us : List Value} {l : Rws} (h : RNew e B w v us l) (hf : Fr M w w') (hm : Mps w M) : RNew e B w' v us l :=
  ⟨h.1, hf.own hm h.2.1, fun j hj => hf.own hm (h.2.2 j hj)⟩
end Go.Proofs.YtondkinefmjpjaaGreat
namespace Go.Proofs.YtondkinefmjpjaaGreat
open Go.RowKit Go.WideMaps Go.WideElems Go.Maps Go.Shelf
def UpC (w : World) (vb : Nat) (P : PlanD) (rb ib : List Nat) (wb : Nat) (R : Nat → List Int → Int) (own : Nat → Option (Nat × List Int)) (name : ByteArray) (x : Int) (xs : List Int) (vv : Value) (c : Int) (w1 : World) : Prop :=
  (c ≠ 0 ∧ vv = .slice none 0 0 ∧ Below w.heap.size w w1) ∨ (c = 0 ∧ ∃ r us l g' own', UpR w w1 vb P rb ib wb R own name x xs r vv us l g' own')
theorem update_c {w : World} {vb : Nat} {P : PlanD} {rb ib : List Nat} {wb : Nat} {R : Nat → List Int → Int} {g : Nat → List Int → Option Nat} {own : Nat → Option (Nat × List Int)} (h : VSt w vb P rb ib wb R g own) (name : ByteArray) (x : Int) {v : Value} {xs : List Int} (hr : Reads w v xs) (hxl : xs.length < 4611686018427387904) (hT : ∀ r, r < P.rels.length → (P.rel r).2.1 ≤ 3) :
    Calls Tryz.prog 16 #[.pointer (some ⟨vb, 0, none⟩), .string name, .int .i64 x, v] w fun e w' => ∃ v, e = .returned v ∧ ∃ vv c, v = .tuple #[vv, .int .i64 c] ∧ UpC w vb P rb ib wb R own name x xs vv c w' := by
  refine (update_s h name x hr hxl hT).mono ?_
  rintro e w' ⟨vv, rfl, ⟨c, rfl, hc, hb⟩ | ⟨r, v', us, l, g', own', rfl, hU⟩⟩
  · exact ⟨_, rfl, _, c, rfl, Or.inl ⟨hc, rfl, hb⟩⟩
  · exact ⟨_, rfl, v', 0, rfl, Or.inr ⟨rfl, r, us, l, g', own', hU⟩⟩
theorem rows_s {w : World} {vb : Nat} {P : PlanD} {rb ib : List Nat} {wb : Nat} {R : Nat → List Int → Int} {g : Nat → List Int → Option Nat} {own : Nat → Option (Nat × List Int)} (h : VSt w vb P rb ib wb R g own) :
    Calls Tryz.prog 12 #[.pointer (some ⟨vb, 0, none⟩)] w fun e w' => ∃ v us l, e = .returned v ∧ RNew 55 w.heap.size w' v us l ∧ l.Perm (rowsL (hvals P.head) (P.wor (cont P R)) (live 6 (P.wor (cont P R)))) ∧ Fit 1000000 l ∧ Below w.heap.size w w' := by
  obtain ⟨c, hb⟩ := h.hb
  have hfew := wor_few h.ok h.rel h.rok
  refine (Rows_any vb wb P h.ok _ w c hb h.h0 h.pl h.wo h.cw (by omega)).mono ?_
  rintro e w' ⟨v, us, l, rfl, q1, q2, _, q4⟩
  exact ⟨v, us, l, rfl, q1, q2, rows_fit q2 h.ok.head6 (by omega), q4⟩
theorem Reads.frm {M : Nat → Prop} {w w' : World} {v : Value} {xs : List Int} (h : Reads w v xs) (hf : Fr M w w') (hm : Mps w M) : Reads w' v xs := by
  obtain ⟨a, cap, rfl, h2⟩ := h
  refine ⟨a, cap, rfl, fun hl => ?_⟩
  obtain ⟨g, off, rfl, h3⟩ := h2 hl
  exact ⟨g, off, rfl, fun j hj => hf.cell hm (h3 j hj)⟩
theorem Fit.le {N M : Nat} {l : Rws} (h : Fit N l) (hm : N ≤ M) : Fit M l := ⟨Nat.le_trans h.1 hm, h.2⟩
end Go.Proofs.YtondkinefmjpjaaGreat
namespace Go.Proofs.YtondkinefmjpjaaGreat
open Go.RowKit Go.WideMaps Go.WideElems Go.Maps Go.Shelf
def ScrT (w : World) (va : Option Addr) (n : Nat) (Kd Am : Nat → Int) (S T : Nat → ByteArray) (LV : Nat → Value) (L : Nat → List Int) : Prop :=
  Scr w va n Kd Am S LV L ∧ ∀ b off, va = some ⟨b, off, none⟩ → ∀ i, i < n → w.cell? ⟨b, off + i * 5 + 3, none⟩ = some (.string (T i))
theorem VAny.below {B : Nat} {w w' : World} {vb : Nat} {P : PlanD} {rb ib : List Nat} {wb : Nat} (h : VAny B w vb P rb ib wb) (hb : Below w.heap.size w w') : VAny B w' vb P rb ib wb := by
  obtain ⟨R, g, own, h, ho⟩ := h
  exact ⟨R, g, own, h.fr (fr_below hb), ho⟩
theorem Reads.keep {w w' : World} {v : Value} {xs : List Int} (h : Reads w v xs) (hc : ∀ p v, w.cell? p = some v → w'.cell? p = some v) : Reads w' v xs := by
  obtain ⟨a, cap, rfl, h2⟩ := h
  refine ⟨a, cap, rfl, fun hl => ?_⟩
  obtain ⟨g, off, rfl, h3⟩ := h2 hl
  exact ⟨g, off, rfl, fun j hj => hc _ _ (h3 j hj)⟩
end Go.Proofs.YtondkinefmjpjaaGreat
namespace Go.Proofs.YtondkinefmjpjaaGreat
open Go.ChangeShapes Go.WideShapes Go.ChangeAt Go.RowKit Go.Deep
set_option maxRecDepth 100000 in
theorem op_readsT {H : Type} {enc : TypeId × Value → H} {w : World} {n : Nat} {a : Addr} {cs : List Value} {x : DataW H × List MemPlace} (hc : w.cells? 0 a 5 = some cs) (h : DataW.trod enc Tryz.prog w 0 (fun _ => true) true n 30 cs = some x) :
    ∃ q : Int × Int × ByteArray × ByteArray × Value × List Int, w.cell? a = some (.int .i64 q.1) ∧ w.cell? (a.add 1) = some (.int .i64 q.2.1) ∧ w.cell? (a.add 2) = some (.string q.2.2.1) ∧ w.cell? (a.add 3) = some (.string q.2.2.2.1) ∧ w.cell? (a.add 4) = some q.2.2.2.2.1 ∧ Reads w q.2.2.2.2.1 q.2.2.2.2.2 ∧ (q.2.2.2.2.2 = [] ∨ ∃ N, q.2.2.2.2.2.length ≤ N ∧ N * 8 ∈ x.1.weights Tryz.prog 30) := by
  obtain ⟨_, hlen, hcell⟩ := World.cells?_some hc
  obtain ⟨xs, m, _, hx, _, hxl, hf⟩ := DataW.trod_struct Tryz.underlying30 h
  match xs, hxl, cs, hlen with
  | [y0, y1, y2, y3, y4], _, [v0, v1, v2, v3, v4], _ =>
    have g0 := hf 0 _ rfl
    have g1 := hf 1 _ rfl
    have g2 := hf 2 _ rfl
    have g3 := hf 3 _ rfl
    have g4 := hf 4 _ rfl
    simp [Tryz.cells3, Tryz.cells9, Tryz.cells28] at g0 g1 g2 g3 g4
    obtain ⟨k, e0, _, _⟩ := DataW.trod_int Tryz.underlying3 g0
    obtain ⟨am, e1, _, _⟩ := DataW.trod_int Tryz.underlying3 g1
    obtain ⟨s, e2, _, hs⟩ := DataW.trod_string Tryz.underlying9 g2
    obtain ⟨s3, e3, _, _⟩ := DataW.trod_string Tryz.underlying9 g3
    obtain ⟨L, hL, hN⟩ := ints_read g4
    have c0 := hcell 0 (by omega)
    have c1 := hcell 1 (by omega)
    have c2 := hcell 2 (by omega)
    have c3 := hcell 3 (by omega)
    have c4 := hcell 4 (by omega)
    simp at e0 e1 e2 e3 c0 c1 c2 c3 c4
    subst e0 e1 e2 e3
    refine ⟨(k, am, s, s3, v4, L), by simpa [Addr.add] using c0, c1, c2, c3, c4, hL, ?_⟩
    rcases hN with e | ⟨N, hN1, hN2⟩
    · exact Or.inl e
    · refine Or.inr ⟨N, hN1, ?_⟩
      rw [hx]
      simp only [DataW.weights, Tryz.underlying30]
      exact DataW.weights_mem_each (j := 4) (t := 28) (d := y4.1) rfl rfl _ hN2
theorem script_readsT {H : Type} {enc : TypeId × Value → H} {W : World} {fuel : Nat} {a0 : Option Addr} {len cap : Nat} {x : DataW H × List MemPlace} (hf : DataW.trod enc Tryz.prog W 0 (fun _ => true) true fuel 22 [.slice a0 len cap] = some x) (hw : ∀ n, n ∈ x.1.weights Tryz.prog 22 → n ≤ reachBytes) :
    ∃ Kd Am S T LV L, ScrT W a0 len Kd Am S T LV L := by
  rcases open_slice Tryz.underlying22 hf with ⟨hcs, _⟩ | ⟨a, len', cap', m, n, D, Pl, hcs, _, hl, hm, hmm, hx, hel⟩
  · obtain ⟨rfl, rfl, rfl⟩ : a0 = none ∧ len = 0 ∧ cap = 0 := by simpa using hcs
    exact ⟨fun _ => 0, fun _ => 0, fun _ => ByteArray.empty, fun _ => ByteArray.empty, fun _ => .slice none 0 0, fun _ => [], fun h => absurd h (by decide), fun _ _ h => by cases h⟩
  · obtain ⟨rfl, rfl, rfl⟩ : a0 = some a ∧ len = len' ∧ cap = cap' := by simpa using hcs
    simp only [if_true] at hmm
    have each : ∀ i, i < len → ∃ q : Int × Int × ByteArray × ByteArray × Value × List Int, W.cell? (a.add (i * 5)) = some (.int .i64 q.1) ∧ W.cell? ((a.add (i * 5)).add 1) = some (.int .i64 q.2.1) ∧ W.cell? ((a.add (i * 5)).add 2) = some (.string q.2.2.1) ∧ W.cell? ((a.add (i * 5)).add 3) = some (.string q.2.2.2.1) ∧ W.cell? ((a.add (i * 5)).add 4) = some q.2.2.2.2.1 ∧ Reads W q.2.2.2.2.1 q.2.2.2.2.2 ∧ q.2.2.2.2.2.length * 8 ≤ 140737488355328 := by
      intro i hi
      obtain ⟨cs', g1, g2⟩ := hel i (by omega)
      rw [Tryz.cells30] at g1
      obtain ⟨q, e0, e1, e2, e3, e4, hr, hN⟩ := op_readsT g1 g2
      refine ⟨q, e0, e1, e2, e3, e4, hr, ?_⟩
      rcases hN with e | ⟨N, h1, h2⟩
      · rw [e]; simp
      · have hin : N * 8 ∈ x.1.weights Tryz.prog 22 := by
          rw [hx]
          simp only [DataW.weights, Tryz.underlying22]
          refine List.mem_cons_of_mem _ (List.mem_append_left _ (weightsAll_mem (d := D i) (List.mem_map.2 ⟨i, List.mem_range.2 hi, rfl⟩) h2))
        have := hw _ hin
        have hr47 := reachBytes_lt
        omega
    haveI : Inhabited (Int × Int × ByteArray × ByteArray × Value × List Int) := ⟨(0, 0, ByteArray.empty, ByteArray.empty, .slice none 0 0, [])⟩
    obtain ⟨f, hfn⟩ := choose_lt each
    refine ⟨fun i => (f i).1, fun i => (f i).2.1, fun i => (f i).2.2.1, fun i => (f i).2.2.2.1, fun i => (f i).2.2.2.2.1, fun i => (f i).2.2.2.2.2, fun h0 => ?_, fun b off e i hi => ?_⟩
    · obtain ⟨b, off, spot⟩ := a
      have hspot : spot = none := by simpa [Addr.add] using World.cell?_spot (hfn 0 h0).1
      subst hspot
      refine ⟨b, off, rfl, fun i hi => ?_⟩
      have := hfn i hi
      simp only [add_plain] at this
      exact ⟨this.1, this.2.1, this.2.2.1, this.2.2.2.2⟩
    · have := (hfn i hi).2.2.2.1
      simp only [Option.some.injEq] at e
      rw [e] at this
      simp only [add_plain] at this
      exact this
end Go.Proofs.YtondkinefmjpjaaGreat
