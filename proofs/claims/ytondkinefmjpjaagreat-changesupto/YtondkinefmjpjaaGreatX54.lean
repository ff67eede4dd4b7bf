import Derived.Test.YtondkinefmjpjaaGreatX22
import Derived.Test.YtondkinefmjpjaaGreatX25
import Derived.Test.YtondkinefmjpjaaGreatX30
import Derived.Test.YtondkinefmjpjaaGreatX31
import Derived.Test.YtondkinefmjpjaaGreatX45
namespace Go.Proofs.YtondkinefmjpjaaGreat
open Go.RowKit
theorem cI_anti (x y : Int) : cmpI y x = -(cmpI x y) := by unfold cmpI; split <;> (try split) <;> (try split) <;> omega
theorem cL_anti (x y : List Int) : cmpL y x = -(cmpL x y) := by
  induction x generalizing y with
  | nil => cases y <;> simp [cmpL]
  | cons a x ih =>
    cases y with
    | nil => simp [cmpL]
    | cons b y =>
      simp only [cmpL]
      have := cI_anti a b
      by_cases e : cmpI a b = 0
      · rw [if_pos e, if_pos (by omega)]; exact ih y
      · rw [if_neg e, if_neg (by omega)]; exact this
theorem cL_eq (x y : List Int) : cmpL x y = 0 ↔ x = y := by
  induction x generalizing y with
  | nil => cases y <;> simp [cmpL]
  | cons a x ih =>
    cases y with
    | nil => simp [cmpL]
    | cons b y =>
      simp only [cmpL]
      by_cases e : cmpI a b = 0
      · rw [if_pos e, ih y, cmpI_nil.1 e]; simp
      · rw [if_neg e]
        refine ⟨fun h => absurd h e, fun h => absurd (cmpI_nil.2 (List.cons.inj h).1) e⟩
end Go.Proofs.YtondkinefmjpjaaGreat
namespace Go.Proofs.YtondkinefmjpjaaGreat
open Go.RowKit Go.WideMaps Go.WideElems Go.Maps Go.Shelf Go.ChangeMaps
theorem live_z (N : Nat) : live N (fun _ => 0) = [] := by
  unfold live
  rw [List.filter_eq_nil_iff]
  intro a _; simp [wr_zero]
def clrR (S : Nat → Bool) (R : Nat → List Int → Int) : Nat → List Int → Int := fun r t => if S r = true then 0 else R r t
theorem clr_ok {P : PlanD} {R : Nat → List Int → Int} (h : RowsOk P R) (S : Nat → Bool) : RowsOk P (clrR S R) := by
  refine ⟨fun r hr t hne => ?_, fun r hr t => ?_, fun r hr => ?_⟩
  · unfold clrR at hne
    split at hne
    · exact absurd rfl hne
    · exact h.box r hr t hne
  · unfold clrR
    split
    · omega
    · exact h.bnd r hr t
  · by_cases e : S r = true
    · have : clrR S R r = fun _ => 0 := by funext t; simp [clrR, e]
      rw [this, live_z]; simp
    · have : clrR S R r = R r := by funext t; simp [clrR, e]
      rw [this]; exact h.few r hr
theorem clr_cont (P : PlanD) (R : Nat → List Int → Int) (S : Nat → Bool) (i : Nat) : cont P (clrR S R) i = if S (P.relOf i) = true then fun _ => 0 else cont P R i := by
  funext a
  by_cases e : S (P.relOf i) = true
  · rw [if_pos e]
    unfold cont
    split
    · exact S_zero fun t _ => by simp [clrR, e]
    · rfl
  · rw [if_neg e]
    unfold cont
    split
    · exact S_congr fun t _ => by simp [clrR, e]
    · rfl
theorem clr_wor {P : PlanD} {R : Nat → List Int → Int} {S : Nat → Bool} {i : Nat} (hi : i < P.ms.length) (hS : S (P.relOf i) = true) (h : List Int) : P.wor (cont P (clrR S R)) h = 0 := by
  refine Classical.byContradiction fun hne => ?_
  obtain ⟨y, _, _, _, hA⟩ := wor_supp hne
  refine hA (P.ms.getD i 0, cont P (clrR S R) i) (List.mem_map.2 ⟨i, List.mem_range.2 hi, rfl⟩) ?_
  show cont P (clrR S R) i _ = 0
  rw [clr_cont, if_pos hS]
theorem owns_clr {w : World} {b c : Nat} (h : w.heap[b]? = some (.map #[] c)) (k : TypeId) (R : Value → Option (DataW Unit × List MemPlace)) : w.ownsMap Tryz.prog k R b 0 (.map []) :=
  ⟨#[], c, h, ⟨by simp, MapKept.stamped_empty c, by simp⟩, Nat.le_refl _, rfl⟩
theorem cf_clr {w : World} {b c : Nat} (h : w.heap[b]? = some (.map #[] c)) (k N : Nat) : CF k N w b (fun _ => 0) := ⟨0, .map [], owns_clr h k _, rep_empty N⟩
theorem if_clr {w : World} {b c : Nat} (h : w.heap[b]? = some (.map #[] c)) : IF w b (fun _ => none) := ⟨0, .map [], owns_clr h _ _, repI_empty⟩
theorem ixs_clr {w : World} {b c : Nat} (h : w.heap[b]? = some (.map #[] c)) (s : Nat) : Ixs w b s (fun _ => 0) (fun _ => none) :=
  ⟨if_clr h, fun _ _ _ h => (by cases h), fun _ _ _ _ _ _ => rfl⟩
theorem clear_run {P : Program} {w : World} {t k e ty : TypeId} (ht : P.underlying t = some (.map k e)) {b c : Nat} {es : Array MapEntry} (hb : w.heap[b]? = some (.map es c)) :
    ∃ w', (Builtin.clear_ #[t] ty #[.map (some b)]).run P w = .ok (.tuple #[]) w' ∧ w'.heap[b]? = some (.map #[] c) ∧ Fr (fun i => i = b) w w' := by
  refine ⟨setBlock w b (.map #[] c), ?_, heap_setBlock_same hb _, ?_⟩
  · simp [Builtin.clear_, run_underlying ht, MapKept.run_getObj_map hb, MapKept.run_setObj_map _ hb, Result.andThen, setBlock]
  · refine ⟨?_, rfl, rfl, rfl, fun i hi hn => ?_⟩
    · simp [setBlock]
    · exact heap_setBlock_other hb _ hn
theorem wpList_clear_map {P : Program} {w : World} {ops : Array Oper} {rest : List Oper} {o : Oper} {a : Act} {Q : Exit → Act → World → Prop} (hg : o.guard = none) (m : Operand) (t : TypeId) (hop : o.op = Op.call { callee := Callee.builtin Builtin.clear, args := #[m], argTypes := #[t] })
    (k e : TypeId) (ht : P.underlying t = some (.map k e)) (b c : Nat) (es : Array MapEntry) (hm : a.eval m = .map (some b)) (hb : w.heap[b]? = some (.map es c))
    (hK : ∀ w', w'.heap[b]? = some (.map #[] c) → Fr (fun i => i = b) w w' → wpList P ops Q rest (a.put o.dst (.tuple #[])) w') :
    wpList P ops Q (o :: rest) a w := by
  refine wpList_plain hg fun K' hK' => ?_
  obtain ⟨w', hrun, r1, r2⟩ := clear_run (P := P) (w := w) (ty := o.type) ht hb
  unfold Oper.wp
  simp [execOp, hop, resolve, invoke, builtin, hm, hrun, Result.andThen]
  exact hK' _ _ (hK w' r1 r2)
end Go.Proofs.YtondkinefmjpjaaGreat
namespace Go.Proofs.YtondkinefmjpjaaGreat
open Go.RowKit Go.WideMaps Go.WideElems Go.Maps Go.Shelf
structure CSt (w : World) (vb : Nat) (P : PlanD) (rb ib : List Nat) (wb : Nat) (R f : Nat → List Int → Int) (F : List Int → Int) (g : Nat → List Int → Option Nat) (own : Nat → Option (Nat × List Int)) : Prop where
  pl : PlanSt w vb P
  rows : ∃ rv base, w.cell? ⟨vb, 8, none⟩ = some rv ∧ w.ownsRow base 130 1 rv rb.length (mapVs rb)
  ixs : ∃ iv base, w.cell? ⟨vb, 9, none⟩ = some iv ∧ w.ownsRow base 166 1 iv ib.length (mapVs ib)
  wo : w.cell? ⟨vb, 10, none⟩ = some (.map (some wb))
  cr : ∀ r, r < P.rels.length → CF 110 3 w (rb.getD r 0) (R r) ∧ own (rb.getD r 0) = some (1, [(r : Int)])
  A : IxAll w P.ms P.lk ib f g
  W : Own w ib P.lk.length g own
  ow : own wb = some (0, [])
  cw : CF 93 6 w wb F
theorem CSt.fr {w w' : World} {vb : Nat} {P : PlanD} {rb ib : List Nat} {wb : Nat} {R f : Nat → List Int → Int} {F : List Int → Int} {g : Nat → List Int → Option Nat} {own : Nat → Option (Nat × List Int)} (h : CSt w vb P rb ib wb R f F g own) (hf : Fr (fun _ => False) w w') : CSt w' vb P rb ib wb R f F g own := by
  obtain ⟨rv, b1, r1, r2⟩ := h.rows
  obtain ⟨iv, b2, i1, i2⟩ := h.ixs
  exact ⟨h.pl.fr hf (mps_none _), ⟨rv, b1, hf.cell (mps_none _) r1, hf.own (mps_none _) r2⟩, ⟨iv, b2, hf.cell (mps_none _) i1, hf.own (mps_none _) i2⟩, hf.cell (mps_none _) h.wo, fun r hr => ⟨(h.cr r hr).1.fr hf (fun h => h), (h.cr r hr).2⟩, h.A.fr hf, h.W.fr hf, h.ow, h.cw.fr hf (fun h => h)⟩
theorem CSt.congr {w : World} {vb : Nat} {P : PlanD} {rb ib : List Nat} {wb : Nat} {R R' f f' : Nat → List Int → Int} {F F' : List Int → Int} {g : Nat → List Int → Option Nat} {own : Nat → Option (Nat × List Int)} (h : CSt w vb P rb ib wb R f F g own) (hR : ∀ r, r < P.rels.length → R r = R' r) (hf : ∀ l, l < P.lk.length → f l = f' l) (hF : F = F') : CSt w vb P rb ib wb R' f' F' g own :=
  ⟨h.pl, h.rows, h.ixs, h.wo, fun r hr => by rw [← hR r hr]; exact h.cr r hr, fun l hl => by rw [← hf l hl]; exact h.A l hl, h.W, h.ow, hF ▸ h.cw⟩
theorem CSt.one {w w' : World} {vb : Nat} {P : PlanD} {rb ib : List Nat} {wb : Nat} {R f : Nat → List Int → Int} {F : List Int → Int} {g : Nat → List Int → Option Nat} {own : Nat → Option (Nat × List Int)} (h : CSt w vb P rb ib wb R f F g own) {b c : Nat} {q : Nat × List Int} (hq : own b = some q) (hb : w'.heap[b]? = some (.map #[] c)) (hf : Fr (fun i => i = b) w w') :
    PlanSt w' vb P ∧ (∃ rv base, w'.cell? ⟨vb, 8, none⟩ = some rv ∧ w'.ownsRow base 130 1 rv rb.length (mapVs rb)) ∧ (∃ iv base, w'.cell? ⟨vb, 9, none⟩ = some iv ∧ w'.ownsRow base 166 1 iv ib.length (mapVs ib)) ∧ w'.cell? ⟨vb, 10, none⟩ = some (.map (some wb)) ∧ VUp w w' own own ∧ Own w' ib P.lk.length g own ∧ ∀ i p, own i = some p → p ≠ q → w'.heap[i]? = w.heap[i]? := by
  have hm : Mps w (fun i => i = b) := fun i _ e => by rw [e]; exact h.W.m b q hq
  have hu : VUp w w' own own := VUp.of_maps hf (fun i _ e => ⟨q, by rw [e]; exact hq⟩) (fun i _ e => ⟨#[], c, by rw [e]; exact hb⟩)
  obtain ⟨rv, b1, r1, r2⟩ := h.rows
  obtain ⟨iv, b2, i1, i2⟩ := h.ixs
  refine ⟨h.pl.fr hf hm, ⟨rv, b1, hf.cell hm r1, hf.own hm r2⟩, ⟨iv, b2, hf.cell hm i1, hf.own hm i2⟩, hf.cell hm h.wo, hu, h.W.up hu, fun i p hp hne => hf.block i ?_ (fun e => hne ?_)⟩
  · obtain ⟨es, c, e⟩ := h.W.m i p hp; exact vlt_of_block e
  · rw [e, hq] at hp; exact (Option.some.inj hp).symm
theorem CSt.clrRow {w w' : World} {vb : Nat} {P : PlanD} {rb ib : List Nat} {wb : Nat} {R f : Nat → List Int → Int} {F : List Int → Int} {g : Nat → List Int → Option Nat} {own : Nat → Option (Nat × List Int)} (h : CSt w vb P rb ib wb R f F g own) {r c : Nat} (hr : r < P.rels.length) (hb : w'.heap[rb.getD r 0]? = some (.map #[] c)) (hf : Fr (fun i => i = rb.getD r 0) w w') :
    CSt w' vb P rb ib wb (clrR (fun q => q == r) R) f F g own ∧ VUp w w' own own := by
  obtain ⟨p1, p2, p3, p4, p5, p6, p7⟩ := h.one (h.cr r hr).2 hb hf
  refine ⟨⟨p1, p2, p3, p4, fun q hq => ⟨?_, (h.cr q hq).2⟩, fun l hl => (h.A l hl).block (p7 _ _ (h.W.o l hl) (by simp)) (fun k hk c hc => p7 _ _ (h.W.i l hl k hk c hc) (by simp)), p6, h.ow, h.cw.block (p7 _ _ h.ow (by simp))⟩, p5⟩
  by_cases e : q = r
  · subst e
    have : clrR (fun x => x == q) R q = fun _ => 0 := by funext t; simp [clrR]
    rw [this]; exact cf_clr hb 110 3
  · have : clrR (fun x => x == r) R q = R q := by funext t; simp [clrR, e]
    rw [this]
    exact (h.cr q hq).1.block (p7 _ _ (h.cr q hq).2 (by simp; omega))
theorem CSt.clrIx {w w' : World} {vb : Nat} {P : PlanD} {rb ib : List Nat} {wb : Nat} {R f : Nat → List Int → Int} {F : List Int → Int} {g : Nat → List Int → Option Nat} {own : Nat → Option (Nat × List Int)} (h : CSt w vb P rb ib wb R f F g own) {l c : Nat} (hl : l < P.lk.length) (hb : w'.heap[ib.getD l 0]? = some (.map #[] c)) (hf : Fr (fun i => i = ib.getD l 0) w w') :
    CSt w' vb P rb ib wb R (fun m => if m = l then fun _ => 0 else f m) F (fun m => if m = l then fun _ => none else g m) own ∧ VUp w w' own own := by
  obtain ⟨p1, p2, p3, p4, p5, p6, p7⟩ := h.one (h.W.o l hl) hb hf
  refine ⟨⟨p1, p2, p3, p4, fun q hq => ⟨(h.cr q hq).1.block (p7 _ _ (h.cr q hq).2 (by simp)), (h.cr q hq).2⟩, fun m hm => ?_, ⟨p6.o, fun m hm k hk c hc => ?_, p6.m⟩, h.ow, h.cw.block (p7 _ _ h.ow (by simp))⟩, p5⟩
  · by_cases e : m = l
    · subst e; simp only [if_true]; exact ixs_clr hb _
    · simp only [if_neg e]
      exact (h.A m hm).block (p7 _ _ (h.W.o m hm) (by simp; omega)) (fun k hk c hc => p7 _ _ (h.W.i m hm k hk c hc) (by simp))
  · by_cases e : m = l
    · simp only [if_pos e] at hc; cases hc
    · simp only [if_neg e] at hc; exact h.W.i m hm k hk c hc
theorem CSt.clrWo {w w' : World} {vb : Nat} {P : PlanD} {rb ib : List Nat} {wb : Nat} {R f : Nat → List Int → Int} {F : List Int → Int} {g : Nat → List Int → Option Nat} {own : Nat → Option (Nat × List Int)} (h : CSt w vb P rb ib wb R f F g own) {c : Nat} (hb : w'.heap[wb]? = some (.map #[] c)) (hf : Fr (fun i => i = wb) w w') :
    CSt w' vb P rb ib wb R f (fun _ => 0) g own ∧ VUp w w' own own := by
  obtain ⟨p1, p2, p3, p4, p5, p6, p7⟩ := h.one h.ow hb hf
  exact ⟨⟨p1, p2, p3, p4, fun q hq => ⟨(h.cr q hq).1.block (p7 _ _ (h.cr q hq).2 (by simp)), (h.cr q hq).2⟩, fun m hm => (h.A m hm).block (p7 _ _ (h.W.o m hm) (by simp)) (fun k hk c hc => p7 _ _ (h.W.i m hm k hk c hc) (by simp)), p6, h.ow, cf_clr hb 93 6⟩, p5⟩
def fE (P : PlanD) (R : Nat → List Int → Int) (r j l : Nat) : List Int → Int := if l < j ∧ (P.lk.getD l (0, 0)).2 ∈ (P.rel r).2.2 then fun _ => 0 else cont P R (P.lk.getD l (0, 0)).2
theorem fE_zero (P : PlanD) (R : Nat → List Int → Int) (r l : Nat) : fE P R r 0 l = cont P R (P.lk.getD l (0, 0)).2 := by simp [fE]
theorem fE_yes {P : PlanD} {R : Nat → List Int → Int} {r j : Nat} (h : (P.lk.getD j (0, 0)).2 ∈ (P.rel r).2.2) (l : Nat) : (if l = j then fun _ => 0 else fE P R r j l) = fE P R r (j + 1) l := by
  unfold fE
  by_cases e : l = j
  · subst e; rw [if_pos rfl, if_pos ⟨by omega, h⟩]
  · rw [if_neg e]
    by_cases c : l < j
    · simp only [c, show l < j + 1 by omega]
    · simp only [c, show ¬ l < j + 1 by omega]
theorem fE_no {P : PlanD} {R : Nat → List Int → Int} {r j : Nat} (h : ¬ (P.lk.getD j (0, 0)).2 ∈ (P.rel r).2.2) (l : Nat) : fE P R r j l = fE P R r (j + 1) l := by
  unfold fE
  by_cases e : l = j
  · subst e; rw [if_neg (fun c => h c.2), if_neg (fun c => h c.2)]
  · by_cases c : l < j
    · simp only [c, show l < j + 1 by omega]
    · simp only [c, show ¬ l < j + 1 by omega]
theorem fE_end {P : PlanD} (hQ : RelOk P) (R : Nat → List Int → Int) {r l : Nat} (hr : r < P.rels.length) (hl : l < P.lk.length) : fE P R r P.lk.length l = cont P (clrR (fun q => q == r) R) (P.lk.getD l (0, 0)).2 := by
  unfold fE
  obtain ⟨i, hi⟩ : ∃ i, (P.lk.getD l (0, 0)).2 = i := ⟨_, rfl⟩
  rw [hi, clr_cont]
  by_cases hm : i < P.ms.length
  · have := hQ.iff r hr i hm
    by_cases c : i ∈ (P.rel r).2.2
    · rw [if_pos ⟨hl, c⟩, if_pos (by simp [(this.1 c)])]
    · rw [if_neg (fun x => c x.2), if_neg (fun x => c (this.2 (by simpa using Eq.symm (by simpa using x))))]
  · have hn : cont P R i = fun _ => 0 := by funext a; simp [cont, hm]
    rw [hn]; simp
end Go.Proofs.YtondkinefmjpjaaGreat
namespace Go.Proofs.YtondkinefmjpjaaGreat
open Go.RowKit
def HdOk (P : PlanD) : Prop := ∀ j, j < 6 → (P.H.testBit j = true ↔ j ∈ P.head)
theorem hvals_inj {P : PlanD} (hH : HdOk P) {a b : List Int} (ha : rst P.H a = a) (hb : rst P.H b = b) (h : hvals P.head a = hvals P.head b) : a = b := by
  have hl : ∀ x : List Int, rst P.H x = x → x.length = 6 := fun x hx => by rw [← hx]; exact rst_len _ _
  refine ext6 (hl a ha) (hl b hb) fun j hj => ?_
  by_cases e : P.H.testBit j = true
  · have hm := (hH j hj).1 e
    unfold hvals at h
    have := List.map_inj_left.1 h j hm
    exact this
  · rw [← ha, ← hb, rst_at _ _ hj, rst_at _ _ hj, if_neg e, if_neg e]
theorem wor_fix {P : PlanD} {f : Nat → List Int → Int} {h : List Int} (hne : P.wor f h ≠ 0) : rst P.H h = h := by
  obtain ⟨y, _, _, e, _⟩ := wor_supp hne
  rw [← e]
  refine ext6 (rst_len _ _) (rst_len _ _) fun j hj => ?_
  rw [rst_at _ _ hj, rst_at _ _ hj]
  split <;> rfl
theorem rows_rise {P : PlanD} (hH : HdOk P) {f : List Int → Int} {l : Rws} (hp : l.Perm (rowsL (hvals P.head) f (live 6 f))) (hr : RiseL l) (hf : ∀ a, f a ≠ 0 → rst P.H a = a) : Rise l := by
  have hk : (l.map fun r => r.1).Nodup := by
    have h1 : (l.map fun r => r.1).Perm ((live 6 f).map (hvals P.head)) := by
      have := hp.map (fun r => r.1)
      unfold rowsL at this
      rw [List.map_map] at this
      exact this
    refine h1.nodup_iff.2 ?_
    have h2 := live_nodup 6 f
    unfold List.Nodup at h2 ⊢
    rw [List.pairwise_map]
    refine h2.imp_of_mem fun {a b} ha hb hne e => hne ?_
    exact hvals_inj hH (hf a (wr_ne (mem_live.1 ha).2)) (hf b (wr_ne (mem_live.1 hb).2)) e
  have hat : ∀ j (hj : j < l.length), rAt l j = l[j] := fun j hj => by unfold rAt; rw [List.getD_eq_getElem?_getD, List.getElem?_eq_getElem hj]; rfl
  refine ⟨fun j hj => ?_, fun j hj => ?_⟩
  · rw [hat j hj]
    have hm := hp.mem_iff.1 (List.getElem_mem hj)
    unfold rowsL at hm
    obtain ⟨a, ha, e⟩ := List.mem_map.1 hm
    rw [← e]; exact (mem_live.1 ha).2
  · have hj' : j < l.length := by omega
    rw [hat j hj', hat (j + 1) hj]
    have h1 := List.pairwise_iff_getElem.1 hr j (j + 1) hj' hj (by omega)
    have h2 : cmpL l[j].1 l[j + 1].1 ≠ 0 := fun e => by
      have e' := (cL_eq _ _).1 e
      have h3 := List.pairwise_iff_getElem.1 hk j (j + 1) (by simpa using hj') (by simpa using hj) (by omega)
      simp at h3; exact h3 e'
    have h3 := cL_anti l[j].1 l[j + 1].1
    omega
theorem dlt_fix {P : PlanD} {f g : Nat → List Int → Int} {a : List Int} (h : P.wor f a - P.wor g a ≠ 0) : rst P.H a = a := by
  by_cases e : P.wor f a = 0
  · exact wor_fix (f := g) (by omega)
  · exact wor_fix e
end Go.Proofs.YtondkinefmjpjaaGreat
namespace Go.Proofs.YtondkinefmjpjaaGreat
open Go.RowKit
def SReads (w : World) (v : Value) (ss : List ByteArray) : Prop := ∃ a cap, v = .slice a ss.length cap ∧ (0 < ss.length → ∃ g off, a = some ⟨g, off, none⟩ ∧ ∀ j, j < ss.length → w.cell? ⟨g, off + j, none⟩ = some (.string (ss.getD j ByteArray.empty)))
theorem SReads.fr {M : Nat → Prop} {w w' : World} {v : Value} {ss : List ByteArray} (h : SReads w v ss) (hf : Fr M w w') (hm : Mps w M) : SReads w' v ss := by
  obtain ⟨a, cap, rfl, h2⟩ := h
  refine ⟨a, cap, rfl, fun hl => ?_⟩
  obtain ⟨g, off, rfl, h3⟩ := h2 hl
  exact ⟨g, off, rfl, fun j hj => hf.cell hm (h3 j hj)⟩
def sixS (ss : List ByteArray) (t : ByteArray) : Int := if ss.findIdx (fun s => t.toList == s.toList) < ss.length then (ss.findIdx (fun s => t.toList == s.toList) : Int) else -1
theorem sixS_any (ss : List ByteArray) (t : ByteArray) : decide (0 ≤ sixS ss t) = ss.any fun s => t.toList == s.toList := by
  unfold sixS
  by_cases h : ss.findIdx (fun s => t.toList == s.toList) < ss.length
  · rw [if_pos h]
    have : (ss.any fun s => t.toList == s.toList) = true := List.any_eq_true.2 ⟨_, List.getElem_mem h, List.findIdx_getElem (w := h)⟩
    rw [this]; simp
  · rw [if_neg h]
    have : (ss.any fun s => t.toList == s.toList) = false := by
      rw [List.any_eq_false]
      intro s hs e
      exact h (List.findIdx_lt_length_of_exists ⟨s, hs, by simpa using e⟩)
    rw [this]; simp
set_option maxHeartbeats 2000000 in
theorem indexS_any (v : Value) (ss : List ByteArray) (t : ByteArray) (w : World) (h : SReads w v ss) (hl : ss.length ≤ 1000) :
    Calls Tryz.prog 80 #[v, .string t] w fun x w' => x = .returned (.int .i64 (sixS ss t)) ∧ w' = w := by
  obtain ⟨a, cap, rfl, h2⟩ := h
  go_enter Tryz.func80, Tryz.ntmps80
  go_wp2_with fail
  go_loop [5, 8] (fun _ i => ∃ k : Nat, k ≤ ss.length ∧ i = .int .i64 k ∧ ∀ j (hj : j < ss.length), j < k → (t.toList == ss[j].toList) = false) (fun _ i => ss.length - (intOf i).toNat)
  case atStart => exact ⟨0, Nat.zero_le _, rfl, fun _ _ h => absurd h (Nat.not_lt_zero _)⟩
  case round =>
    obtain ⟨k, hk, rfl, hd'⟩ := hrel
    have HD : Hid (∀ j (hj : j < ss.length), j < k → (t.toList == ss[j].toList) = false) := hd'
    clear hd'
    by_cases hlt : k < ss.length
    · obtain ⟨g, off, rfl, q⟩ := h2 (by omega)
      have y0 := q k hlt
      have hgd : ss.getD k ByteArray.empty = ss[k] := by rw [List.getD_eq_getElem?_getD, List.getElem?_eq_getElem hlt]; rfl
      rw [hgd] at y0
      have bk : (k : Int) < (ss.length : Int) := by omega
      clear q h2 hgd
      cases hx : (t.toList == ss[k].toList)
      · go_wp2_with fail
        go_round
        case rel => exact ⟨k + 1, by omega, by go_num, fun j hj hjk => by
          by_cases e : j = k
          · subst e; exact hx
          · exact HD.out j hj (by omega)⟩
        case measure => simp [intOf]; omega
      · have HX : Hid (sixS ss t = (k : Int)) := by
          have e : ss.findIdx (fun s => t.toList == s.toList) = k := (List.findIdx_eq hlt).2 ⟨hx, fun j hj => HD.out j (by omega) hj⟩
          unfold Hid sixS; rw [e, if_pos hlt]
        go_wp2_with fail
        go_ret
        exact ⟨vret_int HX.out.symm, rfl⟩
    · have HX : Hid (sixS ss t = -1) := by
        have e : ss.findIdx (fun s => t.toList == s.toList) = ss.length := by
          refine List.findIdx_eq_length.2 (fun x hx => ?_)
          obtain ⟨j, hj, rfl⟩ := List.getElem_of_mem hx
          exact HD.out j hj (by omega)
        unfold Hid sixS; rw [e, if_neg (by omega)]
      go_wp2_with fail
      go_ret
      exact ⟨vret_int HX.out.symm, rfl⟩
set_option maxHeartbeats 1000000 in
theorem containsS_any (v : Value) (ss : List ByteArray) (t : ByteArray) (w : World) (h : SReads w v ss) (hl : ss.length ≤ 1000) {b : Bool} (hb : (ss.any fun s => t.toList == s.toList) = b) :
    Calls Tryz.prog 51 #[v, .string t] w fun x w' => x = .returned (.bool b) ∧ w' = w := by
  have IX := indexS_any v ss t w h hl
  rw [← sixS_any] at hb
  obtain ⟨a, cap, rfl, _⟩ := h
  obtain ⟨I, hI⟩ : ∃ I, sixS ss t = I := ⟨_, rfl⟩
  rw [hI] at IX hb
  clear hI
  go_enter Tryz.func51, Tryz.ntmps51
  go_wp2_with (go_at_call 80; refine IX.mono ?_; rintro e w' ⟨rfl, rfl⟩)
  go_ret
  exact ⟨by rw [← hb]; simp, rfl⟩
def iix (xs : List Nat) (t : Nat) : Int := if xs.findIdx (fun s => decide (t = s)) < xs.length then (xs.findIdx (fun s => decide (t = s)) : Int) else -1
theorem iix_any (xs : List Nat) (t : Nat) : decide (0 ≤ iix xs t) = decide (t ∈ xs) := by
  unfold iix
  by_cases h : xs.findIdx (fun s => decide (t = s)) < xs.length
  · rw [if_pos h]
    have := List.findIdx_getElem (w := h)
    have hm : t ∈ xs := by rw [of_decide_eq_true this]; exact List.getElem_mem h
    rw [decide_eq_true hm]; simp
  · rw [if_neg h]
    have hm : ¬ t ∈ xs := fun e => h (List.findIdx_lt_length_of_exists ⟨t, e, by simp⟩)
    rw [decide_eq_false hm]; simp
set_option maxHeartbeats 2000000 in
theorem indexN_any (base : Nat) (v : Value) (xs : List Nat) (t : Nat) (w : World) (ho : w.ownsRow base 3 1 v xs.length (nats xs)) (hl : xs.length ≤ 1000) :
    Calls Tryz.prog 113 #[v, .int .i64 t] w fun x w' => x = .returned (.int .i64 (iix xs t)) ∧ w' = w := by
  obtain ⟨a, cap, rfl⟩ := vown_form ho
  go_enter Tryz.func113, Tryz.ntmps113
  go_wp2_with fail
  go_loop [5, 8] (fun _ i => ∃ k : Nat, k ≤ xs.length ∧ i = .int .i64 k ∧ ∀ j (hj : j < xs.length), j < k → t ≠ xs[j]) (fun _ i => xs.length - (intOf i).toNat)
  case atStart => exact ⟨0, Nat.zero_le _, rfl, fun _ _ h => absurd h (Nat.not_lt_zero _)⟩
  case round =>
    obtain ⟨k, hk, rfl, hd'⟩ := hrel
    have HD : Hid (∀ j (hj : j < xs.length), j < k → t ≠ xs[j]) := hd'
    clear hd'
    by_cases hlt : k < xs.length
    · obtain ⟨g, cap', he⟩ := vown_some ho (by omega)
      simp only [Value.slice.injEq, true_and] at he
      obtain ⟨rfl, rfl⟩ := he
      have y0 := nats_at ho rfl k hlt
      have hgd : xs.getD k 0 = xs[k] := by rw [List.getD_eq_getElem?_getD, List.getElem?_eq_getElem hlt]; rfl
      rw [hgd] at y0
      have bk : (k : Int) < (xs.length : Int) := by omega
      obtain ⟨X, hX⟩ : ∃ X, xs[k] = X := ⟨_, rfl⟩
      have HXX : Hid _ := hX
      rw [hX] at y0
      clear hgd hX
      by_cases hx : t = X
      · have HX : Hid (iix xs t = (k : Int)) := by
          have e : xs.findIdx (fun s => decide (t = s)) = k := (List.findIdx_eq hlt).2 ⟨by rw [HXX.out]; exact decide_eq_true hx, fun j hj => decide_eq_false (HD.out j (by omega) hj)⟩
          unfold Hid iix; rw [e, if_pos hlt]
        have hz : ((t : Int) == (X : Int)) = true := by simp; omega
        clear hx
        go_wp2_with fail
        go_ret
        exact ⟨vret_int HX.out.symm, rfl⟩
      · have hz : ((t : Int) == (X : Int)) = false := by simp; omega
        have HXN : Hid (¬ t = X) := hx
        clear hx
        go_wp2_with fail
        go_round
        case rel => exact ⟨k + 1, by omega, by go_num, fun j hj hjk => by
          by_cases e : j = k
          · subst e; rw [HXX.out]; exact HXN.out
          · exact HD.out j hj (by omega)⟩
        case measure => simp [intOf]; omega
    · have HX : Hid (iix xs t = -1) := by
        have e : xs.findIdx (fun s => decide (t = s)) = xs.length := by
          refine List.findIdx_eq_length.2 (fun x hx => ?_)
          obtain ⟨j, hj, rfl⟩ := List.getElem_of_mem hx
          exact decide_eq_false (HD.out j hj (by omega))
        unfold Hid iix; rw [e, if_neg (by omega)]
      go_wp2_with fail
      go_ret
      exact ⟨vret_int HX.out.symm, rfl⟩
set_option maxHeartbeats 1000000 in
theorem containsN_any (base : Nat) (v : Value) (xs : List Nat) (t : Nat) (w : World) (ho : w.ownsRow base 3 1 v xs.length (nats xs)) (hl : xs.length ≤ 1000) {b : Bool} (hb : decide (t ∈ xs) = b) :
    Calls Tryz.prog 81 #[v, .int .i64 t] w fun x w' => x = .returned (.bool b) ∧ w' = w := by
  have IX := indexN_any base v xs t w ho hl
  rw [← iix_any] at hb
  obtain ⟨a, cap, rfl⟩ := vown_form ho
  obtain ⟨I, hI⟩ : ∃ I, iix xs t = I := ⟨_, rfl⟩
  rw [hI] at IX hb
  clear hI ho
  go_enter Tryz.func81, Tryz.ntmps81
  go_wp2_with (go_at_call 113; refine IX.mono ?_; rintro e w' ⟨rfl, rfl⟩)
  go_ret
  exact ⟨by rw [← hb]; simp, rfl⟩
end Go.Proofs.YtondkinefmjpjaaGreat
namespace Go.Proofs.YtondkinefmjpjaaGreat
open Go.RowKit Go.WideMaps Go.WideElems Go.Maps Go.Shelf
theorem enter81 : ∀ vs u, (callFunc 81 vs).run Tryz.prog u = .ok (.enter 81 vs) u := enters_of Tryz.func81 (by kernel_rfl) rfl
theorem containsN_step (base : Nat) (v : Value) (xs : List Nat) (t : Nat) (w : World) (ho : w.ownsRow base 3 1 v xs.length (nats xs)) (hl : xs.length ≤ 1000) {b : Bool} (hb : decide (t ∈ xs) = b) :
    Calls Tryz.prog 81 #[v, .int .i64 t] w fun x w' => ∃ u, x = .returned u ∧ (u = .bool b ∧ w' = w) :=
  (containsN_any base v xs t w ho hl hb).mono fun _ _ ⟨h, h'⟩ => ⟨_, h, rfl, h'⟩
def EmS (w wr : World) (vb : Nat) (P : PlanD) (rb ib : List Nat) (wb : Nat) (R : Nat → List Int → Int) (F : List Int → Int) (own : Nat → Option (Nat × List Int)) (r k : Nat) : Prop :=
  ∃ g, CSt wr vb P rb ib wb (clrR (fun q => q == r) R) (fE P R r k) F g own ∧ VUp w wr own own
theorem EmS.fr {w wr wx : World} {vb : Nat} {P : PlanD} {rb ib : List Nat} {wb : Nat} {R : Nat → List Int → Int} {F : List Int → Int} {own : Nat → Option (Nat × List Int)} {r k : Nat} (h : EmS w wr vb P rb ib wb R F own r k) (hf : Fr (fun _ => False) wr wx) : EmS w wx vb P rb ib wb R F own r k := by
  obtain ⟨g, h1, h2⟩ := h
  exact ⟨g, h1.fr hf, h2.trans (VUp.of_fr own hf)⟩
theorem EmS.yes {w wr wx : World} {vb : Nat} {P : PlanD} {rb ib : List Nat} {wb : Nat} {R : Nat → List Int → Int} {F : List Int → Int} {own : Nat → Option (Nat × List Int)} {r k c : Nat} (h : EmS w wr vb P rb ib wb R F own r k) (hk : k < P.lk.length) (hm : (P.lk.getD k (0, 0)).2 ∈ (P.rel r).2.2) (hb : wx.heap[ib.getD k 0]? = some (.map #[] c)) (hf : Fr (fun i => i = ib.getD k 0) wr wx) : EmS w wx vb P rb ib wb R F own r (k + 1) := by
  obtain ⟨g, h1, h2⟩ := h
  obtain ⟨q1, q2⟩ := h1.clrIx hk hb hf
  exact ⟨_, q1.congr (fun _ _ => rfl) (fun l _ => fE_yes hm l) rfl, h2.trans q2⟩
theorem EmS.no {w wr : World} {vb : Nat} {P : PlanD} {rb ib : List Nat} {wb : Nat} {R : Nat → List Int → Int} {F : List Int → Int} {own : Nat → Option (Nat × List Int)} {r k : Nat} (h : EmS w wr vb P rb ib wb R F own r k) (hm : ¬ (P.lk.getD k (0, 0)).2 ∈ (P.rel r).2.2) : EmS w wr vb P rb ib wb R F own r (k + 1) := by
  obtain ⟨g, h1, h2⟩ := h
  exact ⟨g, h1.congr (fun _ _ => rfl) (fun l _ => fE_no hm l) rfl, h2⟩
set_option maxHeartbeats 4000000 in
set_option maxRecDepth 100000 in
theorem empty_any {w : World} {vb : Nat} {P : PlanD} {rb ib : List Nat} {wb : Nat} {R : Nat → List Int → Int} {F : List Int → Int} {g : Nat → List Int → Option Nat} {own : Nat → Option (Nat × List Int)} (hP : PlanOk P) (hQ : RelOk P) (hrb : rb.length = P.rels.length) (hil : ib.length = P.lk.length)
    (h : CSt w vb P rb ib wb R (fun l => cont P R (P.lk.getD l (0, 0)).2) F g own) {r : Nat} (hr : r < P.rels.length) :
    Calls Tryz.prog 52 #[.pointer (some ⟨vb, 0, none⟩), .int .i64 r] w fun e w' => e = .returned (.tuple #[]) ∧ ∃ g', CSt w' vb P rb ib wb (clrR (fun q => q == r) R) (fun l => cont P (clrR (fun q => q == r) R) (P.lk.getD l (0, 0)).2) F g' own ∧ VUp w w' own own := by
  have hm := mps_ow h.W
  obtain ⟨lv, lb, j1, j2⟩ := h.pl.lks
  obtain ⟨iv, ibb, j3, j4⟩ := h.ixs
  obtain ⟨rv, rbb, j5, j6⟩ := h.rows
  obtain ⟨lg, lcap, aa, ac, bat, c4, _, c4a, c4o⟩ := h.pl.relat hr
  obtain ⟨lva, lkcap, rfl⟩ := vown_form j2
  obtain ⟨iva, icap, rfl⟩ := vown_form j4
  obtain ⟨rg, rcap, rfl⟩ := vown_some j6 (by omega)
  have j7 : w.cell? ⟨rg, r, none⟩ = some (.map (some (rb.getD r 0))) := (j6.cellAt r (by omega)).trans (mapVs_at rb r (by omega))
  obtain ⟨es, c, hbm⟩ := (h.cr r hr).1.isMap
  have HC1 : Hid (∀ w1 c, w1.heap[rb.getD r 0]? = some (.map #[] c) → Fr (fun i => i = rb.getD r 0) w w1 → EmS w w1 vb P rb ib wb R F own r 0) := fun w1 c hb1 hf1 => by
    obtain ⟨q1, q2⟩ := h.clrRow hr hb1 hf1
    exact ⟨g, q1.congr (fun _ _ => rfl) (fun l _ => (fE_zero P R r l).symm) rfl, q2⟩
  have HEND : Hid (∀ wx, EmS w wx vb P rb ib wb R F own r P.lk.length → ∃ g', CSt wx vb P rb ib wb (clrR (fun q => q == r) R) (fun l => cont P (clrR (fun q => q == r) R) (P.lk.getD l (0, 0)).2) F g' own ∧ VUp w wx own own) := fun wx ⟨g', q1, q2⟩ => ⟨g', q1.congr (fun _ _ => rfl) (fun l hl => fE_end hQ R hr hl) rfl, q2⟩
  obtain ⟨RB, hRB⟩ : ∃ RB, rb.getD r 0 = RB := ⟨_, rfl⟩
  rw [hRB] at j7 hbm HC1
  have brr : (r : Int) < (rb.length : Int) := by omega
  have brl : (r : Int) < (P.rels.length : Int) := by omega
  have hlk := len_lk hP
  have HM : Hid _ := hm
  have HJ2 : Hid (w.ownsRow lb 163 4 (.slice lva P.lk.length lkcap) P.lk.length (lkcells P.ms P.lk)) := j2
  have HJ4 : Hid (w.ownsRow ibb 166 1 (.slice iva ib.length icap) ib.length (mapVs ib)) := j4
  have HIL : Hid (ib.length = P.lk.length) := hil
  have hna : (P.rel r).2.2.length ≤ 1000 := by
    have hnd := (hP.rat r hr).1
    have := nodup_le (m := List.range P.ms.length) hnd (fun i hi => List.mem_range.2 ((hP.rat r hr).2 i hi).1)
    rw [List.length_range] at this
    have := hP.n4
    omega
  have HIX : Hid (∀ wx k, EmS w wx vb P rb ib wb R F own r k → k < P.lk.length → ∃ es c, wx.heap[ib.getD k 0]? = some (.map es c)) := fun wx k ⟨g', q1, _⟩ hk => q1.W.m _ _ (q1.W.o k hk)
  have HUP : Hid (∀ wx k, EmS w wx vb P rb ib wb R F own r k → Fr (OwB own) w wx) := fun wx k ⟨g', _, q2⟩ => q2.fr
  have HC4O : Hid _ := c4o
  have l1 := World.block_lt_of_cell? _ _ j1
  obtain ⟨NA, hNA⟩ : ∃ NA, (P.rel r).2.2.length = NA := ⟨_, rfl⟩
  have HNA : Hid _ := hNA
  rw [hNA] at c4a
  clear h hm j2 j4 j6 hRB hrb hil c4o hNA hP hQ
  go_enter Tryz.func52, Tryz.ntmps52
  go_upto_region 1 with (refine wpList_clear_map rfl (.tmp 13) 130 rfl 110 3 Tryz.underlying130 RB c es rfl hbm ?_; intro w1 hb1 hf1)
  have hE0 := HC1.out w1 c hb1 hf1
  have k1 := (HUP.out w1 0 hE0).cell HM.out j1
  clear hb1 hf1 HC1 hbm j7 j5
  go_wp2_with fail
  go_loopw [4, 5, 20] (fun _ _ iv wr => ∃ k : Nat, k ≤ P.lk.length ∧ iv = .int .i64 k ∧ EmS w wr vb P rb ib wb R F own r k) (fun _ _ iv _ => P.lk.length - (intOf iv).toNat)
  case atStart => exact ⟨0, Nat.zero_le _, rfl, hE0⟩
  case round =>
    clear hE0 k1
    obtain ⟨k, hk, rfl, hE⟩ := hrel
    by_cases hlt : k < P.lk.length
    · have bk : (k : Int) < (P.lk.length : Int) := by omega
      have hU := HUP.out wr k hE
      obtain ⟨lkg, lcap', he⟩ := vown_some HJ2.out (by omega)
      simp only [Value.slice.injEq, true_and] at he
      obtain ⟨rfl, rfl⟩ := he
      obtain ⟨ig, icap', he⟩ := vown_some HJ4.out (by have := HIL.out; omega)
      simp only [Value.slice.injEq, true_and] at he
      obtain ⟨rfl, rfl⟩ := he
      obtain ⟨x0, x1, x2, x3⟩ := lkcells_at P.ms P.lk k hlt
      have y0 := hU.cell HM.out ((HJ2.out.cellAt (k * 4) (by omega)).trans x0)
      have y1 := hU.cell HM.out ((HJ2.out.cellAt (k * 4 + 1) (by omega)).trans x1)
      have y2 := hU.cell HM.out ((HJ2.out.cellAt (k * 4 + 2) (by omega)).trans x2)
      have y3 := hU.cell HM.out ((HJ2.out.cellAt (k * 4 + 3) (by omega)).trans x3)
      have y4 := hU.cell HM.out ((HJ4.out.cellAt k (by have := HIL.out; omega)).trans (mapVs_at ib k (by have := HIL.out; omega)))
      have y5 := hU.cell HM.out j3
      rw [HIL.out] at y5
      have y6 := hU.cell HM.out c4
      have y7 := hU.cell HM.out c4a
      have hco := hU.own HM.out HC4O.out
      obtain ⟨es1, c1, hbi⟩ := HIX.out wr k hE hlt
      have HE : Hid _ := hE
      obtain ⟨s, hsE⟩ : ∃ s, P.ms.getD (P.lk.getD k (0, 0)).2 0 &&& P.ms.getD (P.lk.getD k (0, 0)).1 0 = s := ⟨_, rfl⟩
      obtain ⟨fr, hfE⟩ : ∃ fr, P.ms.getD (P.lk.getD k (0, 0)).2 0 &&& (255 ^^^ P.ms.getD (P.lk.getD k (0, 0)).1 0) = fr := ⟨_, rfl⟩
      obtain ⟨p, hp⟩ : ∃ p, (P.lk.getD k (0, 0)).1 = p := ⟨_, rfl⟩
      obtain ⟨q, hq⟩ : ∃ q, (P.lk.getD k (0, 0)).2 = q := ⟨_, rfl⟩
      obtain ⟨b, hb⟩ : ∃ b, ib.getD k 0 = b := ⟨_, rfl⟩
      rw [hsE] at y2
      rw [hfE] at y3
      rw [hp] at y0
      rw [hq] at y1
      rw [hb] at y4 hbi
      have HQ : Hid _ := hq
      have HB : Hid _ := hb
      have lvb := World.block_lt_of_cell? _ _ y5
      have llg := World.block_lt_of_cell? _ _ y7
      have lig := World.block_lt_of_cell? _ _ y4
      have lbi := vlt_of_block hbi
      have lna : NA ≤ 1000 := by rw [← HNA.out]; exact hna
      have hFA : Fr (fun _ => False) wr ((wr.alloc (.cells #[.int .i64 p, .int .i64 q, .int .u8 s, .int .u8 fr] 163)).drew) := (Fr.alloc _ _).trans (Fr.drew _) (fun _ _ h => h)
      have hbi' : ((wr.alloc (.cells #[.int .i64 p, .int .i64 q, .int .u8 s, .int .u8 fr] 163)).drew).heap[b]? = some (.map es1 c1) := (hFA.block b lbi (fun h => h)).trans hbi
      have hco' := hFA.own (mps_none _) hco
      have HFA : Hid _ := hFA
      clear hsE hfE hp hq hb x0 x1 x2 x3 hU hE hbi hco hFA
      by_cases hqa : q ∈ (P.rel r).2.2
      · have CN := containsN_step bat _ (P.rel r).2.2 q _ hco' hna (decide_eq_true hqa)
        rw [HNA.out] at CN
        have NX : Hid (∀ w2, w2.heap[b]? = some (.map #[] c1) → Fr (fun i => i = b) ((wr.alloc (.cells #[.int .i64 p, .int .i64 q, .int .u8 s, .int .u8 fr] 163)).drew) w2 → EmS w w2 vb P rb ib wb R F own r (k + 1)) := fun w2 hb2 hf2 => by
          refine (EmS.fr HE.out HFA.out).yes hlt (by rw [HQ.out]; exact hqa) (c := c1) ?_ ?_
          · rw [HB.out]; exact hb2
          · rw [HB.out]; exact hf2
        have z4 := HFA.out.cell (mps_none _) y4
        have z5 := HFA.out.cell (mps_none _) y5
        clear hco' hqa HE
        go_wp2_with fail
        go_region_law (refine step_call rfl 81 #[.tmp 33, .tmp 35] #[28, 3] rfl enter81 #[.slice aa NA ac, .int .i64 q] (by kernel_rfl) _ CN ?_; rintro v1 w1' ⟨rfl, hw1⟩; rw [hw1]; clear hw1)
        all_goals go_wp2_with (refine wpList_clear_map rfl (.tmp 44) 166 rfl 93 86 Tryz.underlying166 b c1 es1 rfl hbi' ?_; intro w2 hb2 hf2)
        all_goals have hE2 := NX.out w2 hb2 hf2
        all_goals clear hb2 hf2
        all_goals go_wp2_with fail
        all_goals go_roundw
        all_goals first | exact ⟨k + 1, by omega, by go_num, hE2⟩ | (simp [intOf]; omega)
      · have CN := containsN_step bat _ (P.rel r).2.2 q _ hco' hna (decide_eq_false hqa)
        rw [HNA.out] at CN
        have NX : Hid (EmS w ((wr.alloc (.cells #[.int .i64 p, .int .i64 q, .int .u8 s, .int .u8 fr] 163)).drew) vb P rb ib wb R F own r (k + 1)) := (EmS.fr HE.out HFA.out).no (by rw [HQ.out]; exact hqa)
        clear hco' hqa HE
        go_wp2_with fail
        go_region_law (refine step_call rfl 81 #[.tmp 33, .tmp 35] #[28, 3] rfl enter81 #[.slice aa NA ac, .int .i64 q] (by kernel_rfl) _ CN ?_; rintro v1 w1' ⟨rfl, hw1⟩; rw [hw1]; clear hw1)
        all_goals go_wp2_with fail
        all_goals go_roundw
        all_goals first | exact ⟨k + 1, by omega, by go_num, NX.out⟩ | (simp [intOf]; omega)
    · have hkk : k = P.lk.length := by omega
      subst hkk
      have HE : Hid _ := HEND.out wr hE
      clear hE
      go_wp2_with fail
      go_end0
      exact ⟨rfl, HE.out⟩
end Go.Proofs.YtondkinefmjpjaaGreat
