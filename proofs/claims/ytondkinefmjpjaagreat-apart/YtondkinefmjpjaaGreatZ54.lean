import Derived.Test.YtondkinefmjpjaaGreatW22
import Derived.Test.YtondkinefmjpjaaGreatW25
import Derived.Test.YtondkinefmjpjaaGreatW30
import Derived.Test.YtondkinefmjpjaaGreatW31
import Derived.Test.YtondkinefmjpjaaGreatW45
import Derived.Test.YtondkinefmjpjaaGreatW37
namespace Go.Proofs.YtondkinefmjpjaaGreat
open Go.RowKit Go.WideMaps Go.WideElems Go.Maps Go.Shelf Go.ChangeMaps
theorem live_z (N : Nat) : live N (fun _ => 0) = [] := by
  unfold live
  rw [List.filter_eq_nil_iff]
  intro a _; simp [wr_zero]
def clrR (S : Nat → Bool) (R : Nat → List Int → Int) : Nat → List Int → Int := fun r t => if S r = true then 0 else R r t
theorem clr_ok {P : PlanD} {R : Nat → List Int → Int} (h : RowsOk P R) (S : Nat → Bool) : RowsOk P (clrR S R) := by
  refine ⟨fun r hr t hne => ?_, fun r hr t => ?_, fun r hr => ?_⟩
  · unfold clrR at hne
    split at hne
    · exact absurd rfl hne
    · exact h.box r hr t hne
  · unfold clrR
    split
    · omega
    · exact h.bnd r hr t
  · by_cases e : S r = true
    · have : clrR S R r = fun _ => 0 := by funext t; simp [clrR, e]
      rw [this, live_z]; simp
    · have : clrR S R r = R r := by funext t; simp [clrR, e]
      rw [this]; exact h.few r hr
theorem clr_cont (P : PlanD) (R : Nat → List Int → Int) (S : Nat → Bool) (i : Nat) : cont P (clrR S R) i = if S (P.relOf i) = true then fun _ => 0 else cont P R i := by
  funext a
  by_cases e : S (P.relOf i) = true
  · rw [if_pos e]
    unfold cont
    split
    · exact S_zero fun t _ => by simp [clrR, e]
    · rfl
  · rw [if_neg e]
    unfold cont
    split
    · exact S_congr fun t _ => by simp [clrR, e]
    · rfl
theorem clr_wor {P : PlanD} {R : Nat → List Int → Int} {S : Nat → Bool} {i : Nat} (hi : i < P.ms.length) (hS : S (P.relOf i) = true) (h : List Int) : P.wor (cont P (clrR S R)) h = 0 := by
  refine Classical.byContradiction fun hne => ?_
  obtain ⟨y, _, _, _, hA⟩ := wor_supp hne
  refine hA (P.ms.getD i 0, cont P (clrR S R) i) (List.mem_map.2 ⟨i, List.mem_range.2 hi, rfl⟩) ?_
  show cont P (clrR S R) i _ = 0
  rw [clr_cont, if_pos hS]
theorem owns_clr {w : World} {b c : Nat} (h : w.heap[b]? = some (.map #[] c)) (k : TypeId) (R : Value → Option (DataW Unit × List MemPlace)) : w.ownsMap Tryz.prog k R b 0 (.map []) :=
  ⟨#[], c, h, ⟨by simp, MapKept.stamped_empty c, by simp⟩, Nat.le_refl _, rfl⟩
theorem cf_clr {w : World} {b c : Nat} (h : w.heap[b]? = some (.map #[] c)) (k N : Nat) : CF k N w b (fun _ => 0) := ⟨0, .map [], owns_clr h k _, rep_empty N⟩
end Go.Proofs.YtondkinefmjpjaaGreat
namespace Go.Proofs.YtondkinefmjpjaaGreat
open Go.RowKit Go.WideMaps Go.WideElems Go.Maps Go.Shelf
structure CSt (w : World) (vb : Nat) (P : PlanD) (rb ib : List Nat) (wb : Nat) (R f : Nat → List Int → Int) (F : List Int → Int) (g : Nat → List Int → Option Nat) (own : Nat → Option (Nat × List Int)) : Prop where
  pl : PlanSt w vb P
  rows : ∃ rv base, w.cell? ⟨vb, 8, none⟩ = some rv ∧ w.ownsRow base 130 1 rv rb.length (mapVs rb)
  ixs : ∃ iv base, w.cell? ⟨vb, 9, none⟩ = some iv ∧ w.ownsRow base 166 1 iv ib.length (mapVs ib)
  wo : w.cell? ⟨vb, 10, none⟩ = some (.map (some wb))
  cr : ∀ r, r < P.rels.length → CF 110 3 w (rb.getD r 0) (R r) ∧ own (rb.getD r 0) = some (1, [(r : Int)])
  A : IxAll w P.ms P.lk ib f g
  W : Own w ib P.lk.length g own
  ow : own wb = some (0, [])
  cw : CF 93 6 w wb F
theorem CSt.fr {w w' : World} {vb : Nat} {P : PlanD} {rb ib : List Nat} {wb : Nat} {R f : Nat → List Int → Int} {F : List Int → Int} {g : Nat → List Int → Option Nat} {own : Nat → Option (Nat × List Int)} (h : CSt w vb P rb ib wb R f F g own) (hf : Fr (fun _ => False) w w') : CSt w' vb P rb ib wb R f F g own := by
  obtain ⟨rv, b1, r1, r2⟩ := h.rows
  obtain ⟨iv, b2, i1, i2⟩ := h.ixs
  exact ⟨h.pl.fr hf (mps_none _), ⟨rv, b1, hf.cell (mps_none _) r1, hf.own (mps_none _) r2⟩, ⟨iv, b2, hf.cell (mps_none _) i1, hf.own (mps_none _) i2⟩, hf.cell (mps_none _) h.wo, fun r hr => ⟨(h.cr r hr).1.fr hf (fun h => h), (h.cr r hr).2⟩, h.A.fr hf, h.W.fr hf, h.ow, h.cw.fr hf (fun h => h)⟩
theorem CSt.congr {w : World} {vb : Nat} {P : PlanD} {rb ib : List Nat} {wb : Nat} {R R' f f' : Nat → List Int → Int} {F F' : List Int → Int} {g : Nat → List Int → Option Nat} {own : Nat → Option (Nat × List Int)} (h : CSt w vb P rb ib wb R f F g own) (hR : ∀ r, r < P.rels.length → R r = R' r) (hf : ∀ l, l < P.lk.length → f l = f' l) (hF : F = F') : CSt w vb P rb ib wb R' f' F' g own :=
  ⟨h.pl, h.rows, h.ixs, h.wo, fun r hr => by rw [← hR r hr]; exact h.cr r hr, fun l hl => by rw [← hf l hl]; exact h.A l hl, h.W, h.ow, hF ▸ h.cw⟩
theorem CSt.one {w w' : World} {vb : Nat} {P : PlanD} {rb ib : List Nat} {wb : Nat} {R f : Nat → List Int → Int} {F : List Int → Int} {g : Nat → List Int → Option Nat} {own : Nat → Option (Nat × List Int)} (h : CSt w vb P rb ib wb R f F g own) {b c : Nat} {q : Nat × List Int} (hq : own b = some q) (hb : w'.heap[b]? = some (.map #[] c)) (hf : Fr (fun i => i = b) w w') :
    PlanSt w' vb P ∧ (∃ rv base, w'.cell? ⟨vb, 8, none⟩ = some rv ∧ w'.ownsRow base 130 1 rv rb.length (mapVs rb)) ∧ (∃ iv base, w'.cell? ⟨vb, 9, none⟩ = some iv ∧ w'.ownsRow base 166 1 iv ib.length (mapVs ib)) ∧ w'.cell? ⟨vb, 10, none⟩ = some (.map (some wb)) ∧ VUp w w' own own ∧ Own w' ib P.lk.length g own ∧ ∀ i p, own i = some p → p ≠ q → w'.heap[i]? = w.heap[i]? := by
  have hm : Mps w (fun i => i = b) := fun i _ e => by rw [e]; exact h.W.m b q hq
  have hu : VUp w w' own own := VUp.of_maps hf (fun i _ e => ⟨q, by rw [e]; exact hq⟩) (fun i _ e => ⟨#[], c, by rw [e]; exact hb⟩)
  obtain ⟨rv, b1, r1, r2⟩ := h.rows
  obtain ⟨iv, b2, i1, i2⟩ := h.ixs
  refine ⟨h.pl.fr hf hm, ⟨rv, b1, hf.cell hm r1, hf.own hm r2⟩, ⟨iv, b2, hf.cell hm i1, hf.own hm i2⟩, hf.cell hm h.wo, hu, h.W.up hu, fun i p hp hne => hf.block i ?_ (fun e => hne ?_)⟩
  · obtain ⟨es, c, e⟩ := h.W.m i p hp; exact vlt_of_block e
  · rw [e, hq] at hp; exact (Option.some.inj hp).symm
theorem CSt.clrWo {w w' : World} {vb : Nat} {P : PlanD} {rb ib : List Nat} {wb : Nat} {R f : Nat → List Int → Int} {F : List Int → Int} {g : Nat → List Int → Option Nat} {own : Nat → Option (Nat × List Int)} (h : CSt w vb P rb ib wb R f F g own) {c : Nat} (hb : w'.heap[wb]? = some (.map #[] c)) (hf : Fr (fun i => i = wb) w w') :
    CSt w' vb P rb ib wb R f (fun _ => 0) g own ∧ VUp w w' own own := by
  obtain ⟨p1, p2, p3, p4, p5, p6, p7⟩ := h.one h.ow hb hf
  exact ⟨⟨p1, p2, p3, p4, fun q hq => ⟨(h.cr q hq).1.block (p7 _ _ (h.cr q hq).2 (by simp)), (h.cr q hq).2⟩, fun m hm => (h.A m hm).block (p7 _ _ (h.W.o m hm) (by simp)) (fun k hk c hc => p7 _ _ (h.W.i m hm k hk c hc) (by simp)), p6, h.ow, cf_clr hb 93 6⟩, p5⟩
def fE (P : PlanD) (R : Nat → List Int → Int) (r j l : Nat) : List Int → Int := if l < j ∧ (P.lk.getD l (0, 0)).2 ∈ (P.rel r).2.2 then fun _ => 0 else cont P R (P.lk.getD l (0, 0)).2
theorem fE_no {P : PlanD} {R : Nat → List Int → Int} {r j : Nat} (h : ¬ (P.lk.getD j (0, 0)).2 ∈ (P.rel r).2.2) (l : Nat) : fE P R r j l = fE P R r (j + 1) l := by
  unfold fE
  by_cases e : l = j
  · subst e; rw [if_neg (fun c => h c.2), if_neg (fun c => h c.2)]
  · by_cases c : l < j
    · simp only [c, show l < j + 1 by omega]
    · simp only [c, show ¬ l < j + 1 by omega]
end Go.Proofs.YtondkinefmjpjaaGreat
namespace Go.Proofs.YtondkinefmjpjaaGreat
open Go.RowKit
def SReads (w : World) (v : Value) (ss : List ByteArray) : Prop := ∃ a cap, v = .slice a ss.length cap ∧ (0 < ss.length → ∃ g off, a = some ⟨g, off, none⟩ ∧ ∀ j, j < ss.length → w.cell? ⟨g, off + j, none⟩ = some (.string (ss.getD j ByteArray.empty)))
theorem SReads.fr {M : Nat → Prop} {w w' : World} {v : Value} {ss : List ByteArray} (h : SReads w v ss) (hf : Fr M w w') (hm : Mps w M) : SReads w' v ss := by
  obtain ⟨a, cap, rfl, h2⟩ := h
  refine ⟨a, cap, rfl, fun hl => ?_⟩
  obtain ⟨g, off, rfl, h3⟩ := h2 hl
  exact ⟨g, off, rfl, fun j hj => hf.cell hm (h3 j hj)⟩
end Go.Proofs.YtondkinefmjpjaaGreat
namespace Go.Proofs.YtondkinefmjpjaaGreat
open Go.RowKit Go.WideMaps Go.WideElems Go.Maps Go.Shelf
def EmS (w wr : World) (vb : Nat) (P : PlanD) (rb ib : List Nat) (wb : Nat) (R : Nat → List Int → Int) (F : List Int → Int) (own : Nat → Option (Nat × List Int)) (r k : Nat) : Prop :=
  ∃ g, CSt wr vb P rb ib wb (clrR (fun q => q == r) R) (fE P R r k) F g own ∧ VUp w wr own own
theorem EmS.fr {w wr wx : World} {vb : Nat} {P : PlanD} {rb ib : List Nat} {wb : Nat} {R : Nat → List Int → Int} {F : List Int → Int} {own : Nat → Option (Nat × List Int)} {r k : Nat} (h : EmS w wr vb P rb ib wb R F own r k) (hf : Fr (fun _ => False) wr wx) : EmS w wx vb P rb ib wb R F own r k := by
  obtain ⟨g, h1, h2⟩ := h
  exact ⟨g, h1.fr hf, h2.trans (VUp.of_fr own hf)⟩
theorem EmS.no {w wr : World} {vb : Nat} {P : PlanD} {rb ib : List Nat} {wb : Nat} {R : Nat → List Int → Int} {F : List Int → Int} {own : Nat → Option (Nat × List Int)} {r k : Nat} (h : EmS w wr vb P rb ib wb R F own r k) (hm : ¬ (P.lk.getD k (0, 0)).2 ∈ (P.rel r).2.2) : EmS w wr vb P rb ib wb R F own r (k + 1) := by
  obtain ⟨g, h1, h2⟩ := h
  exact ⟨g, h1.congr (fun _ _ => rfl) (fun l _ => fE_no hm l) rfl, h2⟩
end Go.Proofs.YtondkinefmjpjaaGreat
namespace Go.Proofs.YtondkinefmjpjaaGreat
open Go.RowKit Go.WideMaps Go.WideElems Go.Maps Go.Shelf
theorem map_ne {w : World} {vb i : Nat} {c : Array Value} {t : TypeId} {z : Nat × Nat} (hb : w.heap[vb]? = some (.cells c t z)) {es : Array MapEntry} {k : Nat} (h : w.heap[i]? = some (.map es k)) : i ≠ vb := fun e => by
  rw [e, hb] at h; cases h
theorem clr_fin {w wx : World} {vb : Nat} {P : PlanD} {rb ib : List Nat} {wb : Nat} {R R' : Nat → List Int → Int} {g g' : Nat → List Int → Option Nat} {own : Nat → Option (Nat × List Int)} (h : VSt w vb P rb ib wb R g own) (hR : RowsOk P R') (hC : CSt wx vb P rb ib wb R' (fun l => cont P R' (P.lk.getD l (0, 0)).2) (P.wor (cont P R')) g' own) (hU : VUp (w.setCell ⟨vb, 0, none⟩ (.int .i32 1)) wx own own) :
    (wx.cell? ⟨vb, 0, none⟩ = some (.int .i32 1) ∧ wx.frozen? ⟨vb, 0, none⟩ = false) ∧ VSt (wx.setCell ⟨vb, 0, none⟩ (.int .i32 0)) vb P rb ib wb R' g' own ∧ VUp w (wx.setCell ⟨vb, 0, none⟩ (.int .i32 0)) own own := by
  obtain ⟨c, hb⟩ := h.hb
  have lv := vlt_of_block hb
  have hm := mps_ow h.W
  have hno : ¬ OwB own vb := fun ⟨p, hp⟩ => by obtain ⟨es, k, e⟩ := h.W.m vb p hp; exact map_ne hb e rfl
  have hbx : wx.heap[vb]? = (w.setCell ⟨vb, 0, none⟩ (.int .i32 1)).heap[vb]? := hU.fr.block vb (by simpa using lv) hno
  have hback := lock_back hb h.h0 rfl hbx
  have hfr : Fr (OwB own) w (wx.setCell ⟨vb, 0, none⟩ (.int .i32 0)) := by
    refine ⟨by have := hU.fr.size; simpa using this, hU.fr.os, hU.fr.tape, hU.fr.output, fun i hi hn => ?_⟩
    by_cases e : i = vb
    · subst e; exact hback
    · rw [Below.heap_setCell _ _ _ _ e, hU.fr.block i (by simpa using hi) hn, Below.heap_setCell _ _ _ _ e]
  have hn : ∀ i p, own i = some p → (wx.setCell ⟨vb, 0, none⟩ (.int .i32 0)).heap[i]? = wx.heap[i]? := fun i p hp => by
    obtain ⟨es, k, e⟩ := h.W.m i p hp
    exact Below.heap_setCell _ _ _ _ (map_ne hb e)
  obtain ⟨rv, b1, r1, r2⟩ := h.rows
  obtain ⟨iv, b2, i1, i2⟩ := h.ixs
  refine ⟨lock_held hb h.h0 hbx, ⟨h.ok, h.rel, hR, ⟨c, hback.trans hb⟩, hfr.cell hm h.h0, h.pl.fr hfr hm, ⟨rv, b1, hfr.cell hm r1, hfr.own hm r2⟩, ⟨iv, b2, hfr.cell hm i1, hfr.own hm i2⟩, hfr.cell hm h.wo, h.hrb, h.hil, fun r hr => ⟨(hC.cr r hr).1.block (hn _ _ (h.cr r hr).2), (h.cr r hr).2⟩, fun l hl => (hC.A l hl).block (hn _ _ (hC.W.o l hl)) (fun k hk c hc => hn _ _ (hC.W.i l hl k hk c hc)), ⟨hC.W.o, hC.W.i, fun i p hp => ?_⟩, h.ow, hC.cw.block (hn _ _ h.ow), h.no4⟩, ⟨hfr, fun _ _ => rfl, fun _ _ _ hp => Or.inl hp, fun i es k hi => ?_⟩⟩
  · obtain ⟨es, k, e⟩ := hC.W.m i p hp
    exact ⟨es, k, (hn i p hp).trans e⟩
  · have hne := map_ne hb hi
    obtain ⟨es', k', e⟩ := hU.maps i es k (by rw [Below.heap_setCell _ _ _ _ hne]; exact hi)
    exact ⟨es', k', by rw [Below.heap_setCell _ _ _ _ hne]; exact e⟩
theorem RNew.frm {e B : Nat} {M : Nat → Prop} {w w' : World} {v : Value} {us : List Value} {l : Rws} (h : RNew e B w v us l) (hf : Fr M w w') (hm : Mps w M) : RNew e B w' v us l :=
  ⟨h.1, hf.own hm h.2.1, fun j hj => hf.own hm (h.2.2 j hj)⟩
def clrK (S : Nat → Bool) (k : Nat) (q : Nat) : Bool := decide (q < k) && S q
end Go.Proofs.YtondkinefmjpjaaGreat
namespace Go.Proofs.YtondkinefmjpjaaGreat
open Go.RowKit Go.WideMaps Go.WideElems Go.Maps Go.Shelf Go.MuLone
theorem SReads.lock {w : World} {vb : Nat} {v : Value} {ss : List ByteArray} (h : SReads w v ss) (h0 : w.cell? ⟨vb, 0, none⟩ = some (.int .i32 0)) (L : Value) : SReads (w.setCell ⟨vb, 0, none⟩ L) v ss := by
  obtain ⟨a, cap, rfl, h2⟩ := h
  refine ⟨a, cap, rfl, fun hl => ?_⟩
  obtain ⟨g, off, rfl, h3⟩ := h2 hl
  refine ⟨g, off, rfl, fun j hj => ?_⟩
  rw [World.cell?_setCell_other w ⟨vb, 0, none⟩ ⟨g, off + j, none⟩ L (fun e => ?_)]
  · exact h3 j hj
  · have := h3 j hj
    rw [← e, h0] at this
    simp at this
end Go.Proofs.YtondkinefmjpjaaGreat
namespace Go.Proofs.YtondkinefmjpjaaGreat
open Go.RowKit Go.WideMaps Go.WideElems Go.Maps Go.Shelf Go.MuLone
def ClS (W wx : World) (vb : Nat) (P : PlanD) (rb ib : List Nat) (wb : Nat) (R : Nat → List Int → Int) (S : Nat → Bool) (own : Nat → Option (Nat × List Int)) (k : Nat) : Prop :=
  ∃ g, CSt wx vb P rb ib wb (clrR (clrK S k) R) (fun l => cont P (clrR (clrK S k) R) (P.lk.getD l (0, 0)).2) (P.wor (cont P R)) g own ∧ VUp W wx own own
theorem ClS.fr {W wx wy : World} {vb : Nat} {P : PlanD} {rb ib : List Nat} {wb : Nat} {R : Nat → List Int → Int} {S : Nat → Bool} {own : Nat → Option (Nat × List Int)} {k : Nat} (h : ClS W wx vb P rb ib wb R S own k) (hf : Fr (fun _ => False) wx wy) : ClS W wy vb P rb ib wb R S own k := by
  obtain ⟨g, h1, h2⟩ := h
  exact ⟨g, h1.fr hf, h2.trans (VUp.of_fr own hf)⟩
theorem clr_all {P : PlanD} {R : Nat → List Int → Int} (S : Nat → Bool) {r : Nat} (hr : r < P.rels.length) : clrR (clrK S P.rels.length) R r = clrR S R r := by
  funext t; simp [clrR, clrK, hr]
theorem cont_congr {P : PlanD} (hQ : RelOk P) {R R' : Nat → List Int → Int} (h : ∀ r, r < P.rels.length → R r = R' r) (i : Nat) : cont P R i = cont P R' i := by
  funext a
  unfold cont
  split
  · rename_i hi
    refine S_congr fun t _ => ?_
    rw [h _ (hQ.lt i hi)]
  · rfl
theorem ClS.done {w W wx wy : World} {vb : Nat} {P : PlanD} {rb ib : List Nat} {wb c : Nat} {R : Nat → List Int → Int} {S : Nat → Bool} {g : Nat → List Int → Option Nat} {own : Nat → Option (Nat × List Int)} (h : VSt w vb P rb ib wb R g own) (hW : w.setCell ⟨vb, 0, none⟩ (.int .i32 1) = W) (hw0 : ∀ a, P.wor (cont P (clrR S R)) a = 0) (hC : ClS W wx vb P rb ib wb R S own P.rels.length) (hb : wy.heap[wb]? = some (.map #[] c)) (hf : Fr (fun i => i = wb) wx wy) :
    (wy.cell? ⟨vb, 0, none⟩ = some (.int .i32 1) ∧ wy.frozen? ⟨vb, 0, none⟩ = false) ∧ ∃ g', VSt (wy.setCell ⟨vb, 0, none⟩ (.int .i32 0)) vb P rb ib wb (clrR S R) g' own ∧ VUp w (wy.setCell ⟨vb, 0, none⟩ (.int .i32 0)) own own := by
  obtain ⟨g', q1, q2⟩ := hC
  obtain ⟨p1, p2⟩ := q1.clrWo hb hf
  subst hW
  have hR : ∀ r, r < P.rels.length → clrR (clrK S P.rels.length) R r = clrR S R r := fun r hr => clr_all S hr
  have := clr_fin h (clr_ok h.rok S) (p1.congr hR (fun l _ => cont_congr h.rel hR _) (by funext a; exact (hw0 a).symm)) (q2.trans p2)
  exact ⟨this.1, g', this.2⟩
end Go.Proofs.YtondkinefmjpjaaGreat
