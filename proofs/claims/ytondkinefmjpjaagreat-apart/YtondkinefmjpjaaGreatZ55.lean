import Derived.Test.YtondkinefmjpjaaGreatW37
import Derived.Test.YtondkinefmjpjaaGreatZ54
namespace Go.Proofs.YtondkinefmjpjaaGreat
open Go.RowKit Go.WideMaps Go.WideElems Go.Maps Go.Shelf
theorem map_ne {w : World} {vb i : Nat} {c : Array Value} {t : TypeId} {z : Nat × Nat} (hb : w.heap[vb]? = some (.cells c t z)) {es : Array MapEntry} {k : Nat} (h : w.heap[i]? = some (.map es k)) : i ≠ vb := fun e => by
  rw [e, hb] at h; cases h
theorem clr_fin {w wx : World} {vb : Nat} {P : PlanD} {rb ib : List Nat} {wb : Nat} {R R' : Nat → List Int → Int} {g g' : Nat → List Int → Option Nat} {own : Nat → Option (Nat × List Int)} (h : VSt w vb P rb ib wb R g own) (hR : RowsOk P R') (hC : CSt wx vb P rb ib wb R' (fun l => cont P R' (P.lk.getD l (0, 0)).2) (P.wor (cont P R')) g' own) (hU : VUp (w.setCell ⟨vb, 0, none⟩ (.int .i32 1)) wx own own) :
    (wx.cell? ⟨vb, 0, none⟩ = some (.int .i32 1) ∧ wx.frozen? ⟨vb, 0, none⟩ = false) ∧ VSt (wx.setCell ⟨vb, 0, none⟩ (.int .i32 0)) vb P rb ib wb R' g' own ∧ VUp w (wx.setCell ⟨vb, 0, none⟩ (.int .i32 0)) own own := by
  obtain ⟨c, hb⟩ := h.hb
  have lv := vlt_of_block hb
  have hm := mps_ow h.W
  have hno : ¬ OwB own vb := fun ⟨p, hp⟩ => by obtain ⟨es, k, e⟩ := h.W.m vb p hp; exact map_ne hb e rfl
  have hbx : wx.heap[vb]? = (w.setCell ⟨vb, 0, none⟩ (.int .i32 1)).heap[vb]? := hU.fr.block vb (by simpa using lv) hno
  have hback := lock_back hb h.h0 rfl hbx
  have hfr : Fr (OwB own) w (wx.setCell ⟨vb, 0, none⟩ (.int .i32 0)) := by
    refine ⟨by have := hU.fr.size; simpa using this, hU.fr.os, hU.fr.tape, hU.fr.output, fun i hi hn => ?_⟩
    by_cases e : i = vb
    · subst e; exact hback
    · rw [Below.heap_setCell _ _ _ _ e, hU.fr.block i (by simpa using hi) hn, Below.heap_setCell _ _ _ _ e]
  have hn : ∀ i p, own i = some p → (wx.setCell ⟨vb, 0, none⟩ (.int .i32 0)).heap[i]? = wx.heap[i]? := fun i p hp => by
    obtain ⟨es, k, e⟩ := h.W.m i p hp
    exact Below.heap_setCell _ _ _ _ (map_ne hb e)
  obtain ⟨rv, b1, r1, r2⟩ := h.rows
  obtain ⟨iv, b2, i1, i2⟩ := h.ixs
  refine ⟨lock_held hb h.h0 hbx, ⟨h.ok, h.rel, hR, ⟨c, hback.trans hb⟩, hfr.cell hm h.h0, h.pl.fr hfr hm, ⟨rv, b1, hfr.cell hm r1, hfr.own hm r2⟩, ⟨iv, b2, hfr.cell hm i1, hfr.own hm i2⟩, hfr.cell hm h.wo, h.hrb, h.hil, fun r hr => ⟨(hC.cr r hr).1.block (hn _ _ (h.cr r hr).2), (h.cr r hr).2⟩, fun l hl => (hC.A l hl).block (hn _ _ (hC.W.o l hl)) (fun k hk c hc => hn _ _ (hC.W.i l hl k hk c hc)), ⟨hC.W.o, hC.W.i, fun i p hp => ?_⟩, h.ow, hC.cw.block (hn _ _ h.ow), h.no4⟩, ⟨hfr, fun _ _ => rfl, fun _ _ _ hp => Or.inl hp, fun i es k hi => ?_⟩⟩
  · obtain ⟨es, k, e⟩ := hC.W.m i p hp
    exact ⟨es, k, (hn i p hp).trans e⟩
  · have hne := map_ne hb hi
    obtain ⟨es', k', e⟩ := hU.maps i es k (by rw [Below.heap_setCell _ _ _ _ hne]; exact hi)
    exact ⟨es', k', by rw [Below.heap_setCell _ _ _ _ hne]; exact e⟩
theorem RNew.frm {e B : Nat} {M : Nat → Prop} {w w' : World} {v : Value} {us : List Value} {l : Rws} (h : RNew e B w v us l) (hf : Fr M w w') (hm : Mps w M) : RNew e B w' v us l :=
  ⟨h.1, hf.own hm h.2.1, fun j hj => hf.own hm (h.2.2 j hj)⟩
def clrK (S : Nat → Bool) (k : Nat) (q : Nat) : Bool := decide (q < k) && S q
end Go.Proofs.YtondkinefmjpjaaGreat
namespace Go.Proofs.YtondkinefmjpjaaGreat
open Go.RowKit Go.WideMaps Go.WideElems Go.Maps Go.Shelf Go.MuLone
theorem SReads.lock {w : World} {vb : Nat} {v : Value} {ss : List ByteArray} (h : SReads w v ss) (h0 : w.cell? ⟨vb, 0, none⟩ = some (.int .i32 0)) (L : Value) : SReads (w.setCell ⟨vb, 0, none⟩ L) v ss := by
  obtain ⟨a, cap, rfl, h2⟩ := h
  refine ⟨a, cap, rfl, fun hl => ?_⟩
  obtain ⟨g, off, rfl, h3⟩ := h2 hl
  refine ⟨g, off, rfl, fun j hj => ?_⟩
  rw [World.cell?_setCell_other w ⟨vb, 0, none⟩ ⟨g, off + j, none⟩ L (fun e => ?_)]
  · exact h3 j hj
  · have := h3 j hj
    rw [← e, h0] at this
    simp at this
end Go.Proofs.YtondkinefmjpjaaGreat
