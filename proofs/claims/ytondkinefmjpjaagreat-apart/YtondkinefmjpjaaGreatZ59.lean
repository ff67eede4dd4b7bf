import Derived.Test.YtondkinefmjpjaaGreatW06
import Derived.Test.YtondkinefmjpjaaGreatW21
import Derived.Test.YtondkinefmjpjaaGreatW22
import Derived.Test.YtondkinefmjpjaaGreatW24
import Derived.Test.YtondkinefmjpjaaGreatW31
import Derived.Test.YtondkinefmjpjaaGreatW32
import Derived.Test.YtondkinefmjpjaaGreatZ50
import Derived.Test.YtondkinefmjpjaaGreatZ54
namespace Go.Proofs.YtondkinefmjpjaaGreat
def OV (nv : Nat) (o : List Int) (V : Nat) (y : List Int) : Prop := o.length = nv ∧ ∀ j, j < nv → o.getD j 0 = if V.testBit j = true then y.getD j 0 else -1
theorem getD_put (l : List Int) (n j : Nat) (v : Int) : (l.set n v).getD j 0 = if n = j ∧ n < l.length then v else l.getD j 0 := by
  simp only [List.getD_eq_getElem?_getD, List.getElem?_set]
  by_cases e : n = j
  · subst e
    by_cases h : n < l.length
    · simp [h]
    · simp [h]
  · simp [e]
theorem bit_one (V v j : Nat) : (V ||| 2 ^ v).testBit j = (V.testBit j || decide (v = j)) := by
  rw [Nat.testBit_or, Nat.testBit_two_pow]
theorem OV.more {nv : Nat} {o : List Int} {V : Nat} {y : List Int} (h : OV nv o V y) {v : Nat} (hv : V.testBit v = true) : OV nv o (V ||| 2 ^ v) y := by
  refine ⟨h.1, fun j hj => ?_⟩
  rw [h.2 j hj, bit_one]
  by_cases e : v = j
  · subst e; simp [hv]
  · simp [e]
theorem OV.put {nv : Nat} {o : List Int} {V : Nat} {y : List Int} (h : OV nv o V y) {v : Nat} (hv : v < nv) : OV nv (o.set v (y.getD v 0)) (V ||| 2 ^ v) y := by
  refine ⟨by simp [h.1], fun j hj => ?_⟩
  rw [getD_put, bit_one]
  by_cases e : v = j
  · subst e; simp [h.1, hv]
  · simp only [e, false_and, if_false, decide_false, Bool.or_false]; exact h.2 j hj
end Go.Proofs.YtondkinefmjpjaaGreat
namespace Go.Proofs.YtondkinefmjpjaaGreat
open Go.RowKit
def SC (xs ys : List Int) (z : Int) : Prop := (z < 0 ↔ cmpL xs ys < 0) ∧ (z = 0 ↔ cmpL xs ys = 0)
end Go.Proofs.YtondkinefmjpjaaGreat
namespace Go.Proofs.YtondkinefmjpjaaGreat
open Go.RowKit
def UB (B : Nat) (u : Value) : Prop := ∀ a n c, u = .slice (some a) n c → 0 < n → B ≤ a.block
def RReadB (B : Nat) (w : World) (v : Value) (l : Rws) : Prop :=
  ∃ a cap, v = .slice a l.length cap ∧ (0 < l.length → ∃ g off, a = some ⟨g, off, none⟩ ∧ B ≤ g ∧ ∀ j, j < l.length → (∃ u, w.cell? ⟨g, off + j * 2, none⟩ = some u ∧ Reads w u (rAt l j).1 ∧ UB B u) ∧ w.cell? ⟨g, off + j * 2 + 1, none⟩ = some (.int .i64 (rAt l j).2))
theorem RReadB.read {B : Nat} {w : World} {v : Value} {l : Rws} (h : RReadB B w v l) : RRead w v l := by
  obtain ⟨a, cap, rfl, h2⟩ := h
  refine ⟨a, cap, rfl, fun hl => ?_⟩
  obtain ⟨g, off, rfl, _, h3⟩ := h2 hl
  exact ⟨g, off, rfl, fun j hj => let ⟨⟨u, c1, c2, _⟩, c3⟩ := h3 j hj; ⟨⟨u, c1, c2⟩, c3⟩⟩
theorem RReadB.nil (B : Nat) (w : World) : RReadB B w (.slice none 0 0) [] := ⟨none, 0, rfl, fun h => absurd h (by simp)⟩
theorem RReadB.fr {B : Nat} {M : Nat → Prop} {w w' : World} {v : Value} {l : Rws} (h : RReadB B w v l) (hf : Fr M w w') (hm : Mps w M) : RReadB B w' v l := by
  obtain ⟨a, cap, rfl, h2⟩ := h
  refine ⟨a, cap, rfl, fun hl => ?_⟩
  obtain ⟨g, off, rfl, hB, h3⟩ := h2 hl
  refine ⟨g, off, rfl, hB, fun j hj => ?_⟩
  obtain ⟨⟨u, c1, ⟨a2, cap2, e, c2⟩, c4⟩, c3⟩ := h3 j hj
  refine ⟨⟨u, hf.cell hm c1, ⟨a2, cap2, e, fun hl2 => ?_⟩, c4⟩, hf.cell hm c3⟩
  obtain ⟨g2, o2, e2, h4⟩ := c2 hl2
  exact ⟨g2, o2, e2, fun k hk => hf.cell hm (h4 k hk)⟩
theorem RReadB.below {B : Nat} {w w' : World} {v : Value} {l : Rws} (h : RReadB B w v l) (hb : Below w.heap.size w w') : RReadB B w' v l := h.fr (Fr.of_below (M := fun _ => False) hb) (mps_none _)
theorem RReadB.set {B : Nat} {w : World} {v : Value} {l : Rws} (h : RReadB B w v l) {p : Addr} (hp : p.block < B) (x : Value) : RReadB B (w.setCell p x) v l := by
  have hc : ∀ (q : Addr) (y : Value), B ≤ q.block → w.cell? q = some y → (w.setCell p x).cell? q = some y := fun q y hq e => cell_of_block e (Below.heap_setCell _ _ _ _ (by omega))
  obtain ⟨a, cap, rfl, h2⟩ := h
  refine ⟨a, cap, rfl, fun hl => ?_⟩
  obtain ⟨g, off, rfl, hB, h3⟩ := h2 hl
  refine ⟨g, off, rfl, hB, fun j hj => ?_⟩
  obtain ⟨⟨u, c1, ⟨a2, cap2, e, c2⟩, c4⟩, c3⟩ := h3 j hj
  refine ⟨⟨u, hc _ _ hB c1, ⟨a2, cap2, e, fun hl2 => ?_⟩, c4⟩, hc _ _ hB c3⟩
  obtain ⟨g2, o2, rfl, h4⟩ := c2 hl2
  have hB2 : B ≤ g2 := c4 ⟨g2, o2, none⟩ _ _ e hl2
  exact ⟨g2, o2, rfl, fun k hk => hc _ _ hB2 (h4 k hk)⟩
structure OutS (B : Nat) (w wr : World) (v : Value) (us : List Value) (l : Rws) : Prop where
  len : us.length = l.length
  row : wr.ownsRow w.heap.size 103 2 v l.length (rcells us l)
  val : ∀ j, j < l.length → Reads w (us.getD j undef) (rAt l j).1 ∧ UB B (us.getD j undef)
  blw : Below w.heap.size w wr
theorem OutS.nil (B : Nat) (w : World) : OutS B w w (.slice none 0 0) [] [] := ⟨rfl, World.ownsRow_nil _ _ _ _, fun j hj => absurd hj (by simp), Below.refl _ _⟩
theorem OutS.below {B : Nat} {w wr wx : World} {v : Value} {us : List Value} {l : Rws} (h : OutS B w wr v us l) (hb : Below wr.heap.size wr wx) : OutS B w wx v us l :=
  ⟨h.len, vown_below h.row hb, h.val, h.blw.trans (hb.mono h.blw.size)⟩
theorem OutS.snoc {B : Nat} {w wr wa w6 : World} {v v6 : Value} {us : List Value} {l : Rws} {u : Value} {V : List Int} {c : Int} {m : Nat} (h : OutS B w wr v us l) (hb : Below wr.heap.size wr wa) (hu : Reads w u V ∧ UB B u) (hown : w6.ownsRow w.heap.size 103 2 v6 m (rcells us l ++ [u, .int .i64 c])) (hm : m = l.length + 1) (hg : wa.grownBy w6 v.ownBlock) : OutS B w w6 v6 (us ++ [u]) (l ++ [(V, c)]) := by
  subst hm
  refine ⟨by simp [h.len], ?_, fun j hj => ?_, (h.blw.trans (hb.mono h.blw.size)).grown hg (Nat.le_trans h.blw.size hb.size) (fun k hk => (h.row.lt k hk).1)⟩
  · rw [rcells_snoc us l h.len, List.length_append]; exact hown
  · by_cases hl : j < l.length
    · rw [rAt_snoc l (V, c) j hl]
      have : (us ++ [u]).getD j undef = us.getD j undef := by simp [List.getD, List.getElem?_append_left, h.len, hl]
      rw [this]; exact h.val j hl
    · have hjl : j = l.length := by simp at hj; omega
      subst hjl
      rw [rAt_last]
      have : (us ++ [u]).getD l.length undef = u := by rw [← h.len]; simp [List.getD]
      rw [this]; exact hu
theorem OutS.read {B : Nat} {w wr : World} {v : Value} {us : List Value} {l : Rws} (h : OutS B w wr v us l) (hB : B ≤ w.heap.size) : RReadB B wr v l := by
  obtain ⟨a, cap, rfl⟩ := vown_form h.row
  refine ⟨a, cap, rfl, fun hl => ?_⟩
  obtain ⟨g, cap', he⟩ := vown_some h.row hl
  simp only [Value.slice.injEq, true_and] at he
  obtain ⟨rfl, rfl⟩ := he
  refine ⟨g, 0, rfl, Nat.le_trans hB (h.row.lt g rfl).1, fun j hj => ?_⟩
  have e := rcells_at us l h.len j hj
  refine ⟨⟨us.getD j undef, ?_, (h.val j hj).1.below h.blw, (h.val j hj).2⟩, ?_⟩
  · rw [Nat.zero_add, h.row.cellAt (j * 2) (by omega)]; exact e.1
  · rw [Nat.zero_add, h.row.cellAt (j * 2 + 1) (by omega)]; exact e.2
theorem take_at (l : Rws) (i : Nat) (h : i < l.length) : l.take (i + 1) = l.take i ++ [rAt l i] := by
  have : rAt l i = l[i] := by unfold rAt; rw [List.getD_eq_getElem?_getD, List.getElem?_eq_getElem h]; rfl
  rw [List.take_succ_eq_append_getElem h, this]
end Go.Proofs.YtondkinefmjpjaaGreat
namespace Go.Proofs.YtondkinefmjpjaaGreat
open Go.RowKit
theorem i64s_at (o : List Int) (k : Nat) (hk : k < o.length) : (i64s o)[k]? = some (.int .i64 (o.getD k 0)) := by
  unfold i64s
  rw [List.getElem?_map, List.getElem?_eq_getElem hk, List.getD_eq_getElem?_getD, List.getElem?_eq_getElem hk]; rfl
theorem i64s_set (o : List Int) (k : Nat) (n : Int) : (i64s o).set k (.int .i64 n) = i64s (o.set k n) := by
  unfold i64s; rw [List.map_set]
structure FS (w wr : World) (OB : Nat) (rel : ByteArray) (tv uv : Value) (at_ by_ : Int) (o : List Int) : Prop where
  row : wr.ownsRow OB 3 1 (.slice (some ⟨OB, 0, none⟩) o.length o.length) o.length (i64s o)
  blw : Below w.heap.size w wr
  b0 : wr.heap[w.heap.size]? = some (.cells #[.string rel, tv, .int .i64 at_] 138 (0, 0))
  b1 : wr.heap[w.heap.size + 1]? = some (.cells #[uv, .int .i64 by_] 103 (0, 0))
theorem FS.set {w wr : World} {OB : Nat} {rel : ByteArray} {tv uv : Value} {at_ by_ : Int} {o : List Int} (h : FS w wr OB rel tv uv at_ by_ o) (hOB : w.heap.size + 1 < OB) (k : Nat) (n : Int) : FS w (wr.setCell ⟨OB, k, none⟩ (.int .i64 n)) OB rel tv uv at_ by_ (o.set k n) := by
  refine ⟨?_, h.blw.setCell (p := ⟨OB, k, none⟩) (show w.heap.size ≤ OB by omega) _, ?_, ?_⟩
  · rw [List.length_set, ← i64s_set]; exact (h.row.stored k (.int .i64 n)).1
  · rw [Below.heap_setCell _ _ _ _ (show w.heap.size ≠ OB by omega)]; exact h.b0
  · rw [Below.heap_setCell _ _ _ _ (show w.heap.size + 1 ≠ OB by omega)]; exact h.b1
theorem FS.alloc {w wr : World} {OB : Nat} {rel : ByteArray} {tv uv : Value} {at_ by_ : Int} {o : List Int} (h : FS w wr OB rel tv uv at_ by_ o) (x : Obj) : FS w (wr.alloc x) OB rel tv uv at_ by_ o :=
  ⟨h.row.alloc _, h.blw.alloc h.blw.size _, (Below.heap_alloc _ _ _ (vlt_of_block h.b0)).trans h.b0, (Below.heap_alloc _ _ _ (vlt_of_block h.b1)).trans h.b1⟩
end Go.Proofs.YtondkinefmjpjaaGreat
namespace Go.Proofs.YtondkinefmjpjaaGreat
open Go.RowKit
set_option maxHeartbeats 2000000 in
set_option maxRecDepth 100000 in
theorem cloneI_any (g n cap : Nat) (xs : List Int) (w : World) (hl : xs.length = n) (hn : n ≤ 100) (hc : ∀ j, j < n → w.cell? ⟨g, j, none⟩ = some (.int .i64 (xs.getD j 0))) :
    Calls Tryz.prog 60 #[.slice (some ⟨g, 0, none⟩) n cap] w fun e w' => ∃ v, e = .returned v ∧ ∃ ua uc, v = .slice ua n uc ∧ w'.ownsRow w.heap.size 3 1 (.slice ua n uc) n (i64s xs) ∧ Below w.heap.size w w' := by
  obtain ⟨i0, hi, hz0, hz1, hz2⟩ := info_parts Tryz.info3
  have HI : Hid _ := hi
  have HZ0 : Hid _ := hz0
  have HZ1 : Hid _ := hz1
  have HZ2 : Hid _ := hz2
  have HC : Hid (∀ j u, (i64s xs)[j]? = some u → (w.alloc (.cells #[] 3)).cell? ((⟨g, 0, none⟩ : Addr).add j) = some u) := fun j u hj => by
    have hjl : j < xs.length := by
      have := (List.getElem?_eq_some_iff.1 hj).1
      simpa [i64s] using this
    rw [i64s_at xs j hjl] at hj
    cases hj
    have h1 := hc j (by omega)
    have h2 : (w.alloc (.cells #[] 3)).cell? ⟨g, j, none⟩ = some (.int .i64 (xs.getD j 0)) := cell_of_block h1 (Below.heap_alloc _ _ _ (World.block_lt_of_cell? _ _ h1))
    by_cases hj0 : j = 0
    · subst hj0; simpa [Addr.add] using h2
    · simpa [Addr.add, hj0] using h2
  have HL : Hid (xs.length = n) := hl
  have HO : Hid ((w.alloc (.cells #[] 3)).ownsRow w.heap.size 3 1 (.slice (some ⟨w.heap.size, 0, none⟩) 0 0) 0 []) := ⟨rfl, .inr ⟨w.heap.size, 0, #[], rfl, Nat.le_refl _, vheap_alloc_new _ _, Nat.le_refl _, by unfold maxLen; omega, rfl, rfl⟩⟩
  have heq : ∀ u : World, (binOp .eql 28 (.slice (some ⟨g, 0, none⟩) n cap) (.slice none 0 0)).run Tryz.prog u = .ok (.bool false) u := fun u => by
    have h1 : ∀ d : Nat, (Op.equalIn (d + 1) 28 (.slice (some ⟨g, 0, none⟩) n cap) (.slice none 0 0)).run Tryz.prog u = .ok false u := fun d => by simp [Op.equalIn, run_underlying Tryz.underlying28]
    have h2 : (Op.equal 28 (.slice (some ⟨g, 0, none⟩) n cap) (.slice none 0 0)).run Tryz.prog u = .ok false u := h1 9999
    simp [binOp, h2]
  clear hi hz0 hz1 hz2 hc hl
  go_enter Tryz.func60, Tryz.ntmps60
  go_wp2_with (at_builtin; refine wpList_append_own _ rfl (.tmp 5) (.tmp 6) 28 rfl w.heap.size 3 i0 (.int .i64 0) 1 8 Tryz.underlying28 HI.out HZ0.out HZ1.out HZ2.out rfl (by decide) (.slice (some ⟨w.heap.size, 0, none⟩) 0 0) 0 [] rfl HO.out ⟨g, 0, none⟩ n cap (i64s xs) rfl (by rw [show (i64s xs).length = xs.length from List.length_map _, HL.out]; omega) HC.out (by intro u hu; obtain ⟨y, _, rfl⟩ := List.mem_map.1 hu; rfl) (by unfold maxLen; omega) (by omega) (by simp) ?_; intro v6 w6 hown6 hgrow6 hx6; clear hx6; obtain ⟨ua, uc, rfl⟩ := vown_form hown6)
  go_ret
  refine ⟨_, rfl, ua, uc, rfl, by simpa using hown6, ((Below.refl _ _).alloc (Nat.le_refl _) _).grown hgrow6 (by simp) (fun k hk => ?_)⟩
  simp [Value.ownBlock] at hk
  omega
theorem enter60 : ∀ vs u, (callFunc 60 vs).run Tryz.prog u = .ok (.enter 60 vs) u := enters_of Tryz.func60 (by kernel_rfl) rfl
set_option maxHeartbeats 4000000 in
set_option maxRecDepth 100000 in
theorem rel1_any (VB RB vb : Nat) (P : PlanD) (r : Nat) (hr : r < P.rels.length) (h3 : (P.rel r).2.1 ≤ 3) (t : List Int) (ht : t.length = 3) (w : World) (hP : PlanSt w vb P) (c1 : w.cell? ⟨VB, 0, none⟩ = some (.pointer (some ⟨vb, 0, none⟩))) (c2 : w.cell? ⟨RB, 0, none⟩ = some (.int .i64 r)) :
    Calls Tryz.prog 59 #[.agg (i64s t).toArray, .pointer (some ⟨VB, 0, none⟩), .pointer (some ⟨RB, 0, none⟩)] w fun e w' => ∃ ua uc, e = .returned (.slice ua (P.rel r).2.1 uc) ∧ w'.ownsRow (w.heap.size + 1) 3 1 (.slice ua (P.rel r).2.1 uc) (P.rel r).2.1 (i64s (t.take (P.rel r).2.1)) ∧ Below w.heap.size w w' := by
  obtain ⟨lg, lcap, aa, ac, bat, c4, c4t, _, _⟩ := hP.relat hr
  obtain ⟨N, hN⟩ : ∃ N, (P.rel r).2.1 = N := ⟨_, rfl⟩
  rw [hN] at c4t h3 ⊢
  obtain ⟨a0, a1, a2, hae⟩ := three t ht
  have hA : (i64s t).toArray = #[.int .i64 a0, .int .i64 a1, .int .i64 a2] := by rw [hae]; rfl
  rw [hA]
  have l1 := World.block_lt_of_cell? _ _ c1
  have l2 := World.block_lt_of_cell? _ _ c2
  have l3 := World.block_lt_of_cell? _ _ c4
  have l4 := World.block_lt_of_cell? _ _ c4t
  have brl : (r : Int) < (P.rels.length : Int) := by omega
  have bN : (N : Int) ≤ 3 := by omega
  have hba : Below w.heap.size w (w.alloc (.cells #[.int .i64 a0, .int .i64 a1, .int .i64 a2] 110)).drew := ((Below.refl _ _).alloc (Nat.le_refl _) _).drew
  have CL := cloneI_any w.heap.size N 3 (t.take N) (w.alloc (.cells #[.int .i64 a0, .int .i64 a1, .int .i64 a2] 110)).drew (by rw [List.length_take]; omega) (by omega) (fun j hj => by
    have hb : (w.alloc (.cells #[.int .i64 a0, .int .i64 a1, .int .i64 a2] 110)).drew.heap[w.heap.size]? = some (.cells #[.int .i64 a0, .int .i64 a1, .int .i64 a2] 110 (0, 0)) := vheap_alloc_new _ _
    have e : (t.take N).getD j 0 = t.getD j 0 := by rw [List.getD_eq_getElem?_getD, List.getD_eq_getElem?_getD, List.getElem?_take, if_pos hj]
    rw [e, hae]
    match j, hj with
    | 0, _ => (unfold World.cell?; rw [hb]; rfl)
    | 1, _ => (unfold World.cell?; rw [hb]; rfl)
    | 2, _ => (unfold World.cell?; rw [hb]; rfl)
    | j + 3, hj => omega)
  have HBA : Hid _ := hba
  clear hP hN hae hA hba
  go_enter Tryz.func59, Tryz.ntmps59
  go_wp2_with fail
  go_region_law (refine step_call rfl 60 #[.tmp 14] #[28] rfl enter60 #[.slice (some ⟨w.heap.size, 0, none⟩) N 3] (by kernel_rfl) _ CL ?_; rintro v1 w2 ⟨ua, uc, rfl, ho, hb⟩)
  all_goals go_wp2_with fail
  all_goals go_ret
  all_goals exact ⟨ua, uc, rfl, by simpa using ho, HBA.out.trans (hb.mono HBA.out.size)⟩
end Go.Proofs.YtondkinefmjpjaaGreat
namespace Go.Proofs.YtondkinefmjpjaaGreat
open Go.RowKit Go.WideMaps Go.WideElems Go.Maps
theorem key3_inv {P : Program} {k e : TypeId} (A : ArrKey P k e 3) (he : P.underlying e = some (.int .i64)) (hsz : ∃ m, P.types.size = m + 1) {key : Value} {kl : Lit} (h : keyOf P k key = some kl) :
    ∃ a : List Int, a.length = 3 ∧ wfA a ∧ key = .agg (i64s a).toArray ∧ kl = klOf a := by
  obtain ⟨m, hm⟩ := hsz
  unfold keyOf at h
  simp only [A.hu] at h
  rw [hm] at h
  split at h
  · rename_i hf
    obtain ⟨ls, h1, h2⟩ := Option.map_eq_some_iff.1 h
    unfold Program.keyLits at h1
    simp only [A.hu] at h1
    split at h1
    · rename_i hlen
      rw [A.size] at hlen
      obtain ⟨lss, h3, h4⟩ := Option.map_eq_some_iff.1 h1
      have hform : ∃ cs, key = .agg cs := by
        rw [Bool.and_eq_true] at hf
        have := hf.2
        cases key <;> simp [Value.formed, A.hu] at this
        exact ⟨_, rfl⟩
      obtain ⟨cs, rfl⟩ := hform
      simp only [Value.cells] at hlen h3
      obtain ⟨l⟩ := cs
      simp only at hlen h3
      match l, hlen, h3 with
      | [v0, v1, v2], _, h3 =>
        rw [show List.range 3 = [0, 1, 2] from rfl] at h3
        simp only [List.mapM_cons, List.mapM_nil, A.one, Option.bind_eq_bind, Option.pure_def, Option.bind_eq_some_iff, Option.some.injEq] at h3
        obtain ⟨l0, e0, _, ⟨l1, e1, _, ⟨l2, e2, _, rfl, rfl⟩, rfl⟩, rfl⟩ := h3
        obtain ⟨x0, c0, rfl, w0⟩ := lit_int he e0
        obtain ⟨x1, c1, rfl, w1⟩ := lit_int he e1
        obtain ⟨x2, c2, rfl, w2⟩ := lit_int he e2
        simp at c0 c1 c2
        subst c0 c1 c2
        refine ⟨[x0, x1, x2], rfl, ?_, rfl, ?_⟩
        · intro x hx
          simp at hx
          rcases hx with rfl | rfl | rfl <;> assumption
        · rw [← h2, ← h4]; simp [klOf]
    · cases h1
  · cases h
theorem keyT_inv {key : Value} {kl : Lit} (h : keyOf Tryz.prog 110 key = some kl) : ∃ a : List Int, a.length = 3 ∧ wfA a ∧ key = .agg (i64s a).toArray ∧ kl = klOf a :=
  key3_inv arrT Tryz.underlying3 typesSize h
theorem wpList_next_T (w : World) {ops : Array Oper} {rest : List Oper} {o : Oper} {a : Act} {Q : Exit → Act → World → Prop} (hg : o.guard = none) (it : Operand) (hop : o.op = Op.next it false) (b r n : Nat) (D : DataW Unit) (left : Lit → Bool) (cnt : Nat) (hit : a.eval it = .pointer (some ⟨r, 0, none⟩)) (h : w.ranges Tryz.prog 110 (plainElem Tryz.prog 3) b r n D left cnt)
    (hDone : (∀ kl, left kl = false) → wpList Tryz.prog ops Q rest (a.put o.dst (.tuple #[.bool false])) w)
    (hMore : ∀ (x0 x1 x2 c : Int) (w' : World) (cnt' : Nat), left (klOf [x0, x1, x2]) = true → (∀ zd, D.atKey (klOf [x0, x1, x2]) zd = i64d c) → wfA [x0, x1, x2] → w'.ranges Tryz.prog 110 (plainElem Tryz.prog 3) b r n D (fun z => left z && !z.sameKey (klOf [x0, x1, x2])) cnt' → cnt' < cnt →
      w.grownBy w' (some r) → w'.heap.size = w.heap.size → (Instr.entry (.pointer (some ⟨r, 0, none⟩))).run Tryz.prog w' = .ok (.tuple #[.agg #[.int .i64 x0, .int .i64 x1, .int .i64 x2], .int .i64 c]) w' → wpList Tryz.prog ops Q rest (a.put o.dst (.tuple #[.bool true, .agg #[.int .i64 x0, .int .i64 x1, .int .i64 x2], .int .i64 c])) w') :
    wpList Tryz.prog ops Q (o :: rest) a w := by
  refine wpList_next_ranges (α := Int × Int × Int) (β := Int) w hg it hop 110 (Keyed.of_law lawT) (plainElem Tryz.prog 3) (fun x => .agg #[.int .i64 x.1, .int .i64 x.2.1, .int .i64 x.2.2]) (fun c => .int .i64 c) (fun key kl hk => ?_) (fun v y hv => ?_) b r n D left cnt hit h (fun _ hl => hDone hl) ?_
  · obtain ⟨l, hl, _, rfl, _⟩ := keyT_inv hk
    obtain ⟨a0, a1, a2, rfl⟩ := three l hl
    exact ⟨(a0, a1, a2), rfl⟩
  · obtain ⟨c, rfl, _⟩ := plainElem_int_inv Tryz.underlying3 hv
    exact ⟨c, rfl⟩
  · rintro ⟨x0, x1, x2⟩ c kl y w' cnt' hk hlk hv hat hrg hlt hgr hsz hen
    obtain ⟨l, hl, hw, he, rfl⟩ := keyT_inv hk
    obtain ⟨a0, a1, a2, rfl⟩ := three l hl
    simp [i64s] at he
    obtain ⟨rfl, rfl, rfl⟩ := he
    obtain ⟨c', ec, rfl, _⟩ := plainElem_int_inv Tryz.underlying3 hv
    cases ec
    exact hMore _ _ _ c w' cnt' hlk hat hw hrg hlt hgr hsz hen
end Go.Proofs.YtondkinefmjpjaaGreat
