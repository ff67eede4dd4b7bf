import Derived.Shelf.Pu.Clone
import Derived.Deep.Onto
import Derived.Test.YtondkinefmjpjaaGreatW20
import Derived.Test.YtondkinefmjpjaaGreatW26
namespace Go.Proofs.YtondkinefmjpjaaGreat
open Go.RowKit Go.Shelf

def Tryz.laysClone_ren : Go.Shelf.Ren := ⟨fun | 25 => 161 | n => n, fun | 0 => 0 | 3 => 3 | 4 => 4 | 5 => 5 | 9 => 9 | 37 => 261 | 47 => 262 | n => n, fun | n => n⟩
theorem Tryz.laysClone : Go.Proofs.LaysPu.n25 Tryz.prog Tryz.laysClone_ren := {
  mixed := by kernel_rfl
  f25 := Tryz.func161.trans (congrArg some (by kernel_rfl))
  t0 := Tryz.underlying0
  a0 := Tryz.isAgg0
  z0 := Tryz.sizeOf0
  v0 := Tryz.zeroValue0
  i0 := by kernel_rfl
  t3 := Tryz.underlying3
  a3 := Tryz.isAgg3
  z3 := Tryz.sizeOf3
  v3 := Tryz.zeroValue3
  i3 := by kernel_rfl
  t4 := Tryz.underlying4
  a4 := Tryz.isAgg4
  z4 := Tryz.sizeOf4
  v4 := Tryz.zeroValue4
  i4 := by kernel_rfl
  t5 := Tryz.underlying5
  a5 := Tryz.isAgg5
  z5 := Tryz.sizeOf5
  v5 := Tryz.zeroValue5
  i5 := by kernel_rfl
  t9 := Tryz.underlying9
  a9 := Tryz.isAgg9
  z9 := Tryz.sizeOf9
  v9 := Tryz.zeroValue9
  i9 := by kernel_rfl
  t37 := Tryz.underlying261
  a37 := Tryz.isAgg261
  z37 := Tryz.sizeOf261
  v37 := Tryz.zeroValue261
  i37 := by kernel_rfl
  t47 := Tryz.underlying262
  a47 := Tryz.isAgg262
  z47 := Tryz.sizeOf262
  v47 := Tryz.zeroValue262
  i47 := by kernel_rfl }
theorem clone_any (s : ByteArray) (w : World) (hlim : s.size ≤ 281474976710656) :
    Calls Tryz.prog 126 #[.string s] w fun e w' => e = .returned (.string s) ∧ Below w.heap.size w w' := by
  have hc : Calls Tryz.prog 161 #[.string s] w fun e w' => e = .returned (.string s) ∧ Below w.heap.size w w' := AnyPu.stringslite_Clone Tryz.laysClone s w hlim
  go_enter Tryz.func126, Tryz.ntmps126
  go_wp2_with fail
  refine hc.mono ?_
  rintro e w1 ⟨rfl, hb⟩
  go_wp2
  go_ret
  exact ⟨rfl, hb⟩
end Go.Proofs.YtondkinefmjpjaaGreat
namespace Go.Proofs.YtondkinefmjpjaaGreat
open Go.RowKit

theorem Tryz.info130 : (Tryz.prog.info? 130).map (fun i => (i.zero, i.size, i.bytes)) = some (some (.map none), 1, 8) := by kernel_rfl
theorem Tryz.info166 : (Tryz.prog.info? 166).map (fun i => (i.zero, i.size, i.bytes)) = some (some (.map none), 1, 8) := by kernel_rfl
/-- New empty maps, none of them twice. -/
structure Ems (w : World) (B : Nat) (l : List Nat) : Prop where
  nd : l.Nodup
  el : ∀ b, b ∈ l → B ≤ b ∧ w.heap[b]? = some (.map #[] 0)
theorem Ems.nil (w : World) (B : Nat) : Ems w B [] := ⟨List.nodup_nil, fun b hb => by cases hb⟩
theorem Ems.block {w w' : World} {B : Nat} {l : List Nat} (h : Ems w B l) (he : ∀ b, b ∈ l → w'.heap[b]? = w.heap[b]?) : Ems w' B l := ⟨h.nd, fun b hb => ⟨(h.el b hb).1, (he b hb).trans (h.el b hb).2⟩⟩
theorem Ems.lt {w : World} {B : Nat} {l : List Nat} (h : Ems w B l) {b : Nat} (hb : b ∈ l) : b < w.heap.size := vlt_of_block (h.el b hb).2
theorem Ems.snoc {w : World} {B : Nat} {l : List Nat} (h : Ems w B l) {b : Nat} (hb : B ≤ b) (hn : b ∉ l) (he : w.heap[b]? = some (.map #[] 0)) : Ems w B (l ++ [b]) := by
  refine ⟨List.nodup_append.2 ⟨h.nd, by simp, fun a ha c hc e => ?_⟩, fun c hc => ?_⟩
  · simp at hc; subst hc; subst e; exact hn ha
  · rcases List.mem_append.1 hc with hc | hc
    · exact h.el c hc
    · simp at hc; subst hc; exact ⟨hb, he⟩
theorem mapVs_snoc (l : List Nat) (b : Nat) : mapVs (l ++ [b]) = mapVs l ++ [.map (some b)] := by simp [mapVs]
theorem row_map {w : World} {base e size : Nat} {v : Value} {n : Nat} {xs : List Value} (h : w.ownsRow base e size v n xs) {k : Nat} (hk : v.ownBlock = some k) : ∃ c, w.heap[k]? = some (.cells c e (0, 0)) := by
  rcases h.2 with ⟨rfl, _⟩ | ⟨g, cap, cur, rfl, _, h1, _⟩
  · cases hk
  · cases hk; exact ⟨_, by assumption⟩
theorem vown_of_block {w w' : World} {base e size : Nat} {v : Value} {n : Nat} {xs : List Value} (h : w.ownsRow base e size v n xs) (hb : ∀ k, v.ownBlock = some k → w'.heap[k]? = w.heap[k]?) : w'.ownsRow base e size v n xs := by
  refine ⟨h.1, ?_⟩
  rcases h.2 with hn | ⟨g, cap, cur, rfl, h1, h2, rest⟩
  · exact .inl hn
  · exact .inr ⟨g, cap, cur, rfl, h1, (hb g rfl).trans h2, rest⟩
/-- The store while it is filled: its own block, the map of worth, the rows' maps, the indexes' maps. -/
structure MkS (w : World) (B : Nat) (rv iv : Value) (rb ib : List Nat) : Prop where
  z : w.heap[B]? = some (.cells #[.slice none 0 0, .slice none 0 0, .map none] 88 (0, 0))
  s : w.heap[B + 2]? = some (.cells #[rv, iv, .map (some (B + 1))] 88 (0, 0))
  r : w.ownsRow (B + 3) 130 1 rv rb.length (mapVs rb)
  i : w.ownsRow (B + 3) 166 1 iv ib.length (mapVs ib)
  m : Ems w (B + 1) ((B + 1) :: (rb ++ ib))
theorem MkS.rows {w w1 : World} {B n : Nat} {rv iv rv' : Value} {rb ib : List Nat} (h : MkS w B rv iv rb ib) (hg : ((w.alloc (.map #[] 0)).alloc (.cells #[.map (some w.heap.size)] 130)).grownBy w1 rv.ownBlock) (ho : w1.ownsRow (B + 3) 130 1 rv' n (mapVs rb ++ [.map (some w.heap.size)])) (hn : n = rb.length + 1) :
    MkS (w1.setCell ⟨B + 2, 0, none⟩ rv') B rv' iv (rb ++ [w.heap.size]) ib ∧ w1.heap[B + 2]? = some (.cells #[rv, iv, .map (some (B + 1))] 88 (0, 0)) := by
  have hne : ∀ {k : Nat} {o : Obj}, w.heap[k]? = some o → (∀ c, o ≠ .cells c 130 (0, 0)) → w1.heap[k]? = some o := by
    intro k o hk ho
    have hlt := vlt_of_block hk
    rw [hg.block k (by simp; omega) (fun e => by obtain ⟨c, hc⟩ := row_map h.r e.symm; rw [hk] at hc; exact ho c (Option.some.inj hc))]
    exact (Below.heap_alloc _ _ _ (by simp; omega)).trans ((Below.heap_alloc _ _ _ hlt).trans hk)
  have z1 := hne h.z (fun c e => by simp at e)
  have s1 := hne h.s (fun c e => by simp at e)
  have lB := vlt_of_block h.s
  have hnew : w1.heap[w.heap.size]? = some (.map #[] 0) := by
    rw [hg.block w.heap.size (by simp; omega) (fun e => by have := (h.r.lt _ e.symm).2; omega)]
    exact (Below.heap_alloc _ _ _ (by simp)).trans (vheap_alloc_new w _)
  have hsz : w.heap.size < w1.heap.size := vlt_of_block hnew
  have row : ∀ {b e size n : Nat} {v : Value} {xs : List Value}, e ≠ 88 → w1.ownsRow b e size v n xs → (w1.setCell ⟨B + 2, 0, none⟩ rv').ownsRow b e size v n xs := by
    intro b e size n v xs he hx
    refine vown_of_block hx (fun k hk => ?_)
    obtain ⟨c, hc⟩ := row_map hx hk
    rw [Below.heap_setCell]
    rintro rfl
    rw [s1] at hc
    simp at hc; exact he hc.2.symm
  have other : ∀ k, k ≠ B + 2 → (w1.setCell ⟨B + 2, 0, none⟩ rv').heap[k]? = w1.heap[k]? := fun k hk => Below.heap_setCell _ _ _ _ hk
  refine ⟨⟨(other _ (by omega)).trans z1, ?_, ?_, ?_, ?_⟩, s1⟩
  · rw [blk_setCell s1 0 rv']; simp [Array.setIfInBounds]
  · rw [mapVs_snoc, List.length_append, show rb.length + [w.heap.size].length = n by simp; omega]; exact row (by decide) ho
  · refine row (by decide) (vown_of_block h.i (fun k hk => ?_))
    obtain ⟨c, hc⟩ := row_map h.i hk
    rw [hne hc (fun c e => by simp at e), hc]
  · have hm : Ems (w1.setCell ⟨B + 2, 0, none⟩ rv') (B + 1) ((B + 1) :: (rb ++ ib)) := h.m.block (fun b hb => by
      have hb' := h.m.el b hb
      have hb1 := hne hb'.2 (fun c e => by simp at e)
      rw [other b (fun e => by rw [e, h.s] at hb'; simp at hb'), hb1, hb'.2])
    have hin : w.heap.size ∉ (B + 1) :: (rb ++ ib) := fun hb => by have := h.m.lt hb; omega
    have he : (w1.setCell ⟨B + 2, 0, none⟩ rv').heap[w.heap.size]? = some (.map #[] 0) := (other _ (by omega)).trans hnew
    have hs := hm.snoc (b := w.heap.size) (by omega) hin he
    have hp : ((B + 1) :: (rb ++ ib) ++ [w.heap.size]).Perm ((B + 1) :: (rb ++ [w.heap.size] ++ ib)) := by
      rw [List.cons_append]
      refine List.Perm.cons _ ?_
      rw [List.append_assoc, List.append_assoc]
      exact List.Perm.append_left _ List.perm_append_comm
    exact ⟨hp.nodup_iff.1 hs.nd, fun b hb => hs.el b (hp.mem_iff.2 hb)⟩
theorem MkS.ixs {w w1 : World} {B n : Nat} {rv iv rv' : Value} {rb ib : List Nat} (h : MkS w B rv iv rb ib) (hg : ((w.alloc (.map #[] 0)).alloc (.cells #[.map (some w.heap.size)] 166)).grownBy w1 iv.ownBlock) (ho : w1.ownsRow (B + 3) 166 1 rv' n (mapVs ib ++ [.map (some w.heap.size)])) (hn : n = ib.length + 1) :
    MkS (w1.setCell ⟨B + 2, 1, none⟩ rv') B rv rv' rb (ib ++ [w.heap.size]) ∧ w1.heap[B + 2]? = some (.cells #[rv, iv, .map (some (B + 1))] 88 (0, 0)) := by
  have hne : ∀ {k : Nat} {o : Obj}, w.heap[k]? = some o → (∀ c, o ≠ .cells c 166 (0, 0)) → w1.heap[k]? = some o := by
    intro k o hk ho
    have hlt := vlt_of_block hk
    rw [hg.block k (by simp; omega) (fun e => by obtain ⟨c, hc⟩ := row_map h.i e.symm; rw [hk] at hc; exact ho c (Option.some.inj hc))]
    exact (Below.heap_alloc _ _ _ (by simp; omega)).trans ((Below.heap_alloc _ _ _ hlt).trans hk)
  have z1 := hne h.z (fun c e => by simp at e)
  have s1 := hne h.s (fun c e => by simp at e)
  have lB := vlt_of_block h.s
  have hnew : w1.heap[w.heap.size]? = some (.map #[] 0) := by
    rw [hg.block w.heap.size (by simp; omega) (fun e => by have := (h.i.lt _ e.symm).2; omega)]
    exact (Below.heap_alloc _ _ _ (by simp)).trans (vheap_alloc_new w _)
  have hsz : w.heap.size < w1.heap.size := vlt_of_block hnew
  have row : ∀ {b e size n : Nat} {v : Value} {xs : List Value}, e ≠ 88 → w1.ownsRow b e size v n xs → (w1.setCell ⟨B + 2, 1, none⟩ rv').ownsRow b e size v n xs := by
    intro b e size n v xs he hx
    refine vown_of_block hx (fun k hk => ?_)
    obtain ⟨c, hc⟩ := row_map hx hk
    rw [Below.heap_setCell]
    rintro rfl
    rw [s1] at hc
    simp at hc; exact he hc.2.symm
  have other : ∀ k, k ≠ B + 2 → (w1.setCell ⟨B + 2, 1, none⟩ rv').heap[k]? = w1.heap[k]? := fun k hk => Below.heap_setCell _ _ _ _ hk
  refine ⟨⟨(other _ (by omega)).trans z1, ?_, ?_, ?_, ?_⟩, s1⟩
  · rw [blk_setCell s1 1 rv']; simp [Array.setIfInBounds]
  · refine row (by decide) (vown_of_block h.r (fun k hk => ?_))
    obtain ⟨c, hc⟩ := row_map h.r hk
    rw [hne hc (fun c e => by simp at e), hc]
  · rw [mapVs_snoc, List.length_append, show ib.length + [w.heap.size].length = n by simp; omega]; exact row (by decide) ho
  · have hm : Ems (w1.setCell ⟨B + 2, 1, none⟩ rv') (B + 1) ((B + 1) :: (rb ++ ib)) := h.m.block (fun b hb => by
      have hb' := h.m.el b hb
      have hb1 := hne hb'.2 (fun c e => by simp at e)
      rw [other b (fun e => by rw [e, h.s] at hb'; simp at hb'), hb1, hb'.2])
    have hin : w.heap.size ∉ (B + 1) :: (rb ++ ib) := fun hb => by have := h.m.lt hb; omega
    have he : (w1.setCell ⟨B + 2, 1, none⟩ rv').heap[w.heap.size]? = some (.map #[] 0) := (other _ (by omega)).trans hnew
    have hs := hm.snoc (b := w.heap.size) (by omega) hin he
    have hp : ((B + 1) :: (rb ++ ib) ++ [w.heap.size]).Perm ((B + 1) :: (rb ++ (ib ++ [w.heap.size]))) := by
      rw [List.cons_append, List.append_assoc]
    exact ⟨hp.nodup_iff.1 hs.nd, fun b hb => hs.el b (hp.mem_iff.2 hb)⟩
/-- What makeStore has made. -/
structure StV (w : World) (B : Nat) (rv iv : Value) (wb : Nat) (rb ib : List Nat) : Prop where
  r : w.ownsRow B 130 1 rv rb.length (mapVs rb)
  i : w.ownsRow B 166 1 iv ib.length (mapVs ib)
  m : Ems w B (wb :: (rb ++ ib))
theorem MkS.start (w : World) : MkS (((w.alloc (.cells #[.slice none 0 0, .slice none 0 0, .map none] 88)).alloc (.map #[] 0)).alloc (.cells #[.slice none 0 0, .slice none 0 0, .map (some (w.heap.size + 1))] 88)) w.heap.size (.slice none 0 0) (.slice none 0 0) [] [] ∧ Below w.heap.size w (((w.alloc (.cells #[.slice none 0 0, .slice none 0 0, .map none] 88)).alloc (.map #[] 0)).alloc (.cells #[.slice none 0 0, .slice none 0 0, .map (some (w.heap.size + 1))] 88)) := by
  have e1 : (((w.alloc (.cells #[.slice none 0 0, .slice none 0 0, .map none] 88)).alloc (.map #[] 0)).alloc (.cells #[.slice none 0 0, .slice none 0 0, .map (some (w.heap.size + 1))] 88)).heap[w.heap.size + 1]? = some (.map #[] 0) := by
    rw [Below.heap_alloc _ _ _ (by simp)]
    have := vheap_alloc_new (w.alloc (.cells #[.slice none 0 0, .slice none 0 0, .map none] 88)) (.map #[] 0)
    simpa using this
  have e2 : (((w.alloc (.cells #[.slice none 0 0, .slice none 0 0, .map none] 88)).alloc (.map #[] 0)).alloc (.cells #[.slice none 0 0, .slice none 0 0, .map (some (w.heap.size + 1))] 88)).heap[w.heap.size + 2]? = some (.cells #[.slice none 0 0, .slice none 0 0, .map (some (w.heap.size + 1))] 88 (0, 0)) := by
    have := vheap_alloc_new ((w.alloc (.cells #[.slice none 0 0, .slice none 0 0, .map none] 88)).alloc (.map #[] 0)) (.cells #[.slice none 0 0, .slice none 0 0, .map (some (w.heap.size + 1))] 88)
    simpa using this
  refine ⟨⟨?_, e2, World.ownsRow_nil _ _ _ _, World.ownsRow_nil _ _ _ _, ⟨by simp, fun b hb => ?_⟩⟩, ?_⟩
  · rw [Below.heap_alloc _ _ _ (by simp; omega), Below.heap_alloc _ _ _ (by simp), vheap_alloc_new]
  · simp at hb; subst hb; exact ⟨Nat.le_refl _, e1⟩
  · exact (((Below.refl _ _).alloc (Nat.le_refl _) _).alloc (by simp) _).alloc (by simp; omega) _
theorem vone_new' (w : World) (o : Obj) (x : Value) (t : TypeId) : ∀ j u, [x][j]? = some u → ((w.alloc o).alloc (.cells #[x] t)).cell? ((⟨w.heap.size + 1, 0, none⟩ : Addr).add j) = some u := by
  intro j u hj
  match j, hj with
  | 0, hj =>
    simp at hj; subst hj
    have := vheap_alloc_new (w.alloc o) (.cells #[x] t)
    simp at this
    simp [Addr.add, World.cell?, this]
theorem MkS.done {w w' : World} {B : Nat} {rv iv : Value} {rb ib : List Nat} {n m : Nat} (h : MkS w B rv iv rb ib) (_hn : n = rb.length) (_hm : m = ib.length) (hk : ∀ x, x ≠ B → w'.heap[x]? = w.heap[x]?) : StV w' B rv iv (B + 1) rb ib :=
  ⟨(vown_of_block h.r (fun k e => hk k (by have := (h.r.lt k e).1; omega))).mono (by omega), (vown_of_block h.i (fun k e => hk k (by have := (h.i.lt k e).1; omega))).mono (by omega), h.m.nd, fun b hb => ⟨by have := (h.m.el b hb).1; omega, (hk b (by have := (h.m.el b hb).1; omega)).trans (h.m.el b hb).2⟩⟩
set_option maxHeartbeats 4000000 in
set_option maxRecDepth 100000 in
theorem makeStore_any (nr nl : Nat) (w : World) (h1 : nr ≤ 100) (h2 : nl ≤ 100) :
    Calls Tryz.prog 56 #[.int .i64 nr, .int .i64 nl] w fun e w' => ∃ ra rc ia ic wb rb ib, e = .returned (.agg #[.slice ra nr rc, .slice ia nl ic, .map (some wb)]) ∧ rb.length = nr ∧ ib.length = nl ∧ StV w' w.heap.size (.slice ra nr rc) (.slice ia nl ic) wb rb ib ∧ Below w.heap.size w w' := by
  obtain ⟨i0, hi, hz0, hz1, hz2⟩ := info_parts Tryz.info130
  have HI : Hid _ := hi
  have HZ0 : Hid _ := hz0
  have HZ1 : Hid _ := hz1
  have HZ2 : Hid _ := hz2
  clear hi hz0 hz1 hz2
  obtain ⟨i1, hi, hz0, hz1, hz2⟩ := info_parts Tryz.info166
  have HJ : Hid _ := hi
  have HY0 : Hid _ := hz0
  have HY1 : Hid _ := hz1
  have HY2 : Hid _ := hz2
  clear hi hz0 hz1 hz2
  have hmm := @run_makeMap Tryz.prog
  go_enter Tryz.func56, Tryz.ntmps56
  go_wp2_with fail
  go_loopw [9] (fun kv wr => ∃ (k : Nat) (ra : Option Addr) (rc : Nat) (rb : List Nat), k ≤ nr ∧ kv = .int .i64 k ∧ k = rb.length ∧ MkS wr w.heap.size (.slice ra k rc) (.slice none 0 0) rb [] ∧ Below w.heap.size w wr) (fun kv _ => nr - (intOf kv).toNat)
  case atStart => exact ⟨0, none, 0, [], Nat.zero_le _, rfl, rfl, (MkS.start w).1, (MkS.start w).2⟩
  case round =>
    obtain ⟨k, ra, rc, rb, hk, rfl, hkl, hM, hb⟩ := hrel
    by_cases hlt : k < nr
    · have HKL : Hid (k = rb.length) := hkl
      clear hkl
      have c0 : wr.cell? ⟨w.heap.size + 2, 0, none⟩ = some (.slice ra k rc) := by simp [World.cell?, hM.s]
      have l0 := vlt_of_block hM.s
      have hr : wr.ownsRow (w.heap.size + 3) 130 1 (.slice ra k rc) k (mapVs rb) := by have := hM.r; rw [← HKL.out] at this; exact this
      have HM : Hid _ := hM
      have hws : w.heap.size ≤ wr.heap.size := hb.size
      clear hM
      go_wp2_with (at_builtin; refine wpList_append_own _ rfl (.tmp 12) (.tmp 14) 84 rfl (w.heap.size + 3) 130 i0 (.map none) 1 8 Tryz.underlying84 HI.out HZ0.out HZ1.out HZ2.out rfl (by decide) (.slice ra k rc) _ _ rfl ((hr.alloc _).alloc _) ⟨wr.heap.size + 1, 0, none⟩ 1 1 [.map (some wr.heap.size)] rfl rfl (vone_new' _ _ _ _) (by intro u hu; simp at hu; subst hu; rfl) (by unfold maxLen; omega) (by omega) (by first | (simp; omega) | simp) ?_; intro v6 w6 hown6 hgrow6 _; obtain ⟨xa, xc, rfl⟩ := vown_form hown6; have FIN := HM.out.rows hgrow6 hown6 (by rw [← HKL.out]); have e2 : w6.cell? ⟨w.heap.size + 2, 0, none⟩ = some (.slice ra k rc) := (by simp [World.cell?, FIN.2]); have e3 : w6.frozen? ⟨w.heap.size + 2, 0, none⟩ = false := (by simp [World.frozen?, FIN.2]))
      have hb6 : Below w.heap.size w (w6.setCell ⟨w.heap.size + 2, 0, none⟩ (.slice xa (k + 1) xc)) := ((((hb.alloc hws _).alloc (by simp; omega) _)).grown hgrow6 (by simp; omega) (fun j hj => by have := (hr.lt j hj).1; omega)).setCell (p := ⟨w.heap.size + 2, 0, none⟩) (by simp) _
      go_roundw
      case rel => exact ⟨k + 1, xa, xc, rb ++ [wr.heap.size], by omega, by go_num, by simp [← HKL.out], FIN.1, hb6⟩
      case measure => simp [intOf]; omega
    · have hkn : k = nr := by omega
      subst hkn
      have HRB : Hid (k = rb.length) := hkl
      clear hkl hlt hk
      go_wp2_with fail
      go_loopw [19] (fun kv wr => ∃ (k2 : Nat) (ia : Option Addr) (ic : Nat) (ib : List Nat), k2 ≤ nl ∧ kv = .int .i64 k2 ∧ k2 = ib.length ∧ MkS wr w.heap.size (.slice ra k rc) (.slice ia k2 ic) rb ib ∧ Below w.heap.size w wr) (fun kv _ => nl - (intOf kv).toNat)
      case atStart => exact ⟨0, none, 0, [], Nat.zero_le _, rfl, rfl, hM, hb⟩
      case round =>
        clear hM hb
        obtain ⟨k2, ia, ic, ib, hk, rfl, hkl, hM, hb⟩ := hrel
        by_cases hlt : k2 < nl
        · have HKL : Hid (k2 = ib.length) := hkl
          clear hkl
          have c0 : wr.cell? ⟨w.heap.size + 2, 1, none⟩ = some (.slice ia k2 ic) := by simp [World.cell?, hM.s]
          have l0 := vlt_of_block hM.s
          have hr : wr.ownsRow (w.heap.size + 3) 166 1 (.slice ia k2 ic) k2 (mapVs ib) := by have := hM.i; rw [← HKL.out] at this; exact this
          have HM : Hid _ := hM
          have hws : w.heap.size ≤ wr.heap.size := hb.size
          clear hM
          go_wp2_with (at_builtin; refine wpList_append_own _ rfl (.tmp 22) (.tmp 24) 85 rfl (w.heap.size + 3) 166 i1 (.map none) 1 8 Tryz.underlying85 HJ.out HY0.out HY1.out HY2.out rfl (by decide) (.slice ia k2 ic) _ _ rfl ((hr.alloc _).alloc _) ⟨wr.heap.size + 1, 0, none⟩ 1 1 [.map (some wr.heap.size)] rfl rfl (vone_new' _ _ _ _) (by intro u hu; simp at hu; subst hu; rfl) (by unfold maxLen; omega) (by omega) (by first | (simp; omega) | simp) ?_; intro v6 w6 hown6 hgrow6 _; obtain ⟨xa, xc, rfl⟩ := vown_form hown6; have FIN := HM.out.ixs hgrow6 hown6 (by rw [← HKL.out]); have e2 : w6.cell? ⟨w.heap.size + 2, 1, none⟩ = some (.slice ia k2 ic) := (by simp [World.cell?, FIN.2]); have e3 : w6.frozen? ⟨w.heap.size + 2, 1, none⟩ = false := (by simp [World.frozen?, FIN.2]))
          have hb6 : Below w.heap.size w (w6.setCell ⟨w.heap.size + 2, 1, none⟩ (.slice xa (k2 + 1) xc)) := ((((hb.alloc hws _).alloc (by simp; omega) _)).grown hgrow6 (by simp; omega) (fun j hj => by have := (hr.lt j hj).1; omega)).setCell (p := ⟨w.heap.size + 2, 1, none⟩) (by simp) _
          go_roundw
          case rel => exact ⟨k2 + 1, xa, xc, ib ++ [wr.heap.size], by omega, by go_num, by simp [← HKL.out], FIN.1, hb6⟩
          case measure => simp [intOf]; omega
        · have hkn : k2 = nl := by omega
          subst hkn
          have HIB : Hid (k2 = ib.length) := hkl
          have c0 : wr.cell? ⟨w.heap.size + 2, 0, none⟩ = some (.slice ra k rc) := by simp [World.cell?, hM.s]
          have c1 : wr.cell? ⟨w.heap.size + 2, 1, none⟩ = some (.slice ia k2 ic) := by simp [World.cell?, hM.s]
          have c2 : wr.cell? ⟨w.heap.size + 2, 2, none⟩ = some (.map (some (w.heap.size + 1))) := by simp [World.cell?, hM.s]
          have z0 : wr.cell? ⟨w.heap.size, 0, none⟩ = some (.slice none 0 0) := by simp [World.cell?, hM.z]
          have z1 : wr.cell? ⟨w.heap.size, 1, none⟩ = some (.slice none 0 0) := by simp [World.cell?, hM.z]
          have z2 : wr.cell? ⟨w.heap.size, 2, none⟩ = some (.map none) := by simp [World.cell?, hM.z]
          have f0 : wr.frozen? ⟨w.heap.size, 0, none⟩ = false := by simp [World.frozen?, hM.z]
          have f1 : wr.frozen? ⟨w.heap.size, 1, none⟩ = false := by simp [World.frozen?, hM.z]
          have f2 : wr.frozen? ⟨w.heap.size, 2, none⟩ = false := by simp [World.frozen?, hM.z]
          have HM : Hid _ := hM
          clear hM hkl hlt
          go_wp2_with fail
          refine bodyPost_ret (v := .agg #[.slice ra k rc, .slice ia k2 ic, .map (some (w.heap.size + 1))]) (by simp [results, Tryz.results56, go_sem, z0, z1, z2]) rfl ⟨ra, rc, ia, ic, w.heap.size + 1, rb, ib, rfl, HRB.out.symm, HIB.out.symm, ?_, ?_⟩
          · have hK : ∀ x, x ≠ w.heap.size → ((((wr.setCell ⟨w.heap.size, 0, none⟩ (.slice ra k rc)).setCell ⟨w.heap.size, 1, none⟩ (.slice ia k2 ic)).setCell ⟨w.heap.size, 2, none⟩ (.map (some (w.heap.size + 1))))).heap[x]? = wr.heap[x]? := fun x hx => by
              rw [Below.heap_setCell _ _ _ _ hx, Below.heap_setCell _ _ _ _ hx, Below.heap_setCell _ _ _ _ hx]
            exact HM.out.done HRB.out HIB.out hK
          · repeat (refine Below.setCell ?_ (by simp) _)
            exact hb
end Go.Proofs.YtondkinefmjpjaaGreat
