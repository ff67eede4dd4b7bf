import Derived.Test.YtondkinefmjpjaaGreatW37
import Derived.Test.YtondkinefmjpjaaGreatZ59
namespace Go.Proofs.YtondkinefmjpjaaGreat
open Go.RowKit Go.WideMaps Go.WideElems Go.Maps
set_option maxHeartbeats 8000000 in
set_option maxRecDepth 100000 in
theorem tellT_loop (VB RB vb : Nat) (P : PlanD) (r : Nat) (hr : r < P.rels.length) (h3 : (P.rel r).2.1 ≤ 3) (b : Nat) (f : List Int → Int) (w : World) (hP : PlanSt w vb P) (hc : w.cell? ⟨VB, 0, none⟩ = some (.pointer (some ⟨vb, 0, none⟩))) (hc2 : w.cell? ⟨RB, 0, none⟩ = some (.int .i64 r)) (hCF : CF 110 3 w b f) (hsm : (live 3 f).length ≤ 1000000)
    (Q : Ending → World → Prop) (hQ0 : ∀ w', live 3 f = [] → Below w.heap.size w w' → Calls Tryz.prog 68 #[.slice none 0 0, .func (.func 91) #[] #[]] w' fun e w2 => e = .returned (.tuple #[]) ∧ Q (.returned (.slice none 0 0)) w2)
    (hQ : ∀ w' us l a cap, RNew 55 w.heap.size w' (.slice (some a) l.length cap) us l → 0 < l.length → l.Perm (rowsL (fun t => t.take (P.rel r).2.1) f (live 3 f)) → Below w.heap.size w w' → Calls Tryz.prog 68 #[.slice (some a) l.length cap, .func (.func 91) #[] #[]] w' fun e w2 => e = .returned (.tuple #[]) ∧ Q (.returned (.slice (some a) l.length cap)) w2) :
    Calls Tryz.prog 58 #[.map (some b), .func (.func 59) #[] #[.pointer (some ⟨VB, 0, none⟩), .pointer (some ⟨RB, 0, none⟩)]] w Q := by
  obtain ⟨D, hown, hrep, hsz⟩ := hCF.tight (Or.inr ⟨rfl, rfl⟩)
  obtain ⟨n, hn⟩ : ∃ n, (live 3 f).length = n := ⟨_, rfl⟩
  rw [hn] at hown hsz
  have HN : Hid ((live 3 f).length = n) := hn
  rw [hn] at hsm
  obtain ⟨i0, hi, hz0, hz1, hz2⟩ := info_parts Tryz.info55
  have HI : Hid _ := hi
  have HZ0 : Hid _ := hz0
  have HZ1 : Hid _ := hz1
  have HZ2 : Hid _ := hz2
  have HREP : Hid _ := hrep
  have HQ0 : Hid _ := hQ0
  have HQ : Hid _ := hQ
  have HPS : Hid _ := hP
  have lb := hown.lt
  clear hi hz0 hz1 hz2 hrep hn hQ0 hQ hP
  go_enter Tryz.func58, Tryz.ntmps58
  go_wp2_with (first | (at_range; refine wpList_range_own _ rfl _ 130 rfl 110 3 (Keyed.of_law lawT) Tryz.underlying130 (plainElem Tryz.prog 3) b n D rfl hown ?_; intro w0 hrg0 hg0 hs0) | go_in)
  go_frame
  have T0 : Hid (TL 3 110 w w0 b w.heap.size n D (fun t => t.take (P.rel r).2.1) f (.slice none 0 0)) :=
    ⟨_, _, [], [], hrg0, fun _ h => h, ⟨rfl, World.ownsRow_nil _ _ _ _, fun j hj => absurd hj (by simp)⟩, by rw [doneL_start (fun a ha => by rw [HREP.out.2.1 a (mem_live.1 ha).1]; simpa using (mem_live.1 ha).2)]; exact List.Perm.refl _, (Below.refl _ _).grown hg0 (Nat.le_refl _) (fun j hj => by cases hj), fun _ => rfl⟩
  clear hrg0 hg0 hs0
  go_loopw [5, 6, 7] (fun rv _ _ wr => TL 3 110 w wr b w.heap.size n D (fun t => t.take (P.rel r).2.1) f rv) (fun _ _ _ wr => wr.rangeLeft b w.heap.size)
  case atStart => exact T0.out
  case round =>
    obtain ⟨left, cnt, us, l, hrg, hleft, hrw, hperm, hb, hnl⟩ := hrel
    have ho := hrw.2.1
    obtain ⟨ra, rcap, hrv⟩ := vown_form ho
    subst hrv
    have HRW : Hid (RNew 55 w.heap.size wr (.slice ra l.length rcap) us l) := hrw
    have HP : Hid _ := hperm
    have HLF : Hid _ := hleft
    have HB : Hid (Below w.heap.size w wr) := hb
    have hll : l.length ≤ n := by
      have h1 := hperm.length_eq
      rw [rowsL, List.length_map] at h1
      have h2 := doneL_len (N := 3) (f := f) (left := left)
      have := HN.out
      omega
    have hws := hb.size
    have hc1 := (hb.cell (World.block_lt_of_cell? _ _ hc)).trans hc
    have hc3 := (hb.cell (World.block_lt_of_cell? _ _ hc2)).trans hc2
    clear hrw hperm hleft hb
    go_wp2_with (first | (at_next; refine wpList_next_T _ rfl _ rfl b w.heap.size n D _ _ rfl hrg ?_ ?_) | go_in)
    · intro hl0
      have hp := HP.out
      rw [doneL_end hl0] at hp
      have HP2 : Hid _ := hp
      clear hl0 hp
      by_cases h0 : l = []
      · subst h0
        have hnil : live 3 f = [] := by
          have := HP2.out.length_eq
          rw [rowsL, List.length_map] at this
          exact List.eq_nil_of_length_eq_zero this.symm
        have hrn := hnl rfl
        simp only [Value.slice.injEq] at hrn
        obtain ⟨rfl, _, rfl⟩ := hrn
        have CALL := HQ0.out wr hnil HB.out
        clear hnil hnl ho hc3 hc1
        go_wp2_with (go_at_call 68; refine CALL.mono ?_; rintro e w2 ⟨rfl, hq⟩)
        exact hq
      · have hpos : 0 < l.length := List.length_pos_iff.2 h0
        obtain ⟨g, cap', he⟩ := vown_some ho hpos
        simp only [Value.slice.injEq, true_and] at he
        obtain ⟨rfl, rfl⟩ := he
        have CALL := HQ.out wr us l _ _ HRW.out hpos HP2.out HB.out
        clear hnl ho hc3 hc1 h0
        go_wp2_with (go_at_call 68; refine CALL.mono ?_; rintro e w2 ⟨rfl, hq⟩)
        exact hq
    · intro x0 x1 x2 cc w1 cnt1 hlx hat hwx hrg1 hlt hg1 hs1 hen
      obtain ⟨hxl, rfl⟩ := key_live (x := [x0, x1, x2]) HREP.out (fun y hy e => klT_inj rfl (box_length hy) hwx (box_wf hy) e) (HLF.out _ hlx) hat
      obtain ⟨X, hX⟩ : ∃ X : List Int, [x0, x1, x2] = X := ⟨_, rfl⟩
      have hX6 : (i64s X).toArray = #[.int .i64 x0, .int .i64 x1, .int .i64 x2] := by rw [← hX]; rfl
      have hXl : X.length = 3 := by rw [← hX]; rfl
      rw [hX] at hxl hlx hrg1 hen ⊢
      obtain ⟨Y, hY⟩ : ∃ Y, Go.Proofs.YtondkinefmjpjaaGreat.wr (f X) = Y := ⟨_, rfl⟩
      rw [hY] at hen ⊢
      have nbr : b ≠ w.heap.size := by omega
      have hb1 : Below w.heap.size w w1 := HB.out.grown hg1 hws (fun j hj => by cases hj; exact Nat.le_refl _)
      have d1 := (hb1.cell (World.block_lt_of_cell? _ _ hc)).trans hc
      have d2 := (hb1.cell (World.block_lt_of_cell? _ _ hc2)).trans hc2
      have hP1 := HPS.out.fr (Fr.of_below (M := fun _ => False) hb1) (mps_none _)
      have HV := fun (u : World) (h : Fr (fun _ => False) w1 u) => rel1_any VB RB vb P r hr h3 X hXl u (hP1.fr h (mps_none _)) (h.cell (mps_none _) d1) (h.cell (mps_none _) d2)
      rw [hX6] at HV
      have lw1 : w.heap.size < w1.heap.size := by rw [hs1]; exact hrg.lt
      have hrw1 : RNew 55 w.heap.size w1 (.slice ra l.length rcap) us l := rnew_turn HRW.out hg1 (ranges_iter hrg)
      have ho1 := hrw1.2.1
      have HRW1 : Hid _ := hrw1
      have HRG1 : Hid _ := hrg1
      have HB1 : Hid (Below w.heap.size w w1) := hb1
      have HP1 : Hid _ := hP1
      have HXL : Hid (X.length = 3) := hXl
      obtain ⟨T, hT⟩ : ∃ T, (P.rel r).2.1 = T := ⟨_, rfl⟩
      rw [hT] at HV h3
      have HT : Hid _ := hT
      clear hX hX6 hXl hc3 hc1 hrw1 hrg1 ho hnl hs1 hP1 d1 d2 hT
      go_wp2_with (first | (go_at_call 59; refine (HV _ (Fr.alloc _ _)).mono ?_; rintro e w2 ⟨ug, uc, rfl, ou, bu⟩) | (at_builtin; refine wpList_append_own _ rfl (.tmp 15) (.tmp 21) 31 rfl w.heap.size 55 i0 (.agg #[.slice none 0 0, .int .i64 0]) 2 32 Tryz.underlying31 HI.out HZ0.out HZ1.out HZ2.out rfl (by decide) (.slice ra l.length rcap) _ _ rfl ((vown_below (vown_below ho1 ((Below.refl _ _).alloc (Nat.le_refl _) _)) bu).alloc _) ⟨w2.heap.size, 0, none⟩ 1 1 [.slice ug T uc, .int .i64 Y] rfl rfl (vtwo_new _ _ _ _) (by intro u hu; simp at hu; rcases hu with rfl | rfl <;> rfl) (by unfold maxLen; omega) (by omega) (by have := bu.size; simp at this ⊢; omega) ?_; intro v6 w6 hown6 hgrow6 _; obtain ⟨ra6, rcap6, rfl⟩ := vown_form hown6) | go_in)
      rw [← hY] at hown6 hgrow6
      obtain ⟨t1, t2⟩ := TL.next (Or.inr rfl) hlx hxl HLF.out HRG1.out HRW1.out HP.out HB1.out (hl := T) (by rw [List.length_take, HXL.out, HT.out]; omega) bu (by rw [HT.out]; exact ou) hown6 hgrow6
      exact ⟨t1, by rw [t2, hrg.left_eq]; exact hlt⟩
open Go.WideMaps Go.WideElems Go.Maps in
theorem tellT_any (VB RB vb : Nat) (P : PlanD) (r : Nat) (hr : r < P.rels.length) (h3 : (P.rel r).2.1 ≤ 3) (b : Nat) (f : List Int → Int) (w : World) (hP : PlanSt w vb P) (hc : w.cell? ⟨VB, 0, none⟩ = some (.pointer (some ⟨vb, 0, none⟩))) (hc2 : w.cell? ⟨RB, 0, none⟩ = some (.int .i64 r)) (hCF : CF 110 3 w b f) (hsm : (live 3 f).length ≤ 1000000) :
    Calls Tryz.prog 58 #[.map (some b), .func (.func 59) #[] #[.pointer (some ⟨VB, 0, none⟩), .pointer (some ⟨RB, 0, none⟩)]] w fun e w' => ∃ v us l, e = .returned v ∧ RNew 55 w.heap.size w' v us l ∧ l.Perm (rowsL (fun t => t.take (P.rel r).2.1) f (live 3 f)) ∧ RiseL l ∧ Below w.heap.size w w' := by
  refine tellT_loop VB RB vb P r hr h3 b f w hP hc hc2 hCF hsm _ (fun w' h0 hb => ?_) (fun w' us l a cap h hpos hp hb => ?_)
  · refine (sort_nil _ w').mono ?_
    rintro e w2 ⟨rfl, rfl⟩
    exact ⟨rfl, _, [], [], rfl, ⟨rfl, World.ownsRow_nil _ _ _ _, fun j hj => absurd hj (by simp)⟩, by rw [h0]; exact List.Perm.refl _, List.Pairwise.nil, hb⟩
  · have hll : l.length ≤ 1000000 := by
      have := hp.length_eq
      rw [rowsL, List.length_map] at this
      omega
    refine (sortT_new w.heap.size w' a cap us l h hpos (fun r hr => ?_) (by omega)).mono ?_
    · have := hp.mem_iff.1 hr
      rw [rowsL, List.mem_map] at this
      obtain ⟨x, _, rfl⟩ := this
      show (List.take _ x).length ≤ 6
      rw [List.length_take]; omega
    · rintro e w2 ⟨rfl, us', l', hl, hn, hp', hr, hf⟩
      refine ⟨rfl, _, us', l', rfl, by rw [← hl] at hn; rw [← hl]; exact hn, hp'.trans hp, hr, ?_⟩
      have hs := hb.size
      exact ⟨hf.os.trans hb.os, hf.tape.trans hb.tape, hf.output.trans hb.output, Nat.le_trans hs hf.size, fun i hi => (hf.block i (by omega) (by omega)).trans (hb.block i hi)⟩
end Go.Proofs.YtondkinefmjpjaaGreat
namespace Go.Proofs.YtondkinefmjpjaaGreat
open Go.RowKit Go.WideMaps Go.WideElems Go.Maps Go.Shelf Go.MuLone
theorem enter58 : ∀ vs u, (callFunc 58 vs).run Tryz.prog u = .ok (.enter 58 vs) u := enters_of Tryz.func58 (by kernel_rfl) rfl
theorem reads_nil (w : World) : Reads w (.slice none 0 0) [] := ⟨none, 0, rfl, fun h => absurd h (by simp)⟩
set_option maxHeartbeats 4000000 in
set_option maxRecDepth 100000 in
theorem Relation_no {w : World} {vb : Nat} {P : PlanD} {rb ib : List Nat} {wb : Nat} {R : Nat → List Int → Int} {g : Nat → List Int → Option Nat} {own : Nat → Option (Nat × List Int)} (h : VSt w vb P rb ib wb R g own) (name : ByteArray) (hI : rixOf P.rels name = -1) :
    Calls Tryz.prog 31 #[.pointer (some ⟨vb, 0, none⟩), .string name] w fun e w' => e = .returned (.tuple #[.slice none 0 0, .int .i64 5]) ∧ Below w.heap.size w w' := by
  obtain ⟨W, hW⟩ : ∃ W, (w.alloc (.cells #[.pointer (some ⟨vb, 0, none⟩)] 23)).setCell ⟨vb, 0, none⟩ (.int .i32 1) = W := ⟨_, rfl⟩
  obtain ⟨p1, _, _, _, p5, _, p7, _, p9⟩ := upd_lock h (reads_nil w) hW
  have RN := relNum_at h.ok p1 name hI
  have hA := h.fr (Fr.alloc w (.cells #[.pointer (some ⟨vb, 0, none⟩)] 23))
  obtain ⟨cA, hbA⟩ := hA.hb
  have f0 := blk_free hbA 0
  have h0 := hA.h0
  have HW : Hid _ := hW
  have H9 : Hid _ := p9
  have H7 : Hid _ := p7
  obtain ⟨c, hb⟩ := h.hb
  have lv := vlt_of_block hb
  clear h hA p1 hbA hW p9 p7 hb hI
  go_enter_defers Tryz.func31, Tryz.ntmps31
  go_wp2_with (first | (go_at_call 39; refine (lock_free Tryz.muLib ⟨vb, 0, none⟩ _ h0 f0).mono ?_; rintro e w' ⟨rfl, rfl⟩; rw [HW.out]) | (go_at_call 44; refine RN.mono ?_; rintro e w2 ⟨rfl, hb2⟩))
  refine leaves_cons (f := 40) (args := #[.pointer (some ⟨vb, 0, none⟩)]) (by simp) (by simp [go_sem]) ?_
  obtain ⟨⟨k1, k2⟩, k3⟩ := H9.out (w2.alloc (.cells #[.int .i64 (-1)] 3)) ((hb2.alloc hb2.size _).mono (by rw [H7.out]; omega))
  refine (unlock_deferred Tryz.muLib ⟨vb, 0, none⟩ .returning _ k1 k2).mono ?_
  rintro e u' w3 ⟨rfl, rfl, rfl⟩
  exact ⟨_, results_tmp2 rfl _ _ _, rfl, k3⟩
theorem tellT_step (VB RB vb : Nat) (P : PlanD) (r : Nat) (hr : r < P.rels.length) (h3 : (P.rel r).2.1 ≤ 3) (b : Nat) (f : List Int → Int) (w : World) (hP : PlanSt w vb P) (hc : w.cell? ⟨VB, 0, none⟩ = some (.pointer (some ⟨vb, 0, none⟩))) (hc2 : w.cell? ⟨RB, 0, none⟩ = some (.int .i64 r)) (hCF : CF 110 3 w b f) (hsm : (live 3 f).length ≤ 1000000) :
    Calls Tryz.prog 58 #[.map (some b), .func (.func 59) #[] #[.pointer (some ⟨VB, 0, none⟩), .pointer (some ⟨RB, 0, none⟩)]] w fun e w' => ∃ v, e = .returned v ∧ ∃ us l, RNew 55 w.heap.size w' v us l ∧ l.Perm (rowsL (fun t => t.take (P.rel r).2.1) f (live 3 f)) ∧ Hid (RiseL l) ∧ Below w.heap.size w w' := by
  refine (tellT_any VB RB vb P r hr h3 b f w hP hc hc2 hCF hsm).mono ?_
  rintro e w' ⟨v, us, l, rfl, h⟩
  exact ⟨v, rfl, us, l, h⟩
def RelP (w w' : World) (P : PlanD) (R : Nat → List Int → Int) (r : Nat) (e : Ending) : Prop :=
  ∃ vv us l, e = .returned (.tuple #[vv, .int .i64 0]) ∧ RNew 55 w.heap.size w' vv us l ∧ l.Perm (rowsL (fun t => t.take (P.rel r).2.1) (R r) (live 3 (R r))) ∧ RiseL l ∧ Below w.heap.size w w'
set_option maxHeartbeats 8000000 in
set_option maxRecDepth 100000 in
theorem Relation_ok {w : World} {vb : Nat} {P : PlanD} {rb ib : List Nat} {wb : Nat} {R : Nat → List Int → Int} {g : Nat → List Int → Option Nat} {own : Nat → Option (Nat × List Int)} (h : VSt w vb P rb ib wb R g own) (name : ByteArray) {r : Nat} (hrl : r < P.rels.length) (hI : rixOf P.rels name = (r : Int)) (h3 : (P.rel r).2.1 ≤ 3) :
    Calls Tryz.prog 31 #[.pointer (some ⟨vb, 0, none⟩), .string name] w fun e w' => RelP w w' P R r e := by
  obtain ⟨W, hW⟩ : ∃ W, (w.alloc (.cells #[.pointer (some ⟨vb, 0, none⟩)] 23)).setCell ⟨vb, 0, none⟩ (.int .i32 1) = W := ⟨_, rfl⟩
  obtain ⟨p1, p2, _, _, p5, _, p7, p8, p9⟩ := upd_lock h (reads_nil w) hW
  have RN := relNum_at h.ok p1 name hI
  have hA := h.fr (Fr.alloc w (.cells #[.pointer (some ⟨vb, 0, none⟩)] 23))
  obtain ⟨cA, hbA⟩ := hA.hb
  have f0 := blk_free hbA 0
  have h0 := hA.h0
  have HW : Hid _ := hW
  have H9 : Hid _ := p9
  have H7 : Hid (W.heap.size = w.heap.size + 1) := p7
  obtain ⟨c, hb⟩ := h.hb
  have lv := vlt_of_block hb
  obtain ⟨cr1, _⟩ := h.cr r hrl
  have hcrW : CF 110 3 W (rb.getD r 0) (R r) := cr1.fr p8 (fun e => by obtain ⟨es, k, hm⟩ := cr1.isMap; rw [e, hb] at hm; cases hm)
  have hfew := h.rok.few r hrl
  obtain ⟨rv, b1, r1, r2⟩ := p2
  have hrb := h.hrb
  obtain ⟨rg, rcap, rfl⟩ := vown_some r2 (by omega)
  have r7 : W.cell? ⟨rg, r, none⟩ = some (.map (some (rb.getD r 0))) := (r2.cellAt r (by omega)).trans (mapVs_at rb r (by omega))
  obtain ⟨RBB, hRBB⟩ : ∃ x, rb.getD r 0 = x := ⟨_, rfl⟩
  rw [hRBB] at r7 hcrW
  have HTL : Hid (∀ w2, Below W.heap.size W w2 → Calls Tryz.prog 58 #[.map (some RBB), .func (.func 59) #[] #[.pointer (some ⟨w.heap.size, 0, none⟩), .pointer (some ⟨w2.heap.size, 0, none⟩)]] (w2.alloc (.cells #[.int .i64 (r : Int)] 3)).drew fun e w' => ∃ v, e = .returned v ∧ ∃ us l, RNew 55 (w2.alloc (.cells #[.int .i64 (r : Int)] 3)).drew.heap.size w' v us l ∧ l.Perm (rowsL (fun t => t.take (P.rel r).2.1) (R r) (live 3 (R r))) ∧ Hid (RiseL l) ∧ Below (w2.alloc (.cells #[.int .i64 (r : Int)] 3)).drew.heap.size (w2.alloc (.cells #[.int .i64 (r : Int)] 3)).drew w') := fun w2 hb2 => by
    have hf : Fr (fun _ => False) W (w2.alloc (.cells #[.int .i64 (r : Int)] 3)).drew := ((fr_below hb2).trans (Fr.alloc _ _) (fun _ _ h => h)).trans (Fr.drew _) (fun _ _ h => h)
    refine tellT_step w.heap.size w2.heap.size vb P r hrl h3 RBB (R r) _ (p1.fr hf (mps_none _)) (hf.cell (mps_none _) p5) ?_ (hcrW.fr hf (fun h => h)) (by omega)
    have hnew : (w2.alloc (.cells #[.int .i64 (r : Int)] 3)).drew.heap[w2.heap.size]? = some (.cells #[.int .i64 (r : Int)] 3 (0, 0)) := vheap_alloc_new _ _
    unfold World.cell?; rw [hnew]; rfl
  have brl : (r : Int) < (rb.length : Int) := by omega
  have brn : ¬ ((r : Int) < 0) := by omega
  clear h hA p1 hbA hW p9 p7 hb hI p8 cr1 hcrW r2 hRBB
  go_enter_defers Tryz.func31, Tryz.ntmps31
  go_upto_region 6 with (first | (go_at_call 39; refine (lock_free Tryz.muLib ⟨vb, 0, none⟩ _ h0 f0).mono ?_; rintro e w' ⟨rfl, rfl⟩; rw [HW.out]) | (go_at_call 44; refine RN.mono ?_; rintro e w2 ⟨rfl, hb2⟩))
  have hf2 := fr_below hb2
  have e5 := hf2.cell (mps_none _) p5
  have e1 := hf2.cell (mps_none _) r1
  have e7 := hf2.cell (mps_none _) r7
  have l5 := World.block_lt_of_cell? _ _ e5
  have l1 := World.block_lt_of_cell? _ _ e1
  have l7 := World.block_lt_of_cell? _ _ e7
  have TELL := HTL.out w2 hb2
  have HFIN : Hid (∀ w6 vv us l, RNew 55 (w2.alloc (.cells #[.int .i64 (r : Int)] 3)).drew.heap.size w6 vv us l → Below (w2.alloc (.cells #[.int .i64 (r : Int)] 3)).drew.heap.size (w2.alloc (.cells #[.int .i64 (r : Int)] 3)).drew w6 → (w6.cell? ⟨vb, 0, none⟩ = some (.int .i32 1) ∧ w6.frozen? ⟨vb, 0, none⟩ = false) ∧ RNew 55 w.heap.size (w6.setCell ⟨vb, 0, none⟩ (.int .i32 0)) vv us l ∧ Below w.heap.size w (w6.setCell ⟨vb, 0, none⟩ (.int .i32 0))) := by
    intro w6 vv us l hn6 hb6
    have hsz : (w2.alloc (.cells #[.int .i64 (r : Int)] 3)).drew.heap.size = w2.heap.size + 1 := by simp
    have hs2 := hb2.size
    have h7 := H7.out
    have hbW : Below W.heap.size W w6 := ((hb2.alloc hs2 _).drew).trans (hb6.mono (by rw [hsz]; omega))
    obtain ⟨q1, q2⟩ := H9.out w6 (hbW.mono (by omega))
    exact ⟨q1, (hn6.set (p := ⟨vb, 0, none⟩) (by rw [hsz]; show vb < _; omega) _).weak (by rw [hsz]; omega), q2⟩
  clear hf2 HTL hb2
  first | go_region_law (refine step_call rfl 58 #[.tmp 28, .tmp 29] #[130, 131] rfl enter58 #[.map (some RBB), .func (.func 59) #[] #[.pointer (some ⟨w.heap.size, 0, none⟩), .pointer (some ⟨w2.heap.size, 0, none⟩)]] (by kernel_rfl) _ TELL ?_; rintro v1 w6 ⟨us, l, r1, r2, r3, r4⟩; obtain ⟨va6, vc6, rfl⟩ := vown_form r1.2.1) | fail
  all_goals go_wp2_with fail
  all_goals refine leaves_cons (f := 40) (args := #[.pointer (some ⟨vb, 0, none⟩)]) (by simp) (by simp [go_sem]) ?_
  all_goals obtain ⟨⟨m1, m2⟩, m3, m4⟩ := HFIN.out w6 _ us l r1 r4
  all_goals refine (unlock_deferred Tryz.muLib ⟨vb, 0, none⟩ .returning _ m1 m2).mono ?_
  all_goals rintro e u' w7 ⟨rfl, rfl, rfl⟩
  all_goals exact ⟨_, results_tmp2 rfl _ _ _, .slice va6 l.length vc6, us, l, rfl, m3, r2, r3, m4⟩
end Go.Proofs.YtondkinefmjpjaaGreat
