import Derived.Test.YtondkinefmjpjaaGreatW50
/-
  An update that is undone: the law's walk.
-/
namespace Go.Proofs.YtondkinefmjpjaaGreat
open Go.RowKit Go.WideMaps Go.WideElems Go.Maps Go.Shelf

/-- What an update has done, by its answer's two parts. -/
def UpC (w : World) (vb : Nat) (P : PlanD) (rb ib : List Nat) (wb : Nat) (R : Nat → List Int → Int) (own : Nat → Option (Nat × List Int)) (name : ByteArray) (x : Int) (xs : List Int) (vv : Value) (c : Int) (w1 : World) : Prop :=
  (c ≠ 0 ∧ vv = .slice none 0 0 ∧ Below w.heap.size w w1) ∨ (c = 0 ∧ ∃ r us l g' own', UpR w w1 vb P rb ib wb R own name x xs r vv us l g' own')
theorem update_c {w : World} {vb : Nat} {P : PlanD} {rb ib : List Nat} {wb : Nat} {R : Nat → List Int → Int} {g : Nat → List Int → Option Nat} {own : Nat → Option (Nat × List Int)} (h : VSt w vb P rb ib wb R g own) (name : ByteArray) (x : Int) {v : Value} {xs : List Int} (hr : Reads w v xs) (hxl : xs.length < 4611686018427387904) (hT : ∀ r, r < P.rels.length → (P.rel r).2.1 ≤ 3) :
    Calls Tryz.prog 16 #[.pointer (some ⟨vb, 0, none⟩), .string name, .int .i64 x, v] w fun e w' => ∃ v, e = .returned v ∧ ∃ vv c, v = .tuple #[vv, .int .i64 c] ∧ UpC w vb P rb ib wb R own name x xs vv c w' := by
  refine (update_s h name x hr hxl hT).mono ?_
  rintro e w' ⟨vv, rfl, ⟨c, rfl, hc, hb⟩ | ⟨r, v', us, l, g', own', rfl, hU⟩⟩
  · exact ⟨_, rfl, _, c, rfl, Or.inl ⟨hc, rfl, hb⟩⟩
  · exact ⟨_, rfl, v', 0, rfl, Or.inr ⟨rfl, r, us, l, g', own', hU⟩⟩
/-- Rows, of a view. -/
theorem rows_s {w : World} {vb : Nat} {P : PlanD} {rb ib : List Nat} {wb : Nat} {R : Nat → List Int → Int} {g : Nat → List Int → Option Nat} {own : Nat → Option (Nat × List Int)} (h : VSt w vb P rb ib wb R g own) :
    Calls Tryz.prog 12 #[.pointer (some ⟨vb, 0, none⟩)] w fun e w' => ∃ v us l, e = .returned v ∧ RNew 55 w.heap.size w' v us l ∧ l.Perm (rowsL (hvals P.head) (P.wor (cont P R)) (live 6 (P.wor (cont P R)))) ∧ Fit 1000000 l ∧ Below w.heap.size w w' := by
  obtain ⟨c, hb⟩ := h.hb
  have hfew := wor_few h.ok h.rel h.rok
  refine (Rows_any vb wb P h.ok _ w c hb h.h0 h.pl h.wo h.cw (by omega)).mono ?_
  rintro e w' ⟨v, us, l, rfl, q1, q2, _, q4⟩
  exact ⟨v, us, l, rfl, q1, q2, rows_fit q2 h.ok.head6 (by omega), q4⟩
theorem neg_s {B : Nat} {w : World} {v : Value} {us : List Value} {l : Rws} (h : RNew 55 B w v us l) (hf : Fit 1000000 l) :
    Calls Tryz.prog 22 #[v] w fun e w' => ∃ m us, e = .returned m ∧ RNew 55 w.heap.size w' m us (l.map negR) ∧ Below w.heap.size w w' :=
  negated_any v l w h.read ⟨by have := hf.1; omega, hf.2⟩
theorem noth_s {B : Nat} {w : World} {v : Value} {us : List Value} {l : Rws} (h : RNew 103 B w v us l) (hf : Fit 3000000 l) (h0 : (l.all fun r => r.2 == 0) = true) :
    Calls Tryz.prog 24 #[v] w fun e w' => e = .returned (.bool true) ∧ w' = w := by
  have := nothing_any v l w h.read (by have := hf.1; omega)
  rw [h0] at this
  exact this
theorem Reads.frm {M : Nat → Prop} {w w' : World} {v : Value} {xs : List Int} (h : Reads w v xs) (hf : Fr M w w') (hm : Mps w M) : Reads w' v xs := by
  obtain ⟨a, cap, rfl, h2⟩ := h
  refine ⟨a, cap, rfl, fun hl => ?_⟩
  obtain ⟨g, off, rfl, h3⟩ := h2 hl
  exact ⟨g, off, rfl, fun j hj => hf.cell hm (h3 j hj)⟩
theorem Fit.le {N M : Nat} {l : Rws} (h : Fit N l) (hm : N ≤ M) : Fit M l := ⟨Nat.le_trans h.1 hm, h.2⟩

set_option maxHeartbeats 8000000 in
set_option maxRecDepth 100000 in
theorem undone_any {w : World} {vb : Nat} {P : PlanD} {rb ib : List Nat} {wb : Nat} {R : Nat → List Int → Int} {g : Nat → List Int → Option Nat} {own : Nat → Option (Nat × List Int)} (h : VSt w vb P rb ib wb R g own) (hT : ∀ r, r < P.rels.length → (P.rel r).2.1 ≤ 3) (kd am : Int) (S T : ByteArray) (la : Option Addr) (lc : Nat) (xs : List Int) (hr : Reads w (.slice la xs.length lc) xs) (hl : xs.length * 8 ≤ 140737488355328) :
    Calls Tryz.prog 25 #[.pointer (some ⟨vb, 0, none⟩), .agg #[.int .i64 kd, .int .i64 am, .string S, .string T, .slice la xs.length lc]] w fun e w' => e = .returned (.bool true) ∧ ∃ g' own', VSt w' vb P rb ib wb R g' own' ∧ VUp w w' own own' := by
  have hba : Below w.heap.size w (w.alloc (.cells #[.int .i64 kd, .int .i64 am, .string S, .string T, .slice la xs.length lc] 30)) := (Below.refl _ _).alloc (Nat.le_refl _) _
  have h0 := h.fr (fr_below hba)
  have RW := rows_s h0
  have H : Hid _ := h
  have HT : Hid _ := hT
  have HR : Hid (Reads w (.slice la xs.length lc) xs) := hr
  have HBA : Hid _ := hba
  obtain ⟨NL, hNL⟩ : ∃ x, xs.length = x := ⟨_, rfl⟩
  have HNL : Hid (xs.length = NL) := hNL
  rw [hNL] at RW HBA h0 ⊢
  have H0 : Hid _ := h0
  clear h hT hr hba hNL h0
  go_enter Tryz.func25, Tryz.ntmps25
  go_wp2_with fail
  refine RW.mono ?_
  rintro e w1 ⟨wv, us0, l0, rfl, n0, p0, f0, b0⟩
  have lb : w.heap.size < (w.alloc (.cells #[.int .i64 kd, .int .i64 am, .string S, .string T, .slice la NL lc] 30)).heap.size := by simp
  have d1 : w1.cell? ⟨w.heap.size, 1, none⟩ = some (.int .i64 am) := (b0.cell (p := ⟨w.heap.size, 1, none⟩) lb).trans (by simp)
  have d2 : w1.cell? ⟨w.heap.size, 2, none⟩ = some (.string S) := (b0.cell (p := ⟨w.heap.size, 2, none⟩) lb).trans (by simp)
  have d4 : w1.cell? ⟨w.heap.size, 4, none⟩ = some (.slice la NL lc) := (b0.cell (p := ⟨w.heap.size, 4, none⟩) lb).trans (by simp)
  have hB1 : Below w.heap.size w w1 := HBA.out.trans (b0.mono HBA.out.size)
  have HB1 : Hid _ := hB1
  have hV1 := H.out.fr (fr_below hB1)
  have HV1 : Hid _ := hV1
  have HN0 : Hid _ := n0
  have HP0 : Hid _ := p0
  have HF0 : Hid _ := f0
  have HCC : Hid (Calls Tryz.prog 17 #[.slice la NL lc] w1.drew fun e w' => ∃ v, e = .returned v ∧ ∃ a1 p1, v = .slice a1 NL p1 ∧ Reads w' (.slice a1 NL p1) xs ∧ Below w1.heap.size w1 w' ∧ w'.cell? ⟨w.heap.size, 1, none⟩ = some (.int .i64 am) ∧ w'.cell? ⟨w.heap.size, 2, none⟩ = some (.string S)) := by
    have hq := copied_q (.slice la NL lc) xs w1 w.heap.size 0 S am (by have q := Reads.below HR.out hB1; rw [HNL.out] at q; exact q) hl d1 d2
    refine hq.mono ?_
    rintro e w' ⟨v, rfl, a1, p1, rfl, q1, q2, q3, q4⟩
    rw [HNL.out] at q1 ⊢
    exact ⟨_, rfl, a1, p1, rfl, q1, q2, q3, q4⟩
  have HUP : Hid (∀ (u : World) (v : Value), Below w1.heap.size w1 u → Reads u v xs → Calls Tryz.prog 16 #[.pointer (some ⟨vb, 0, none⟩), .string S, .int .i64 am, v] u fun e w' => ∃ v, e = .returned v ∧ ∃ vv c, v = .tuple #[vv, .int .i64 c] ∧ UpC u vb P rb ib wb R own S am xs vv c w') :=
    fun u v hu hru => update_c (HV1.out.fr (fr_below hu)) S am hru (by omega) HT.out
  clear n0 p0 f0 b0 hB1 hV1 RW lb
  go_upto_region 2 with fail
  go_cut [6, 7] (fun lv ev wx => ∃ (w2 : World) (c : Int), ev = .int .i64 c ∧ Below w1.heap.size w1 w2 ∧ UpC w2 vb P rb ib wb R own S am xs lv c wx)
  case first =>
    go_region_law (first | (refine step_call rfl 17 #[.tmp 22] #[28] rfl enter17 #[.slice la NL lc] (by kernel_rfl) _ HCC.out ?_; rintro v1 w2 ⟨a1, p1, rfl, r1, b1, e1, e2⟩; have HR1 : Hid _ := r1) | (refine step_call rfl 16 #[.tmp 16, .tmp 18, .tmp 20, .tmp 23] #[23, 9, 3, 28] rfl enter16 #[.pointer (some ⟨vb, 0, none⟩), .string S, .int .i64 am, .slice a1 NL p1] (by kernel_rfl) _ (HUP.out w2 (.slice a1 NL p1) b1 HR1.out) ?_; rintro v3 w3 ⟨vv, c, rfl, hU⟩))
    all_goals (go_wp2; go_meet)
    all_goals exact ⟨w2, c, rfl, b1, hU⟩
  case rest =>
    obtain ⟨w2, c, rfl, hb2, hU⟩ := hcut
    obtain ⟨w3, hw3⟩ : ∃ w3 : World, w3 = wc := ⟨_, rfl⟩
    subst hw3
    rcases hU with ⟨hc, rfl, hb3⟩ | ⟨rfl, r, us, l, g3, own3, hU⟩
    · have hc' : (c != 0) = true := by simpa using hc
      have hB3 : Below w1.heap.size w1 w3 := hb2.trans (hb3.mono hb2.size)
      have HB3 : Hid (Below w1.heap.size w1 w3) := hB3
      clear hb2 hb3 hc HUP HCC
      go_wp2_with fail
      refine (num_any c w3).mono ?_
      rintro e w' ⟨rfl, rfl⟩
      go_wp2_with fail
      refine (neg_s (RNew.below HN0.out HB3.out) HF0.out).mono ?_
      rintro e w4 ⟨nv, us4, rfl, n4, b4⟩
      go_wp2_with fail
      refine (sum_nil _ _ _ _ w4 n4 (fit_neg HF0.out)).mono ?_
      rintro e w5 ⟨sv, us5, rfl, n5, b5⟩
      have hB5 : Below w1.heap.size w1 w5 := (HB3.out.trans (b4.mono HB3.out.size)).trans (b5.mono (Nat.le_trans HB3.out.size b4.size))
      go_wp2_with fail
      refine (rows_s (HV1.out.fr (fr_below hB5))).mono ?_
      rintro e w6 ⟨rv, us6, l6, rfl, n6, p6, f6, b6⟩
      go_wp2_with fail
      refine (sum_on _ _ _ _ _ _ _ w4.heap.size w6 (Nat.le_trans b5.size b6.size) (n5.below b6) n6 ((fit_sum fit_nil (fit_neg HF0.out)).le (by omega)) f6).mono ?_
      rintro e w7 ⟨tv, us7, rfl, n7, b7⟩
      have hB7 : Below w.heap.size w w7 := (HB1.out.trans ((hB5.trans (b6.mono hB5.size)).mono HB1.out.size)).trans (b7.mono (Nat.le_trans HB1.out.size (Nat.le_trans HB3.out.size b4.size)))
      go_wp2_with fail
      refine (noth_s n7 ((fit_sum (fit_sum fit_nil (fit_neg HF0.out)) f6).le (by omega)) (still_nothing HP0.out p6)).mono ?_
      rintro e w8 ⟨rfl, rfl⟩
      go_wp2_with fail
      go_ret
      exact ⟨rfl, g, own, H.out.fr (fr_below hB7), VUp.of_fr own (fr_below hB7)⟩
    · have hV2 := HV1.out.fr (fr_below hb2)
      have hm2 := mps_ow hV2.W
      have e1 := hU.up.fr.cell hm2 ((hb2.cell (World.block_lt_of_cell? _ _ d1)).trans d1)
      have e2 := hU.up.fr.cell hm2 ((hb2.cell (World.block_lt_of_cell? _ _ d2)).trans d2)
      have e4 := hU.up.fr.cell hm2 ((hb2.cell (World.block_lt_of_cell? _ _ d4)).trans d4)
      have hr3 := Reads.frm (Reads.below (Reads.below HR.out HB1.out) hb2) hU.up.fr hm2
      rw [HNL.out] at hr3
      have HN3 : Hid _ := (RNew.below HN0.out hb2).fr hU.up.fr hm2
      have HU : Hid _ := hU
      have HB2 : Hid _ := hb2
      have HCC3 : Hid (Calls Tryz.prog 17 #[.slice la NL lc] w3.drew fun e w' => ∃ v, e = .returned v ∧ ∃ a1 p1, v = .slice a1 NL p1 ∧ Reads w' (.slice a1 NL p1) xs ∧ Below w3.heap.size w3 w' ∧ w'.cell? ⟨w.heap.size, 1, none⟩ = some (.int .i64 am) ∧ w'.cell? ⟨w.heap.size, 2, none⟩ = some (.string S)) := by
        have hq := copied_q (.slice la NL lc) xs w3 w.heap.size 0 S am hr3 hl e1 e2
        refine hq.mono ?_
        rintro e w' ⟨v, rfl, a1, p1, rfl, q1, q2, q3, q4⟩
        rw [HNL.out] at q1 ⊢
        exact ⟨_, rfl, a1, p1, rfl, q1, q2, q3, q4⟩
      have HUB : Hid (∀ (u : World) (v : Value), Below w3.heap.size w3 u → Reads u v xs → Calls Tryz.prog 16 #[.pointer (some ⟨vb, 0, none⟩), .string S, .int .i64 (IntKind.i64.wrap (-am)), v] u fun e w' => ∃ vt, e = .returned vt ∧ ∃ vv us l g' own', vt = .tuple #[vv, .int .i64 0] ∧ RNew 55 u.heap.size w' vv us l ∧ l.Perm (rowsL (hvals P.head) (dlt P (updR R r (pad xs) am) r (pad xs) (-am)) (live 6 (dlt P (updR R r (pad xs) am) r (pad xs) (-am)))) ∧ VSt w' vb P rb ib wb R g' own' ∧ VUp u w' own3 own') :=
        fun u v hu hru => update_back H.out.rok hU (hU.st.fr (fr_below hu)) hru
      clear hU hb2 hm2 hV2 d1 d2 d4 hr3 HCC HUP
      go_wp2_with fail
      refine (num_any 0 w3).mono ?_
      rintro e w' ⟨rfl, hw'⟩
      rw [hw']
      clear hw'
      go_upto_region 6 with fail
      go_cut [9, 10] (fun mv fv wx => ∃ (w4 : World) (us4 : List Value) (l4 : Rws) (g4 : Nat → List Int → Option Nat) (own4 : Nat → Option (Nat × List Int)), fv = .int .i64 0 ∧ Below w3.heap.size w3 w4 ∧ RNew 55 w4.heap.size wx mv us4 l4 ∧ l4.Perm (rowsL (hvals P.head) (dlt P (updR R r (pad xs) am) r (pad xs) (-am)) (live 6 (dlt P (updR R r (pad xs) am) r (pad xs) (-am)))) ∧ VSt wx vb P rb ib wb R g4 own4 ∧ VUp w4 wx own3 own4)
      case first =>
        go_region_law (first | (refine step_call rfl 17 #[.tmp 51] #[28] rfl enter17 #[.slice la NL lc] (by kernel_rfl) _ HCC3.out ?_; rintro v1 w4 ⟨a1, p1, rfl, r1, b1, e1, e2⟩; have HR1 : Hid _ := r1) | (refine step_call rfl 16 #[.tmp 44, .tmp 46, .tmp 49, .tmp 52] #[23, 9, 3, 28] rfl enter16 #[.pointer (some ⟨vb, 0, none⟩), .string S, .int .i64 (IntKind.i64.wrap (-am)), .slice a1 NL p1] (by kernel_rfl) _ (HUB.out w4 (.slice a1 NL p1) b1 HR1.out) ?_; rintro v3 w5 ⟨vv, us5, l5, g5, own5, rfl, q1, q2, q3, q4⟩))
        all_goals (go_wp2; go_meet)
        all_goals exact ⟨w4, us5, l5, g5, own5, rfl, b1, q1, q2, q3, q4⟩
      case rest =>
        obtain ⟨w4, us4, l4, g4, own4, rfl, hb4, n4, p4, hV5, up4⟩ := hcut
        obtain ⟨w5, hw5⟩ : ∃ w5 : World, w5 = wc := ⟨_, rfl⟩
        subst hw5
        have hm4 := mps_ow (HU.out.st.fr (fr_below hb4)).W
        have nl := ((RNew.below HU.out.new hb4).fr up4.fr hm4)
        have nw := ((RNew.below HN3.out hb4).fr up4.fr hm4)
        have ok := H.out.ok
        have f1 : Fit 1000000 l := rows_fit HU.out.perm ok.head6 (diff_few (wor_few ok H.out.rel HU.out.st.rok) (wor_few ok H.out.rel H.out.rok))
        have f4 : Fit 1000000 l4 := rows_fit p4 ok.head6 (diff_few (wor_few ok H.out.rel (by rw [upd_back]; exact H.out.rok)) (wor_few ok H.out.rel HU.out.st.rok))
        have HV5 : Hid (VSt w5 vb P rb ib wb R g4 own4) := hV5
        have UPW : Hid (VUp w w5 own own4) := (((VUp.of_fr own (fr_below (HB1.out.trans (HB2.out.mono HB1.out.size)))).trans HU.out.up).trans (VUp.of_fr own3 (fr_below hb4))).trans up4
        have BK : Hid _ := back_nothing HU.out.perm p4 (dlt_back P R r (pad xs) am)
        clear hm4 up4 hV5 hb4 HCC3 HUB ok
        go_wp2_with fail
        refine (sum_nil _ _ _ _ w5 nl f1).mono ?_
        rintro e w6 ⟨sv, us6, rfl, n6, b6⟩
        go_wp2_with fail
        refine (sum_on _ _ _ _ _ _ _ w5.heap.size w6 b6.size n6 (n4.below b6) ((fit_sum fit_nil f1).le (by omega)) f4).mono ?_
        rintro e w7 ⟨tv, us7, rfl, n7, b7⟩
        have b57 : Below w5.heap.size w5 w7 := b6.trans b7
        go_wp2_with fail
        refine (neg_s (nw.below b57) HF0.out).mono ?_
        rintro e w8 ⟨nv, us8, rfl, n8, b8⟩
        go_wp2_with fail
        refine (sum_nil _ _ _ _ w8 n8 (fit_neg HF0.out)).mono ?_
        rintro e w9 ⟨sv9, us9, rfl, n9, b9⟩
        have b79 : Below w7.heap.size w7 w9 := b8.trans (b9.mono b8.size)
        have b59 : Below w5.heap.size w5 w9 := b57.trans (b79.mono b57.size)
        go_wp2_with fail
        refine (rows_s (HV5.out.fr (fr_below b59))).mono ?_
        rintro e w10 ⟨rv, us10, l10, rfl, n10, p10, f10, b10⟩
        go_wp2_with fail
        refine (sum_on _ _ _ _ _ _ _ w8.heap.size w10 (Nat.le_trans b9.size b10.size) (n9.below b10) n10 ((fit_sum fit_nil (fit_neg HF0.out)).le (by omega)) f10).mono ?_
        rintro e w11 ⟨tv11, us11, rfl, n11, b11⟩
        have b711 : Below w7.heap.size w7 w11 := (b79.trans (b10.mono b79.size)).trans (b11.mono b8.size)
        have b511 : Below w5.heap.size w5 w11 := b57.trans (b711.mono b57.size)
        go_wp2_with fail
        refine (num_any 0 w11).mono ?_
        rintro e w' ⟨rfl, hw'⟩
        rw [hw']
        clear hw'
        go_wp2_with fail
        refine (noth_s (n7.below b711) ((fit_sum (fit_sum fit_nil f1) f4).le (by omega)) BK.out).mono ?_
        rintro e w' ⟨rfl, hw'⟩
        rw [hw']
        clear hw'
        go_wp2_with fail
        refine (noth_s n11 ((fit_sum (fit_sum fit_nil (fit_neg HF0.out)) f10).le (by omega)) (still_nothing HP0.out p10)).mono ?_
        rintro e w' ⟨rfl, hw'⟩
        rw [hw']
        clear hw'
        go_wp2_with fail
        go_ret
        exact ⟨rfl, g4, own4, HV5.out.fr (fr_below b511), UPW.out.trans (VUp.of_fr own4 (fr_below b511))⟩

end Go.Proofs.YtondkinefmjpjaaGreat
