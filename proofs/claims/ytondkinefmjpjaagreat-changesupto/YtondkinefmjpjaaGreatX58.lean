import Derived.Deep.CondSized
import Derived.JoinedCond
import Derived.Test.YtondkinefmjpjaaGreatX52
import Derived.Test.YtondkinefmjpjaaGreatX57
namespace Go.Proofs.YtondkinefmjpjaaGreat
open Go.RowKit Go.WideMaps Go.WideElems Go.Maps Go.Shelf
theorem wor_noR {P : PlanD} (h1 : 1 ≤ P.ms.length) (a : List Int) : P.wor (cont P noR) a = 0 := by
  have := clr_wor (P := P) (R := noR) (S := fun _ => true) (i := 0) (by omega) rfl a
  have e : clrR (fun _ => true) noR = noR := by funext r t; simp [clrR, noR]
  rw [e] at this
  exact this
theorem TolT.form {B : Nat} {w wx : World} {vb : Nat} {P : PlanD} {rb ib : List Nat} {wb : Nat} {av : Value} {k : Nat} {lv : Value} (h : TolT B w wx vb P rb ib wb av k lv) : ∃ a m c, lv = .slice a m c := by
  obtain ⟨_, _, _, _, _, _, l, _, hL, _⟩ := h
  obtain ⟨a, c, e⟩ := vown_form hL.row.2.1
  exact ⟨a, _, c, e⟩
theorem TolA.blw {B : Nat} {w wx : World} {vb : Nat} {P : PlanD} {rb ib : List Nat} {wb : Nat} {av : Value} {k : Nat} (h : TolA B w wx vb P rb ib wb av k) : Below B w wx := by
  obtain ⟨_, _, _, _, _, hI, _⟩ := h
  exact hI.blw
set_option maxHeartbeats 16000000 in
set_option maxRecDepth 100000 in
theorem Changes_any (s : ByteArray) (hs : s.size ≤ maxLen) (va : Option Addr) (n cap : Nat) (hn : n ≤ 1048576) (Kd Am : Nat → Int) (S T : Nat → ByteArray) (LV : Nat → Value) (L : Nat → List Int) (w : World) (hS : ScrT w va n Kd Am S T LV L) :
    Calls Tryz.prog 4 #[.string s, .slice va n cap] w fun e w' => e = .returned (.bool true) ∧ Below w.heap.size w w' := by
  by_cases hE : K.pE s = 0
  · have hG := K.pE_G hE
    have C1 := started_ok s w hs hG
    have hT := K.plan_terms s
    have hH := K.plan_head (K.rq s (K.c0 s)).2
    have hF := K.plan_full hG
    obtain ⟨P, hP⟩ : ∃ P, K.planOf (K.rq s (K.c0 s)).2 = P := ⟨_, rfl⟩
    rw [hP] at C1 hT hH hF
    have HT : Hid _ := hT
    have HH : Hid (HdOk P) := hH
    have HF : Hid (RelFull P) := hF
    have HS : Hid (Scr w va n Kd Am S LV L) := hS.1
    have HS3 : Hid _ := hS.2
    clear hP hT hH hF hS hE hG hs
    go_enter Tryz.func4, Tryz.ntmps4
    go_wp2_with fail
    refine C1.mono ?_
    rintro x w1 ⟨vb, q, rb, ib, wb, rfl, hV1, hb1, hvb1, hown1⟩
    clear C1
    have hA0 : TolA w.heap.size w w1 vb P rb ib wb (.slice none 0 0) 0 := by
      refine ⟨noR, _, _, [], [], ⟨hV1, hown1, ⟨rfl, World.ownsRow_nil _ _ _ _, fun j hj => absurd hj (by simp)⟩, once_nil, fun j hj => absurd hj (by simp), by simp, hb1⟩, fun ys => ?_⟩
      rw [show totK [] ys = 0 from rfl]
      refine wr_to ?_
      exact (S_zero fun a _ => by rw [wor_noR hV1.ok.n1]; split <;> rfl).symm
    clear hV1 hb1 hown1
    go_wp2_with fail
    go_loopw [8, 9, 10, 11, 12, 13, 14, 15, 16] (fun av kv _ _ _ _ _ _ _ wr => ∃ (k : Nat) (aa : Option Addr) (am ac : Nat), k ≤ n ∧ kv = .int .i64 k ∧ av = .slice aa am ac ∧ TolA w.heap.size w wr vb P rb ib wb av k) (fun _ kv _ _ _ _ _ _ _ _ => n - (intOf kv).toNat)
    case atStart => exact ⟨0, none, 0, 0, Nat.zero_le _, rfl, rfl, hA0⟩
    case round =>
      clear hA0
      obtain ⟨k, aa, am, ac, hk, rfl, rfl, hA⟩ := hrel
      have hb := hA.blw
      by_cases hlt : k < n
      · obtain ⟨b, off, la, lc, rfl, c0, c1, c2, c4, hr, hl⟩ := Scr.at HS.out hb hlt
        have c3 : wr.cell? ⟨b, off + k * 5 + 3, none⟩ = some (.string (T k)) := by
          have c3 := HS3.out b off rfl k hlt
          exact (hb.cell (World.block_lt_of_cell? _ _ c3)).trans c3
        have lb := World.block_lt_of_cell? _ _ c0
        have hk' : (k : Int) < (n : Int) := by omega
        have hbig : (k : Int) < 1152921504606846976 := by omega
        have hba : Below wr.heap.size wr (wr.alloc (.cells #[.int .i64 (Kd k), .int .i64 (Am k), .string (S k), .string (T k), .slice la (L k).length lc] 30)) := (Below.refl _ _).alloc (Nat.le_refl _) _
        have hA0 := hA.below (Nat.le_refl _) hba
        have hr0 := Reads.below hr hba
        obtain ⟨w0, hw0⟩ : ∃ w0, wr.alloc (.cells #[.int .i64 (Kd k), .int .i64 (Am k), .string (S k), .string (T k), .slice la (L k).length lc] 30) = w0 := ⟨_, rfl⟩
        have e0 : w0.cell? ⟨wr.heap.size, 0, none⟩ = some (.int .i64 (Kd k)) := by rw [← hw0]; simp
        have e1 : w0.cell? ⟨wr.heap.size, 1, none⟩ = some (.int .i64 (Am k)) := by rw [← hw0]; simp
        have e2 : w0.cell? ⟨wr.heap.size, 2, none⟩ = some (.string (S k)) := by rw [← hw0]; simp
        have e3 : w0.cell? ⟨wr.heap.size, 3, none⟩ = some (.string (T k)) := by rw [← hw0]; simp
        have e4 : w0.cell? ⟨wr.heap.size, 4, none⟩ = some (.slice la (L k).length lc) := by rw [← hw0]; simp
        rw [hw0] at hA0 hr0
        have HW0 : Hid (wr.alloc (.cells #[.int .i64 (Kd k), .int .i64 (Am k), .string (S k), .string (T k), .slice la (L k).length lc] 30) = w0) := hw0
        have HCP := copied_q _ (L k) w0 wr.heap.size 0 (S k) (Am k) hr0 hl e1 e2
        have HUP : Hid (∀ (u : World) (v : Value), Below w0.heap.size w0 u → Reads u v (L k) → Calls Tryz.prog 16 #[.pointer (some ⟨vb, 0, none⟩), .string (S k), .int .i64 (Am k), v] u fun e w' => ∃ v, e = .returned v ∧ ∃ vv c, v = .tuple #[vv, .int .i64 c] ∧ TolT w.heap.size w w' vb P rb ib wb (.slice aa am ac) k vv ∧ ∀ p x, u.cell? p = some x → w'.cell? p = some x) :=
          fun u v hu hru => upd_ch (hA0.below (Nat.le_refl _) hu) HH.out (Nat.le_refl _) (S k) (Am k) hru (by omega) HT.out
        have HCL : Hid (∀ (u : World) (v : Value), Below w0.heap.size w0 u → SReads u v (nmOf (Am k) (S k) (T k)) → Calls Tryz.prog 18 #[.pointer (some ⟨vb, 0, none⟩), v] u fun e w' => ∃ v, e = .returned v ∧ ∃ vv c, v = .tuple #[vv, .int .i64 c] ∧ TolT w.heap.size w w' vb P rb ib wb (.slice aa am ac) k vv) :=
          fun u v hu hsr => clr_ch (hA0.below (Nat.le_refl _) hu) HH.out HF.out (Nat.le_refl _) _ hsr (nmOf_len _ _ _)
        have HST : Hid (TolT w.heap.size w w0 vb P rb ib wb (.slice aa am ac) k (.slice none 0 0)) := hA0.still
        have NM := named_any (Kd k) (Am k) (S k) (T k) (.slice la (L k).length lc) w0 ⟨_, _, _, rfl⟩
        obtain ⟨NL, hNL⟩ : ∃ x, (L k).length = x := ⟨_, rfl⟩
        have HNL : Hid _ := hNL
        have HCC : Hid _ := HCP
        rw [hNL] at HCC HW0 c4 e4 NM
        have l0 := World.block_lt_of_cell? _ _ e0
        clear hNL HCP hr0 hA0 hba hA hr hw0 hb
        go_upto_region 9 with fail
        rw [HW0.out]
        go_upto_region 10 with fail
        cases hk2 : (Kd k == 2)
        case' false =>
          cases hk5 : (Kd k == 5)
          case' false =>
            go_upto_region 14 with fail
            have hT5 := HST.out
            obtain ⟨ya, ym, yc, hy⟩ : ∃ ya ym yc, Value.slice none 0 0 = .slice ya ym yc := ⟨_, _, _, rfl⟩
            rw [hy] at hT5 ⊢
            clear hy
            obtain ⟨w5, hw5⟩ : ∃ w5 : World, w5 = w0 := ⟨_, rfl⟩
            subst hw5
          case' true =>
            go_upto_region 13 with fail
            go_wp2_with fail
            refine NM.mono ?_
            rintro e w3 ⟨nv, rfl, hsr, hb3⟩
            have HCS := HCL.out w3 _ hb3 hsr
            obtain ⟨na, nc, rfl, _⟩ := hsr
            go_wp2_with fail
            refine HCS.mono ?_
            rintro e w5 ⟨_, rfl, vv, c, rfl, hT5⟩
            obtain ⟨ya, ym, yc, rfl⟩ := hT5.form
            go_upto_region 14 with fail
        case' true =>
          go_upto_region 11 with fail
          go_cut [11] from 51 to 62 (fun lv wx => (∃ xa xm xc, lv = .slice xa xm xc) ∧ TolT w.heap.size w wx vb P rb ib wb (.slice aa am ac) k lv ∧ wx.cell? ⟨wr.heap.size, 0, none⟩ = some (.int .i64 (Kd k)))
          case first =>
            go_region_law (first | (refine step_call rfl 17 #[.tmp 57] #[28] rfl enter17 #[.slice la NL lc] (by kernel_rfl) _ HCC.out ?_; rintro v1 w3 ⟨a1, p1, rfl, r1, b1, f1, f2⟩; rw [HNL.out]; have HR1 : Hid _ := r1) | (refine step_call rfl 16 #[.tmp 51, .tmp 53, .tmp 55, .tmp 58] #[23, 9, 3, 28] rfl enter16 #[.pointer (some ⟨vb, 0, none⟩), .string (S k), .int .i64 (Am k), .slice a1 NL p1] (by kernel_rfl) _ (HUP.out w3 (.slice a1 NL p1) b1 (by rw [← HNL.out]; exact HR1.out)) ?_; rintro v3 w4 ⟨vv, c, rfl, hT4, hcl⟩; obtain ⟨xa, xm, xc, rfl⟩ := hT4.form))
            all_goals (go_wp2; go_meet)
            all_goals exact ⟨⟨_, _, _, rfl⟩, hT4, hcl _ _ ((b1.cell (World.block_lt_of_cell? _ _ e0)).trans e0)⟩
          case' rest =>
            obtain ⟨⟨ya, ym, yc, rfl⟩, hT5, f0⟩ := hcut
            have hk5 : (Kd k == 5) = false := by
              have : Kd k = 2 := by simpa using hk2
              rw [this]; rfl
            obtain ⟨w5, hw5⟩ : ∃ w5 : World, w5 = wc := ⟨_, rfl⟩
            subst hw5
            go_upto_region 14 with fail
        all_goals (
          obtain ⟨R, g, own, us, A, lus, l, hI, hL, htot⟩ := hT5
          have HI : Hid (TolI w.heap.size w w5 vb P rb ib wb (.slice aa am ac) k R g own us A) := hI
          have HL : Hid (TolL w.heap.size w5 (.slice ya ym yc) lus l) := hL
          have HTOT : Hid (∀ ys, Go.Proofs.YtondkinefmjpjaaGreat.wr (totK A ys + totK l ys) = Go.Proofs.YtondkinefmjpjaaGreat.wr (totF (hvals P.head) (P.wor (cont P R)) ys)) := htot
          have RW := rows_r hI.st HH.out
          have hlA := hI.len
          have hlL := hL.fit.1
          clear hI hL htot HST HCL HUP HCC HNL HS3 HF HT c0 c1 c2 c3 c4 lb hl
          go_wp2_with fail
          refine RW.mono ?_
          rintro e w6 ⟨mv, mus, m, rfl, hM, hMp, hb6⟩
          have HM : Hid (TolL w5.heap.size w6 mv mus m) := hM
          have HMP : Hid _ := hMp
          have hlM := hM.fit.1
          clear hM hMp RW
          go_wp2_with fail
          refine (sound_s HL.out (HL.out.row.below hb6).read).mono ?_
          rintro e w7 ⟨rfl, hb7⟩
          go_wp2_with fail
          refine (sound_s HM.out (HM.out.row.below hb7).read).mono ?_
          rintro e w8 ⟨rfl, hb8⟩
          have b68 : Below w6.heap.size w6 w8 := hb7.trans (hb8.mono hb7.size)
          have b58 : Below w5.heap.size w5 w8 := hb6.trans (b68.mono hb6.size)
          have hA8 := HI.out.row.below b58
          have SUM := sum_any w.heap.size w.heap.size (.slice aa am ac) (.slice ya ym yc) us lus A l w8 hA8 (HL.out.row.below b58) (Nat.le_trans HI.out.blw.size b58.size) HI.out.sm HL.out.fit.2 (by omega)
          have hM8 := HM.out.row.below b68
          have HA8 : Hid _ := hA8
          have HM8 : Hid (RNew 55 w5.heap.size w8 mv mus m) := hM8
          have HB58 : Hid (Below w5.heap.size w5 w8) := b58
          clear hb6 hb7 hb8 b68 b58 hA8 hM8
          go_wp2_with fail
          refine SUM.mono ?_
          rintro e w9 ⟨av', us', rfl, hS9⟩
          obtain ⟨ba, bc, hav⟩ := vown_form hS9.row.2.1
          have hI9 := TolI.next (Nat.le_refl _) HI.out HL.out HB58.out hS9
          have hM9 : RNew 55 w5.heap.size w9 mv mus m := RNew.kp HM8.out hS9.kp (fun i hi => own_cells HA8.out.2.1 hi) (by decide)
          have HI9 : Hid (TolI w.heap.size w w9 vb P rb ib wb av' (k + 1) R g own us' (sumL A l)) := hI9
          have hl9 := hI9.len
          have HTOT9 : Hid (∀ ys, Go.Proofs.YtondkinefmjpjaaGreat.wr (totK (sumL A l) ys) = Go.Proofs.YtondkinefmjpjaaGreat.wr (totF (hvals P.head) (P.wor (cont P R)) ys)) := fun ys => by rw [sumL_tot]; exact HTOT.out ys
          have NEG := neg_s hM9 HM.out.fit
          subst hav
          clear SUM hS9 hI9 hM9 HM8 HA8 HTOT
          go_wp2_with fail
          refine NEG.mono ?_
          rintro e w10 ⟨nv, nus, rfl, hN10, hb10⟩
          go_wp2_with fail
          refine (sum_nil _ _ _ _ w10 hN10 (fit_neg HM.out.fit)).mono ?_
          rintro e w11 ⟨xv, xus, rfl, hX11, hb11⟩
          have b911 : Below w9.heap.size w9 w11 := hb10.trans (hb11.mono hb10.size)
          go_wp2_with fail
          refine (rowsOf_any _ _ w11 (HI9.out.row.below b911).read ⟨by omega, HI9.out.sm⟩).mono ?_
          rintro e w12 ⟨yv, yus, rfl, hY12, hb12⟩
          rw [keep_map] at hY12
          have hfx := fit_sum fit_nil (fit_neg HM.out.fit)
          have hfx1 := hfx.1
          go_wp2_with fail
          refine (sum_any w10.heap.size w11.heap.size xv yv xus yus _ _ w12 (hX11.below hb12) hY12 (Nat.le_trans hb11.size hb12.size) hfx.2 HI9.out.sm (by omega)).mono ?_
          rintro e w13 ⟨zv, zus, rfl, hZ⟩
          have b1213 : Below w10.heap.size w12 w13 := hZ.kp.below (fun i hi => (hX11.2.1.lt i hi).1) (Nat.le_trans hb11.size hb12.size)
          have b913 : Below w9.heap.size w9 w13 := (b911.trans (hb12.mono b911.size)).trans (b1213.mono hb10.size)
          have hlz := sumL_len (sumL [] (m.map negR)) (sumL A l)
          have NTH := nothing_any zv _ w13 hZ.row.read (by omega)
          rw [rest_nothing HI9.out.once HTOT9.out HMP.out] at NTH
          clear hZ hX11 hY12 hN10 hfx hfx1
          go_wp2_with fail
          refine NTH.mono ?_
          rintro e w14 ⟨rfl, hw14⟩
          rw [hw14]
          clear hw14
          go_wp2_with fail
          go_roundw
          case rel => exact ⟨k + 1, _, _, _, by omega, by go_num, rfl, _, _, _, _, _, HI9.out.below (Nat.le_refl _) b913, HTOT9.out⟩
          case measure => simp [intOf]; omega)
      · have hkn : ¬ (k : Int) < (n : Int) := by omega
        clear hA
        go_wp2_with (go_at_call 15; refine (alive_any _).mono ?_; rintro x w2 ⟨rfl, hb2⟩)
        go_ret
        exact ⟨rfl, hb.trans (hb2.mono hb.size)⟩
  · have C1 := started_no s w hs hE
    clear hS hE
    go_enter Tryz.func4, Tryz.ntmps4
    go_wp2_with fail
    refine C1.mono ?_
    rintro x w1 ⟨rfl, hb1⟩
    go_wp2_with (go_at_call 15; refine (alive_any _).mono ?_; rintro x w2 ⟨rfl, hb2⟩)
    go_ret
    exact ⟨rfl, hb1.trans (hb2.mono hb1.size)⟩
end Go.Proofs.YtondkinefmjpjaaGreat
namespace Go.Proofs.YtondkinefmjpjaaGreat
open Go.ChangeShapes Go.WideShapes Go.ChangeAt Go.RowKit Go.Deep Go.ChangeMaps
theorem bulk_one {H : Type} (d : DataW H) : 1 ≤ Rows.uptoBulk d := by
  cases d with
  | lit l => cases l <;> simp [Rows.uptoBulk]
  | nil => simp [Rows.uptoBulk]
  | ptr d => simp [Rows.uptoBulk]
  | slice elems spare => simp [Rows.uptoBulk]
  | agg parts => simp [Rows.uptoBulk]
  | iface t d => simp [Rows.uptoBulk]
  | map entries => simp [Rows.uptoBulk]
  | held h => simp [Rows.uptoBulk]
theorem bulk_len {H : Type} (l : List (DataW H)) : l.length ≤ Rows.uptoBulkAll l := by
  induction l with
  | nil => simp [Rows.uptoBulkAll]
  | cons x r ih => have := bulk_one x; simp only [Rows.uptoBulkAll, List.length_cons]; omega
theorem script_small {H : Type} {enc : TypeId × Value → H} {W : World} {fuel : Nat} {a0 : Option Addr} {len cap : Nat} {x : DataW H × List MemPlace} (hf : DataW.trod enc Tryz.prog W 0 (fun _ => true) true fuel 22 [.slice a0 len cap] = some x) (hk : Rows.uptoBulk x.1 ≤ 1048576) : len ≤ 1048576 := by
  rcases open_slice Tryz.underlying22 hf with ⟨hcs, _⟩ | ⟨a, len', cap', m, n, D, Pl, hcs, _, hl, hm, hmm, hx, hel⟩
  · obtain ⟨rfl, rfl, rfl⟩ : a0 = none ∧ len = 0 ∧ cap = 0 := by simpa using hcs
    omega
  · obtain ⟨rfl, rfl, rfl⟩ : a0 = some a ∧ len = len' ∧ cap = cap' := by simpa using hcs
    rw [hx] at hk
    simp only [Rows.uptoBulk] at hk
    have := bulk_len (List.map D (List.range len))
    simp only [List.length_map, List.length_range] at this
    omega
set_option maxRecDepth 100000 in
theorem Changes_lifted (os : Os) (started : os.Started) (H : Type) (enc : TypeId × Value → H) (F : Stop.Interp) :
    ReturnsInHanded {} Tryz.checked os 4 .any ((Rows.OpenSpec.upto Rows.changesSpec).pre6 enc Tryz.prog Tryz.f4 Rows.changesUptoRow.domain false) (((Rows.OpenSpec.upto Rows.changesSpec).at F).post enc Tryz.prog Tryz.f4 false true false false) := by
  refine returnsInHanded_of_cond_sized (C := Tryz.checked) (s := Rows.OpenSpec.upto Rows.changesSpec) (k := Rows.uptoSmall) rfl Tryz.own started (by kernel_rfl) Tryz.func4
    (OpenSpec.witness (enc := enc) (C := Tryz.checked) (s := Rows.OpenSpec.upto Rows.changesSpec) (k := Rows.uptoSmall) rfl false ⟨#[], #[.string ⟨#[]⟩, .slice none 0 0], []⟩ 8 (by kernel_rfl) (by kernel_rfl) (by kernel_rfl)
      (x := ([.lit (.string []), .nil], [], [])) (by kernel_rfl) rfl (by kernel_rfl)) ?_
  intro W base args ds gs before hval0 hW hcnd hk hsz _
  have hval : ∀ (j : Nat) t v, Tryz.f4.params[j]? = some t → args[j]? = some v → Value.okWide Tryz.prog W .any base t v := hval0
  have hW' := hW
  obtain ⟨p, q, hA0, hV, rfl, hfz, hnd⟩ := hW
  have hA : DataW.TrodAll enc Tryz.prog W 0 (fun _ => true) true Tryz.f4.params.toList args.toList ds p := hA0
  rw [Tryz.params4] at hA hval
  obtain ⟨v0, v1, d0, d1, p0, p1, rfl, rfl, rfl, h0, h1⟩ := trodAll_two hA
  obtain ⟨rfl, rfl⟩ := trodVars_none hV
  obtain ⟨s, rfl, rfl, rfl, hs⟩ := open_string Tryz.underlying9 (hval 0 9 v0 rfl rfl) h0
  obtain ⟨a0, len, cap, rfl⟩ := okWide_slice Tryz.underlying22 (hval 1 22 v1 rfl rfl)
  have h0k := h0
  have h1k := h1
  obtain ⟨fuel, hf⟩ := h1
  clear hA0 hval0
  simp only [List.append_nil] at hW' hk
  have hlt : ∀ x ∈ p1, x.block < W.heap.size := fun x hx => by
    have := hW'.lt x (by simp [hx])
    simpa using this
  have hw : ∀ n, n ∈ d1.weights Tryz.prog 22 → n ≤ reachBytes := fun n hn => by
    have hm : n ∈ DataW.weightsEach Tryz.prog (Tryz.f4.params.toList ++ (Rows.OpenSpec.upto Rows.changesSpec).bare.plain.varTypes Tryz.prog) ([.lit (.string s.data.toList), d1] ++ []) := DataW.weights_mem_each (j := 1) (t := 22) (d := d1) (by rw [Tryz.params4]; rfl) rfl n hn
    have := List.all_eq_true.1 hsz n hm
    simpa using this
  have hbulk : Rows.uptoBulk d1 ≤ 1048576 := by
    have h : Rows.uptoBulkAll [DataW.lit (H := H) (.string s.data.toList), d1] ≤ 1048576 := of_decide_eq_true hk
    simp only [Rows.uptoBulkAll] at h
    omega
  have fin : ∀ (e : Ending) (W' : World), e = .returned (.bool true) ∧ Below W.heap.size W W' → ∃ v, e = .returned v ∧ ((Rows.OpenSpec.upto Rows.changesSpec).at F).post enc Tryz.checked.prog Tryz.f4 false true false false W #[.string s, .slice a0 len cap] v W' := by
    rintro e W' ⟨rfl, hb⟩
    refine ⟨_, rfl, ?_⟩
    refine ⟨_, _, _, [], _, [], hW', trodAll_mk1 (shut_bool Tryz.underlying4 true), trodAll_mk2 (Below.trod Tryz.laidOut (by kernel_rfl) (of_decide_eq_true (by kernel_rfl)) h0k hb (fun x hx => by cases hx)) (Below.trod Tryz.laidOut (by kernel_rfl) (of_decide_eq_true (by kernel_rfl)) h1k hb hlt), rfl, hb.frame _, fun h => by cases h⟩
  obtain ⟨Kd, Am, S, T, LV, L, hScr⟩ := script_readsT (x := (d1, p1)) hf hw
  exact (Changes_any s hs a0 len cap (script_small (x := (d1, p1)) hf hbulk) Kd Am S T LV L W hScr).mono fun e W' h => fin e W' h
theorem Changes_true : Rows.ChangesUptoSaid :=
  OpenClaim.holds_of_cond 4 Tryz.f4 rfl rfl rfl rfl rfl rfl rfl ⟨rfl, rfl, rfl, rfl, rfl⟩ rfl rfl rfl rfl rfl (by kernel_rfl) Tryz.func4 (by kernel_rfl)
    (of_decide_eq_true (by kernel_rfl)) (by unfold Func.isWrapper; first | (rw [if_pos (by decide +kernel)]; kernel_rfl) | (rw [if_neg (by decide +kernel)]; exact ⟨rfl, rfl⟩))
    (fun os started H enc _ F => Changes_lifted os started H enc F)
end Go.Proofs.YtondkinefmjpjaaGreat
