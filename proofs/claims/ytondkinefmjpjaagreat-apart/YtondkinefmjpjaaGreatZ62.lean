import Derived.Test.YtondkinefmjpjaaGreatZ53
import Derived.Test.YtondkinefmjpjaaGreatZ61
namespace Go.Proofs.YtondkinefmjpjaaGreat
open Go.RowKit Go.WideMaps Go.WideElems Go.Maps Go.Shelf
set_option maxHeartbeats 16000000 in
set_option maxRecDepth 100000 in
theorem Apart_any (s : ByteArray) (hs : s.size ≤ maxLen) (va : Option Addr) (n cap : Nat) (hn : n < 1152921504606846976) (Kd Am : Nat → Int) (S T : Nat → ByteArray) (LV : Nat → Value) (L : Nat → List Int) (w : World) (hS : ScrT w va n Kd Am S T LV L) :
    Calls Tryz.prog 8 #[.string s, .slice va n cap] w fun e w' => e = .returned (.bool true) ∧ Below w.heap.size w w' := by
  by_cases hE : K.pE s = 0
  · have hG := K.pE_G hE
    have C1 := started_ok s w hs hG
    have C2 : Hid (∀ u : World, _) := fun u => Start_ok s u hs hG
    have hT := K.plan_terms s
    obtain ⟨P, hP⟩ : ∃ P, K.planOf (K.rq s (K.c0 s)).2 = P := ⟨_, rfl⟩
    rw [hP] at C1 hT C2
    have HT : Hid _ := hT
    have HS : Hid _ := hS.1
    have HS3 : Hid _ := hS.2
    clear hP hT hS hE hG hs
    go_enter Tryz.func8, Tryz.ntmps8
    go_wp2_with fail
    refine C1.mono ?_
    rintro x w1 ⟨vb1, q, rb1, ib1, wb1, rfl, hV1, hb1, hvb1, hown1⟩
    clear C1
    go_wp2_with fail
    refine (C2.out w1).mono ?_
    rintro x w2 ⟨vb2, rb2, ib2, wb2, rfl, hV2, hb2, hvb2, hown2⟩
    have hB2 : Below w.heap.size w w2 := hb1.trans (hb2.mono hb1.size)
    have hTW : Two w.heap.size w2 P ⟨vb1, rb1, ib1, wb1⟩ noR ⟨vb2, rb2, ib2, wb2⟩ noR := by
      exact ⟨_, _, _, _, hV1.fr (fr_below hb2), hV2, fun i hi => by
        cases e : own0 wb2 rb2 ib2 i with
        | none => rfl
        | some r =>
          exfalso
          have q2 := hown2 i (by rw [e]; exact fun q => by cases q)
          cases e1 : own0 wb1 rb1 ib1 i with
          | none => exact hi e1
          | some r1 => obtain ⟨es, c, e'⟩ := hV1.W.m i r1 e1; have := vlt_of_block e'; omega, hown1, fun b hb => Nat.le_trans hb1.size (hown2 b hb)⟩
    clear hV1 hV2 hown1 hown2 hb1 hb2 C2
    obtain ⟨V1, hVN1⟩ : ∃ V : VN, V = ⟨vb1, rb1, ib1, wb1⟩ := ⟨_, rfl⟩
    obtain ⟨V2, hVN2⟩ : ∃ V : VN, V = ⟨vb2, rb2, ib2, wb2⟩ := ⟨_, rfl⟩
    have hv1 : vb1 = V1.vb := by rw [hVN1]
    have hv2 : vb2 = V2.vb := by rw [hVN2]
    rw [← hVN1, ← hVN2] at hTW
    rw [hv1, hv2]
    have hAI0 : AI w w2 P V1 V2 w2 := ⟨⟨_, hTW⟩, ⟨_, _, hTW⟩, Fr.refl _ _, hB2.size, hB2⟩
    clear hVN1 hVN2 hv1 hv2 hvb1 hvb2 hTW hB2
    go_wp2_with fail
    go_loopw [11, 12, 13, 14, 15, 16, 17, 18, 19, 20, 21, 22, 23, 24, 25, 26, 27] (fun kv _ _ _ _ _ _ _ _ _ _ _ _ _ _ _ _ wr => ∃ k : Nat, k ≤ n ∧ kv = .int .i64 k ∧ AI w w2 P V1 V2 wr) (fun kv _ _ _ _ _ _ _ _ _ _ _ _ _ _ _ _ _ => n - (intOf kv).toNat)
    case atStart => exact ⟨0, Nat.zero_le _, rfl, hAI0⟩
    case round =>
      clear hAI0
      obtain ⟨k, hk, rfl, hA⟩ := hrel
      have hb := hA.blw
      by_cases hlt : k < n
      · obtain ⟨b, off, la, lc, rfl, c0, c1, c2, c4, hr, hl⟩ := Scr.at HS.out hb hlt
        have c3 : wr.cell? ⟨b, off + k * 5 + 3, none⟩ = some (.string (T k)) := by
          have c3 := HS3.out b off rfl k hlt
          exact (hb.cell (World.block_lt_of_cell? _ _ c3)).trans c3
        have lb := World.block_lt_of_cell? _ _ c0
        have hk' : (k : Int) < (n : Int) := by omega
        have hbig : (k : Int) < 1152921504606846976 := by omega
        have hba : Below wr.heap.size wr (wr.alloc (.cells #[.int .i64 (Kd k), .int .i64 (Am k), .string (S k), .string (T k), .slice la (L k).length lc] 30)) := (Below.refl _ _).alloc (Nat.le_refl _) _
        have hA0 := hA.below hba
        have hr0 := Reads.below hr hba
        have hO0 : OpB wr.heap.size (S k) (wr.alloc (.cells #[.int .i64 (Kd k), .int .i64 (Am k), .string (S k), .string (T k), .slice la (L k).length lc] 30)) := ⟨_, vheap_alloc_new _ _, rfl⟩
        obtain ⟨w0, hw0⟩ : ∃ w0, wr.alloc (.cells #[.int .i64 (Kd k), .int .i64 (Am k), .string (S k), .string (T k), .slice la (L k).length lc] 30) = w0 := ⟨_, rfl⟩
        have e0 : w0.cell? ⟨wr.heap.size, 0, none⟩ = some (.int .i64 (Kd k)) := by rw [← hw0]; simp
        have e1 : w0.cell? ⟨wr.heap.size, 1, none⟩ = some (.int .i64 (Am k)) := by rw [← hw0]; simp
        have e2 : w0.cell? ⟨wr.heap.size, 2, none⟩ = some (.string (S k)) := by rw [← hw0]; simp
        have e4 : w0.cell? ⟨wr.heap.size, 4, none⟩ = some (.slice la (L k).length lc) := by rw [← hw0]; simp
        rw [hw0] at hA0 hr0 hO0
        have HW0 : Hid (wr.alloc (.cells #[.int .i64 (Kd k), .int .i64 (Am k), .string (S k), .string (T k), .slice la (L k).length lc] 30) = w0) := hw0
        have l0 := World.block_lt_of_cell? _ _ e0
        have NONE := none_ai hA0
        have HA0 : Hid (AI w w2 P V1 V2 w0) := hA0
        have HO0 : Hid (OpB wr.heap.size (S k) w0) := hO0
        have HR0 : Hid (Reads w0 (.slice la (L k).length lc) (L k)) := hr0
        have HL : Hid ((L k).length * 8 ≤ 140737488355328) := hl
        clear hA0 hO0 hr0 hba hA hr hw0 hb hl
        go_upto_region 11 with fail
        rw [HW0.out]
        go_wp2_with fail
        refine NONE.mono ?_
        rintro e w3 ⟨_, rfl, ⟨na, nc, rfl⟩, hb3⟩
        have HA3 : Hid (AI w w2 P V1 V2 w3) := HA0.out.below hb3
        have HO3 : Hid (OpB wr.heap.size (S k) w3) := HO0.out.below hb3
        have g0 := (hb3.cell (World.block_lt_of_cell? _ _ e0)).trans e0
        have g1 := (hb3.cell (World.block_lt_of_cell? _ _ e1)).trans e1
        have g2 := (hb3.cell (World.block_lt_of_cell? _ _ e2)).trans e2
        have g4 := (hb3.cell (World.block_lt_of_cell? _ _ e4)).trans e4
        have HR3 : Hid (Reads w3 (.slice la (L k).length lc) (L k)) := HR0.out.below hb3
        have l3 := World.block_lt_of_cell? _ _ g0
        clear NONE e0 e1 e2 e4 l0 hb3 c0 c1 c2 c3 c4 lb
        obtain ⟨ob, hob⟩ : ∃ ob, wr.heap.size = ob := ⟨_, rfl⟩
        rw [hob] at g0 g1 g2 g4 l3 HO3
        rw [hob]
        clear HW0 HO0 HA0 HR0
        go_upto_region 15 with fail
        cases hk2 : (Kd k == 2)
        case' false =>
          go_upto_region 23 with fail
          obtain ⟨w5, hw5⟩ : ∃ w5 : World, w5 = w3 := ⟨_, rfl⟩
          subst hw5
          have HA5 := HA3
          have HO5 := HO3
        case' true =>
          have HLL : Hid ((L k).length < 4611686018427387904) := by have := HL.out; unfold Hid; omega
          go_wp2_with fail
          refine (copied_any _ (L k) _ HR3.out HL.out).mono ?_
          rintro e w4 ⟨a1, p1, rfl, o1, b1⟩
          have HI : Hid (IntRow w2.heap.size w4.heap.size w4 (.slice a1 (L k).length p1)) := intRow_own o1 HA3.out.size (Nat.le_refl _) HLL.out
          have UP := update_ai (HA3.out.below b1) HT.out (S k) (Am k) (reads_own o1 rfl) HLL.out
          have HO4 : Hid (OpB ob (S k) w4) := HO3.out.below b1
          have i1 := (b1.cell (World.block_lt_of_cell? _ _ g1)).trans g1
          have i2 := (b1.cell (World.block_lt_of_cell? _ _ g2)).trans g2
          have l4 := World.block_lt_of_cell? _ _ i1
          clear o1 b1 g0 g1 g2 g4 l3
          obtain ⟨NL, hNL⟩ : ∃ x, (L k).length = x := ⟨_, rfl⟩
          rw [hNL] at HI UP
          rw [hNL]
          clear hNL
          go_wp2_with fail
          refine UP.mono ?_
          rintro e w6 ⟨_, rfl, vv, c, rfl, hA6, ⟨m, hAR, hm⟩, hsz, hblk, hint⟩
          obtain ⟨xa, xc, rfl⟩ : ∃ xa xc, vv = .slice xa m xc := by obtain ⟨xa, xc, e, _⟩ := hAR; exact ⟨xa, xc, e⟩
          have HI6 := hint _ _ _ HI.out
          have HO6 : Hid (OpB ob (S k) w6) := by obtain ⟨cur, e, h2⟩ := HO4.out; exact ⟨cur, hblk _ _ _ _ e, h2⟩
          have HA6 : Hid (AI w w2 P V1 V2 w6) := hA6
          have HAR6 : Hid (ARow w2.heap.size w6.heap.size w6 (.slice xa m xc) m) := hAR
          clear hA6 hAR hsz hblk hint UP i1 i2 l4 HO4 HI
          go_wp2_with fail
          refine (spoil_sp HI6).mono ?_
          rintro e w7 ⟨rfl, hs7⟩
          have hA7 := HA6.out.sp hs7
          have hAR7 := HAR6.out.sp hs7
          have hO7 := HO6.out.sp hs7
          clear HI6 HA6 HAR6 HO6 hs7
          go_wp2_with fail
          go_loopw [17] (fun iv wx => ∃ i : Nat, i ≤ m ∧ iv = .int .i64 i ∧ AI w w2 P V1 V2 wx ∧ ARow w2.heap.size w6.heap.size wx (.slice xa m xc) m ∧ OpB ob (S k) wx) (fun iv _ => m - (intOf iv).toNat)
          case atStart => exact ⟨0, Nat.zero_le _, rfl, hA7, hAR7, hO7⟩
          case' round =>
            clear hA7 hAR7 hO7
            obtain ⟨i, hi, rfl, hA8, hAR8, hO8⟩ := hrel
            obtain ⟨w5, hw5⟩ : ∃ w5 : World, w5 = wr := ⟨_, rfl⟩
            subst hw5
            have HA5 : Hid (AI w w2 P V1 V2 w5) := hA8
            have HAR8 : Hid (ARow w2.heap.size w6.heap.size w5 (.slice xa m xc) m) := hAR8
            have HO5 : Hid (OpB ob (S k) w5) := hO8
            clear hA8 hAR8 hO8
            by_cases hil : i < m
            case pos =>
              have hil' : (i : Int) < (m : Int) := by omega
              obtain ⟨g, ua, un, uc, hxa, lg, d1, hI, _⟩ := arow_at HAR8.out hil
              subst hxa
              go_wp2_with fail
              refine (spoil_sp hI).mono ?_
              rintro e w9 ⟨rfl, hs9⟩
              have HQ : Hid (AI w w2 P V1 V2 w9 ∧ ARow w2.heap.size w6.heap.size w9 (.slice (some ⟨g, 0, none⟩) m xc) m ∧ OpB ob (S k) w9) := ⟨HA5.out.sp (hs9.mono (Nat.le_refl _) (Nat.le_refl _)), HAR8.out.sp hs9, HO5.out.sp hs9⟩
              clear hs9 hI d1 lg
              go_wp2_with fail
              go_roundw
              case rel => exact ⟨i + 1, by omega, by go_num, HQ.out⟩
              case measure => simp [intOf]; omega
            case' neg =>
              have hil' : ¬ (i : Int) < (m : Int) := by omega
              go_upto_region 23 with fail
              clear HAR8 hil' hil hi
        all_goals (
          obtain ⟨N, hN⟩ := rows_ai HA5.out
          have HN : Hid _ := hN
          have R1 := hN _ (Below.refl _ _)
          clear hN
          go_wp2_with fail
          refine R1.mono ?_
          rintro e w6 ⟨_, rfl, usa, A, hAl, hTA⟩
          obtain ⟨aa, ac, rfl⟩ := vown_form hTA.1.2.1
          have hNs : N ≤ 1000000 := by rw [← hAl]; exact hTA.2.2.1
          have R2 := HN.out w6 hTA.2.2.2
          have hAR6 := arow_new hTA.1 HA5.out.size (Nat.le_refl _) (fun j hj => by have := (hTA.2.1 j hj).2.2; omega)
          have HA6 : Hid (AI w w2 P V1 V2 w6) := HA5.out.below hTA.2.2.2
          have HO6 : Hid (OpB ob (S k) w6) := HO5.out.below hTA.2.2.2
          rw [hAl] at hAR6
          rw [hAl]
          have HAR6 : Hid (ARow w2.heap.size w6.heap.size w6 (.slice aa N ac) N) := hAR6
          clear hAR6 hTA hAl R1 HN HA5 HO5
          go_wp2_with fail
          refine R2.mono ?_
          rintro e w7 ⟨_, rfl, usb, D, hBl, hTB⟩
          obtain ⟨ba, bc, rfl⟩ := vown_form hTB.1.2.1
          rw [hBl] at hTB
          rw [hBl]
          have HAR : Hid (ARow w2.heap.size w6.heap.size w7 (.slice aa N ac) N) := HAR6.out.below hTB.2.2.2
          have HBR : Hid (∀ wy, Sp w2.heap.size w6.heap.size w7 wy → ∀ i, i < N → BAt wy ba i) := fun wy hs i hi => brow_at (hTB.1.sp hs (Nat.le_refl _)) hBl hTB.2.1 hi
          have HA7 : Hid (AI w w2 P V1 V2 w7) := HA6.out.below hTB.2.2.2
          have HO7 : Hid (OpB ob (S k) w7) := HO6.out.below hTB.2.2.2
          clear HAR6 hTB hBl R2 HA6 HO6
          go_wp2_with fail
          go_loopw [20, 21] (fun iv _ wx => ∃ i : Nat, i ≤ N ∧ iv = .int .i64 i ∧ Sp w2.heap.size w6.heap.size w7 wx) (fun iv _ _ => N - (intOf iv).toNat)
          case atStart => exact ⟨0, Nat.zero_le _, rfl, Sp.refl _ _ _⟩
          case round =>
            obtain ⟨i, hi, rfl, hs⟩ := hrel
            obtain ⟨w8, hw8⟩ : ∃ w8 : World, w8 = wr := ⟨_, rfl⟩
            subst hw8
            by_cases hil : i < N
            · have hil' : (i : Int) < (N : Int) := by omega
              obtain ⟨g, ua, un, uc, hxa, lg, d1, hI, hW⟩ := arow_at (HAR.out.sp hs) hil
              subst hxa
              have HW : Hid _ := hW
              clear hW
              go_wp2_with fail
              refine (spoil_sp hI).mono ?_
              rintro e w9 ⟨rfl, hs9⟩
              obtain ⟨y, d2, f2, l9, hs10⟩ := HW.out w9 hs9
              have hs11 := hs.trans hs10
              obtain ⟨w10, hw10⟩ : ∃ w10, w9.setCell ⟨g, i * 2 + 1, none⟩ (.int .i64 0) = w10 := ⟨_, rfl⟩
              rw [hw10] at hs11
              have HS10 : Hid (Sp w2.heap.size w6.heap.size w7 w10) := hs11
              have HW10 : Hid (w9.setCell ⟨g, i * 2 + 1, none⟩ (.int .i64 0) = w10) := hw10
              obtain ⟨gb, va', vc, XL, y2, hba', b1, hXL, b2, hy2, hcell⟩ := HBR.out w10 hs11 i hil
              subst hba'
              have HC : Hid _ := hcell
              clear d1 hI hs hs9 hs10 hs11 hcell hw10 HW
              go_upto_region 32 with fail
              rw [HW10.out]
              clear d2 f2 l9 lg HW10
              go_wp2_with fail
              go_loopw [21] (fun jv wx => ∃ j : Nat, j ≤ XL ∧ jv = .int .i64 j ∧ wx = w10) (fun jv _ => XL - (intOf jv).toNat)
              case atStart => exact ⟨0, Nat.zero_le _, rfl, rfl⟩
              case round =>
                obtain ⟨j, hj, rfl, hwj⟩ := hrel
                subst hwj
                by_cases hjl : j < XL
                · have hjl' : (j : Int) < (XL : Int) := by omega
                  obtain ⟨gu, off, x, hua, hx, hx0⟩ := HC.out j hjl
                  subst hua
                  have hx1 : ¬ x < 0 := by omega
                  clear HC
                  go_wp2_with fail
                  go_roundw
                  case rel => exact ⟨j + 1, by omega, by go_num, by trivial⟩
                  case measure => simp [intOf]; omega
                · have hjl' : ¬ (j : Int) < (XL : Int) := by omega
                  clear HC
                  go_wp2_with fail
                  go_roundw
                  case rel => exact ⟨i + 1, by omega, by go_num, HS10.out⟩
                  case measure => simp [intOf]; omega
            · have hil' : ¬ (i : Int) < (N : Int) := by omega
              have HA8 : Hid (AI w w2 P V1 V2 w8) := HA7.out.sp hs
              have HO8 : Hid (OpB ob (S k) w8) := HO7.out.sp hs
              have q2 := HO8.out.cell
              have lq := World.block_lt_of_cell? _ _ q2
              have R3 := rel_ai HA8.out HT.out (S k)
              clear HAR HBR HA7 HO7 hs
              go_wp2_with fail
              refine R3.mono ?_
              rintro e w9 ⟨_, rfl, cv, cc, usc, C, rfl, hTC⟩
              obtain ⟨ca, c5, rfl⟩ := vown_form hTC.1.2.1
              have HA9 : Hid (AI w w2 P V1 V2 w9) := HA8.out.below hTC.2.2.2
              have q3 := (HO8.out.below hTC.2.2.2).cell
              have lq3 := World.block_lt_of_cell? _ _ q3
              have hAR9 := arow_new hTC.1 HA8.out.size (Nat.le_refl _) (fun j hj => by have := (hTC.2.1 j hj).2.2; omega)
              have R4 := rel_ai HA9.out HT.out (S k)
              have hCs := hTC.2.2.1
              obtain ⟨NC, hNC⟩ : ∃ x, C.length = x := ⟨_, rfl⟩
              rw [hNC] at hAR9 hCs
              rw [hNC]
              have HAR9 : Hid (ARow w2.heap.size w9.heap.size w9 (.slice ca NC c5) NC) := hAR9
              clear hAR9 hTC hNC R3 HA8 HO8 q2 lq
              go_wp2_with fail
              refine R4.mono ?_
              rintro e w10 ⟨_, rfl, dv, dc, usd, D', rfl, hTD⟩
              obtain ⟨da, d5, rfl⟩ := vown_form hTD.1.2.1
              obtain ⟨ND, hND⟩ : ∃ x, D'.length = x := ⟨_, rfl⟩
              have hDs := hTD.2.2.1
              rw [hND] at hTD hDs
              rw [hND]
              have HAR : Hid (ARow w2.heap.size w9.heap.size w10 (.slice ca NC c5) NC) := HAR9.out.below hTD.2.2.2
              have HBR : Hid (∀ wy, Sp w2.heap.size w9.heap.size w10 wy → ∀ i, i < ND → BAt wy da i) := fun wy hs i hi => brow_at (hTD.1.sp hs (Nat.le_refl _)) hND hTD.2.1 hi
              have HA10 : Hid (AI w w2 P V1 V2 w10) := HA9.out.below hTD.2.2.2
              clear HAR9 hTD hND R4 HA9 q3 lq3
              go_wp2_with fail
              go_loopw [26, 27] (fun iv _ wx => ∃ i : Nat, i ≤ NC ∧ iv = .int .i64 i ∧ Sp w2.heap.size w9.heap.size w10 wx) (fun iv _ _ => NC - (intOf iv).toNat)
              case atStart => exact ⟨0, Nat.zero_le _, rfl, Sp.refl _ _ _⟩
              case round =>
                clear hi hil hil'
                obtain ⟨i2, hi, rfl, hs⟩ := hrel
                obtain ⟨w11, hw11⟩ : ∃ w11 : World, w11 = wr := ⟨_, rfl⟩
                subst hw11
                by_cases hil : i2 < NC
                · have hil' : (i2 : Int) < (NC : Int) := by omega
                  by_cases hid : i2 < ND
                  · have hid' : (i2 : Int) < (ND : Int) := by omega
                    obtain ⟨g, ua, un, uc, hxa, lg, d1, hI, hW⟩ := arow_at (HAR.out.sp hs) hil
                    subst hxa
                    have HW : Hid _ := hW
                    clear hW
                    go_wp2_with fail
                    refine (spoil_sp hI).mono ?_
                    rintro e w12 ⟨rfl, hs9⟩
                    obtain ⟨y, d2, f2, l9, hs10⟩ := HW.out w12 hs9
                    have hs11 := hs.trans hs10
                    obtain ⟨w13, hw13⟩ : ∃ w13, w12.setCell ⟨g, i2 * 2 + 1, none⟩ (.int .i64 0) = w13 := ⟨_, rfl⟩
                    rw [hw13] at hs11
                    have HS10 : Hid (Sp w2.heap.size w9.heap.size w10 w13) := hs11
                    have HW10 : Hid (w12.setCell ⟨g, i2 * 2 + 1, none⟩ (.int .i64 0) = w13) := hw13
                    obtain ⟨gb, va', vc, XL, y2, hba', b1, hXL, b2, hy2, hcell⟩ := HBR.out w13 hs11 i2 hid
                    subst hba'
                    have HC : Hid _ := hcell
                    clear d1 hI hs hs9 hs10 hs11 hcell hw13 HW
                    go_upto_region 46 with fail
                    rw [HW10.out]
                    clear d2 f2 l9 lg HW10
                    go_wp2_with fail
                    go_loopw [27] (fun jv wx => ∃ j : Nat, j ≤ XL ∧ jv = .int .i64 j ∧ wx = w13) (fun jv _ => XL - (intOf jv).toNat)
                    case atStart => exact ⟨0, Nat.zero_le _, rfl, rfl⟩
                    case round =>
                      obtain ⟨j, hj, rfl, hwj⟩ := hrel
                      subst hwj
                      by_cases hjl : j < XL
                      · have hjl' : (j : Int) < (XL : Int) := by omega
                        obtain ⟨gu, off, x, hua, hx, hx0⟩ := HC.out j hjl
                        subst hua
                        have hx1 : ¬ x < 0 := by omega
                        clear HC
                        go_wp2_with fail
                        go_roundw
                        case rel => exact ⟨j + 1, by omega, by go_num, by trivial⟩
                        case measure => simp [intOf]; omega
                      · have hjl' : ¬ (j : Int) < (XL : Int) := by omega
                        clear HC
                        go_wp2_with fail
                        go_roundw
                        case rel => exact ⟨i2 + 1, by omega, by go_num, HS10.out⟩
                        case measure => simp [intOf]; omega
                  · have hid' : ¬ (i2 : Int) < (ND : Int) := by omega
                    have HAE : Hid (AI w w2 P V1 V2 w11) := HA10.out.sp hs
                    clear HAR HBR hs
                    go_wp2_with fail
                    go_roundw
                    case rel => exact ⟨k + 1, by omega, by go_num, HAE.out⟩
                    case measure => simp [intOf]; omega
                · have hil' : ¬ (i2 : Int) < (NC : Int) := by omega
                  have HAE : Hid (AI w w2 P V1 V2 w11) := HA10.out.sp hs
                  clear HAR HBR hs
                  go_wp2_with fail
                  go_roundw
                  case rel => exact ⟨k + 1, by omega, by go_num, HAE.out⟩
                  case measure => simp [intOf]; omega)
      · have hnot : ¬ (k : Int) < (n : Int) := by omega
        go_wp2_with (go_at_call 15; refine (alive_any _).mono ?_; rintro x w4 ⟨rfl, hb4⟩)
        go_ret
        exact ⟨rfl, hb.trans (hb4.mono hb.size)⟩
  · have C1 := started_no s w hs hE
    clear hS hE
    go_enter Tryz.func8, Tryz.ntmps8
    go_wp2_with fail
    refine C1.mono ?_
    rintro x w1 ⟨rfl, hb1⟩
    go_wp2_with (go_at_call 15; refine (alive_any _).mono ?_; rintro x w2 ⟨rfl, hb2⟩)
    go_ret
    exact ⟨rfl, hb1.trans (hb2.mono hb1.size)⟩
end Go.Proofs.YtondkinefmjpjaaGreat
namespace Go.Proofs.YtondkinefmjpjaaGreat
open Go.ChangeShapes Go.WideShapes Go.ChangeAt Go.RowKit Go.Deep Go.ChangeMaps
set_option maxRecDepth 100000 in
theorem Apart_lifted (os : Os) (started : os.Started) (H : Type) (enc : TypeId × Value → H) :
    ReturnsInHanded {} Tryz.checked os 8 .any (Rows.apartSpec.pre6 enc Tryz.prog Tryz.f8 Rows.apartRow.domain false) (Rows.apartSpec.post enc Tryz.prog Tryz.f8 false true false false) := by
  refine returnsInHanded_of_change_sized (C := Tryz.checked) Tryz.own started (by kernel_rfl) Tryz.func8
    (ChangeSpec.witness6 (enc := enc) (C := Tryz.checked) false ⟨#[], #[.string ⟨#[]⟩, .slice none 0 0], []⟩ 8 (by kernel_rfl) (by kernel_rfl) (by kernel_rfl) (by kernel_rfl)) ?_
  intro W base args ds gs before hval0 hW hcnd hsz _
  have hval : ∀ (j : Nat) t v, Tryz.f8.params[j]? = some t → args[j]? = some v → Value.okWide Tryz.prog W .any base t v := hval0
  have hW' := hW
  obtain ⟨p, q, hA0, hV, rfl, hfz, hnd⟩ := hW
  have hA : DataW.TrodAll enc Tryz.prog W 0 (fun _ => true) true Tryz.f8.params.toList args.toList ds p := hA0
  rw [Tryz.params8] at hA hval
  obtain ⟨v0, v1, d0, d1, p0, p1, rfl, rfl, rfl, h0, h1⟩ := trodAll_two hA
  obtain ⟨rfl, rfl⟩ := trodVars_none hV
  obtain ⟨s, rfl, rfl, rfl, hs⟩ := open_string Tryz.underlying9 (hval 0 9 v0 rfl rfl) h0
  obtain ⟨a0, len, cap, rfl⟩ := okWide_slice Tryz.underlying22 (hval 1 22 v1 rfl rfl)
  have h0k := h0
  have h1k := h1
  obtain ⟨fuel, hf⟩ := h1
  clear hA0 hval0
  simp only [List.append_nil] at hW'
  have hlt : ∀ x ∈ p1, x.block < W.heap.size := fun x hx => by
    have := hW'.lt x (by simp [hx])
    simpa using this
  have hw : ∀ n, n ∈ d1.weights Tryz.prog 22 → n ≤ reachBytes := fun n hn => by
    have hm : n ∈ DataW.weightsEach Tryz.prog (Tryz.f8.params.toList ++ Rows.apartSpec.plain.varTypes Tryz.prog) ([.lit (.string s.data.toList), d1] ++ []) := DataW.weights_mem_each (j := 1) (t := 22) (d := d1) (by rw [Tryz.params8]; rfl) rfl n hn
    have := List.all_eq_true.1 hsz n hm
    simpa using this
  have fin : ∀ (e : Ending) (W' : World), e = .returned (.bool true) ∧ Below W.heap.size W W' → ∃ v, e = .returned v ∧ Rows.apartSpec.post enc Tryz.checked.prog Tryz.f8 false true false false W #[.string s, .slice a0 len cap] v W' := by
    rintro e W' ⟨rfl, hb⟩
    refine ⟨_, rfl, ?_⟩
    refine ⟨_, _, _, [], _, [], hW', trodAll_mk1 (shut_bool Tryz.underlying4 true), trodAll_mk2 (Below.trod Tryz.laidOut (by kernel_rfl) (of_decide_eq_true (by kernel_rfl)) h0k hb (fun x hx => by cases hx)) (Below.trod Tryz.laidOut (by kernel_rfl) (of_decide_eq_true (by kernel_rfl)) h1k hb hlt), rfl, hb.frame _, fun h => by cases h⟩
  obtain ⟨Kd, Am, S, T, LV, L, hScr⟩ := script_readsT (x := (d1, p1)) hf hw
  exact (Apart_any s hs a0 len cap (script_short (x := (d1, p1)) hf hw) Kd Am S T LV L W hScr).mono fun e W' h => fin e W' h
theorem Apart_true : Rows.ApartSaid :=
  OpenClaim.holds_of_wide 8 Tryz.f8 rfl rfl rfl rfl rfl rfl rfl ⟨rfl, rfl, rfl, rfl, rfl⟩ rfl rfl rfl rfl rfl (by kernel_rfl) Tryz.func8 (by kernel_rfl)
    (of_decide_eq_true (by kernel_rfl)) (by unfold Func.isWrapper; first | (rw [if_pos (by decide +kernel)]; kernel_rfl) | (rw [if_neg (by decide +kernel)]; exact ⟨rfl, rfl⟩))
    (fun os started H enc _ => Apart_lifted os started H enc)
end Go.Proofs.YtondkinefmjpjaaGreat
