import Derived.Test.YtondkinefmjpjaaGreatW47
namespace Go.Proofs.YtondkinefmjpjaaGreat
open Go.RowKit Go.WideMaps Go.WideElems Go.Maps Go.Shelf

/-- A script as it lies in memory: of each step its kind, how often, a relation, values. -/
def Scr (w : World) (va : Option Addr) (n : Nat) (Kd Am : Nat → Int) (S : Nat → ByteArray) (LV : Nat → Value) (L : Nat → List Int) : Prop :=
  0 < n → ∃ b off, va = some ⟨b, off, none⟩ ∧ ∀ i, i < n → w.cell? ⟨b, off + i * 5, none⟩ = some (.int .i64 (Kd i)) ∧ w.cell? ⟨b, off + i * 5 + 1, none⟩ = some (.int .i64 (Am i)) ∧ w.cell? ⟨b, off + i * 5 + 2, none⟩ = some (.string (S i)) ∧ w.cell? ⟨b, off + i * 5 + 4, none⟩ = some (LV i) ∧ Reads w (LV i) (L i) ∧ (L i).length * 8 ≤ 140737488355328
theorem Scr.at {w w' : World} {va : Option Addr} {n : Nat} {Kd Am : Nat → Int} {S : Nat → ByteArray} {LV : Nat → Value} {L : Nat → List Int} (h : Scr w va n Kd Am S LV L) (hb : Below w.heap.size w w') {i : Nat} (hi : i < n) :
    ∃ b off la lc, va = some ⟨b, off, none⟩ ∧ w'.cell? ⟨b, off + i * 5, none⟩ = some (.int .i64 (Kd i)) ∧ w'.cell? ⟨b, off + i * 5 + 1, none⟩ = some (.int .i64 (Am i)) ∧ w'.cell? ⟨b, off + i * 5 + 2, none⟩ = some (.string (S i)) ∧ w'.cell? ⟨b, off + i * 5 + 4, none⟩ = some (.slice la (L i).length lc) ∧ Reads w' (.slice la (L i).length lc) (L i) ∧ (L i).length * 8 ≤ 140737488355328 := by
  obtain ⟨b, off, e, hh⟩ := h (by omega)
  obtain ⟨c0, c1, c2, c4, hr, hl⟩ := hh i hi
  have hr' := hr.below hb
  obtain ⟨la, lc, e4, _⟩ := id hr
  rw [e4] at c4 hr'
  exact ⟨b, off, la, lc, e, (hb.cell (World.block_lt_of_cell? _ _ c0)).trans c0, (hb.cell (World.block_lt_of_cell? _ _ c1)).trans c1, (hb.cell (World.block_lt_of_cell? _ _ c2)).trans c2, (hb.cell (World.block_lt_of_cell? _ _ c4)).trans c4, hr', hl⟩
/-- A view, of whatever rows, in memory that is new behind B. -/
def VAny (B : Nat) (w : World) (vb : Nat) (P : PlanD) (rb ib : List Nat) (wb : Nat) : Prop := ∃ R g own, VSt w vb P rb ib wb R g own ∧ ∀ b, own b ≠ none → B ≤ b
/-- What 'copied' has made of a step's values, the step as it was. -/
def CqS (wr : World) (V : List Int) (b o : Nat) (Sx : ByteArray) (X : Int) (v1 : Value) (w1 : World) : Prop :=
  ∃ a1 p1, v1 = .slice a1 V.length p1 ∧ Reads w1 (.slice a1 V.length p1) V ∧ Below wr.heap.size wr w1 ∧ w1.cell? ⟨b, o + 1, none⟩ = some (.int .i64 X) ∧ w1.cell? ⟨b, o + 2, none⟩ = some (.string Sx)
theorem copied_q (u : Value) (V : List Int) (wr : World) (b o : Nat) (Sx : ByteArray) (X : Int) (h : Reads wr u V) (hl : V.length * 8 ≤ 140737488355328) (h1 : wr.cell? ⟨b, o + 1, none⟩ = some (.int .i64 X)) (h2 : wr.cell? ⟨b, o + 2, none⟩ = some (.string Sx)) :
    Calls Tryz.prog 17 #[u] wr.drew fun e w' => ∃ v, e = .returned v ∧ CqS wr V b o Sx X v w' := by
  refine (copied_any u V wr.drew h hl).mono ?_
  rintro e w1 ⟨a1, p1, rfl, o1, b1⟩
  have b2 : Below wr.heap.size wr w1 := ⟨b1.os, b1.tape, b1.output, b1.size, b1.block⟩
  exact ⟨_, rfl, a1, p1, rfl, reads_own o1 rfl, b2, (b2.cell (World.block_lt_of_cell? _ _ h1)).trans h1, (b2.cell (World.block_lt_of_cell? _ _ h2)).trans h2⟩
theorem enter16 : ∀ vs u, (callFunc 16 vs).run Tryz.prog u = .ok (.enter 16 vs) u := enters_of Tryz.func16 (by kernel_rfl) rfl
/-- An update, whatever it is. -/
def UqS (B : Nat) (w0 : World) (vb : Nat) (P : PlanD) (rb ib : List Nat) (wb : Nat) (_v : Value) (w1 : World) : Prop := VAny B w1 vb P rb ib wb ∧ Below B w0 w1
theorem update_q {B : Nat} {w : World} {vb : Nat} {P : PlanD} {rb ib : List Nat} {wb : Nat} (hV : VAny B w vb P rb ib wb) (hT : ∀ r, r < P.rels.length → (P.rel r).2.1 ≤ 3) (hB : B ≤ w.heap.size) (name : ByteArray) (x : Int) {v : Value} {xs : List Int} (hr : Reads w v xs) (hl : xs.length * 8 ≤ 140737488355328) :
    Calls Tryz.prog 16 #[.pointer (some ⟨vb, 0, none⟩), .string name, .int .i64 x, v] w fun e w' => ∃ v, e = .returned v ∧ UqS B w vb P rb ib wb v w' := by
  obtain ⟨R, g, own, h, ho⟩ := hV
  refine (Update_tot h name x hr (by omega) hT).mono ?_
  rintro e w1 ⟨vv, rfl, R', g', own', h', hU⟩
  obtain ⟨u1, u2⟩ := hU.below hB ho
  exact ⟨_, rfl, ⟨R', g', own', h', u2⟩, u1⟩

/-- What begins so. -/
def bg (xs : List Int) (r : List Int × Int) : Int := if begL r.1 xs = true then r.2 else 0
theorem tot_eq {l : Rws} {head : List Nat} {f : List Int → Int} (xs : List Int) (hp : l.Perm (rowsL (hvals head) f (live 6 f))) : Sg l (bg xs) = Sg (live 6 f) (totT head xs f) := by
  rw [S_perm hp]
  unfold rowsL
  rw [S_map]
  rfl
theorem S_take (l : Rws) (f : List Int × Int → Int) (k : Nat) (hk : k < l.length) : Sg (l.take (k + 1)) f = Sg (l.take k) f + f (rAt l k) := by
  rw [List.take_succ_eq_append_getElem hk, S_append]
  have : rAt l k = l[k] := by unfold rAt; rw [List.getD_eq_getElem?_getD, List.getElem?_eq_getElem hk]; rfl
  rw [this, S_cons, S_nil]; omega
theorem rows_len {l : Rws} {head : List Nat} {f : List Int → Int} (hp : l.Perm (rowsL (hvals head) f (live 6 f))) (j : Nat) (hj : j < l.length) : (rAt l j).1.length = head.length := by
  have hm : rAt l j ∈ l := by unfold rAt; rw [List.getD_eq_getElem?_getD, List.getElem?_eq_getElem hj]; exact List.getElem_mem hj
  obtain ⟨a, _, e⟩ := List.mem_map.1 (hp.mem_iff.1 hm)
  rw [← e]; simp [hvals]
/-- A row of them. -/
theorem rnew_at {B : Nat} {w : World} {ra : Option Addr} {rc : Nat} {us : List Value} {l : Rws} (h : RNew 55 B w (.slice ra l.length rc) us l) {j : Nat} (hj : j < l.length) :
    ∃ g ua uc, ra = some ⟨g, 0, none⟩ ∧ w.cell? ⟨g, j * 2, none⟩ = some (.slice ua (rAt l j).1.length uc) ∧ w.cell? ⟨g, j * 2 + 1, none⟩ = some (.int .i64 (rAt l j).2) ∧ Reads w (.slice ua (rAt l j).1.length uc) (rAt l j).1 ∧ (rAt l j).1.length ≤ uc := by
  obtain ⟨h1, h2, h3⟩ := h
  obtain ⟨g, cap', he⟩ := vown_some h2 (by omega)
  simp only [Value.slice.injEq, true_and] at he
  obtain ⟨rfl, rfl⟩ := he
  obtain ⟨c1, c2⟩ := rcells_at us l h1 j hj
  have d1 := (h2.cellAt (j * 2) (by omega)).trans c1
  have d2 := (h2.cellAt (j * 2 + 1) (by omega)).trans c2
  have h4 := h3 j hj
  have hr := reads_own h4 rfl
  obtain ⟨ua, uc, e⟩ := vown_form h4
  rw [e] at d1 hr
  refine ⟨g, ua, uc, rfl, d1, d2, hr, ?_⟩
  rcases h4.2 with ⟨_, h0⟩ | ⟨g', cap, cur, e', _, _, hc, _⟩
  · omega
  · rw [e] at e'
    simp only [Value.slice.injEq, true_and] at e'
    rw [e'.2]; exact hc
theorem reads_take {w : World} {a : Option Addr} {c m : Nat} {xs : List Int} (h : Reads w (.slice a xs.length c) xs) (hm : m ≤ xs.length) : Reads w (.slice a m c) (xs.take m) := by
  obtain ⟨a', c', e, hr⟩ := h
  simp only [Value.slice.injEq, true_and] at e
  obtain ⟨rfl, rfl⟩ := e
  have hl : (xs.take m).length = m := by rw [List.length_take]; omega
  refine ⟨a, c, by rw [hl], fun h0 => ?_⟩
  rw [hl] at h0
  obtain ⟨g, off, rfl, hc⟩ := hr (by omega)
  refine ⟨g, off, rfl, fun j hj => ?_⟩
  rw [hl] at hj
  have := hc j (by omega)
  rw [this]
  congr 2
  rw [List.getD_eq_getElem?_getD, List.getD_eq_getElem?_getD, List.getElem?_take_of_lt hj]
theorem beg_eq {ys xs : List Int} (h : xs.length ≤ ys.length) : decide (xs.length ≤ ys.length ∧ ys.take xs.length = xs) = begL ys xs := by
  unfold begL
  by_cases e : ys.take xs.length = xs
  · rw [decide_eq_true e, decide_eq_true ⟨h, e⟩]
  · rw [decide_eq_false e, decide_eq_false (fun q => e q.2)]

set_option maxHeartbeats 8000000 in
set_option maxRecDepth 100000 in
theorem Totals_any (s : ByteArray) (hs : s.size ≤ maxLen) (va : Option Addr) (n cap : Nat) (Kd Am : Nat → Int) (S : Nat → ByteArray) (LV : Nat → Value) (L : Nat → List Int) (w : World) (hS : Scr w va n Kd Am S LV L) :
    Calls Tryz.prog 7 #[.string s, .slice va n cap] w fun e w' => e = .returned (.bool true) ∧ Below w.heap.size w w' := by
  by_cases hE : K.pE s = 0
  · have hG := K.pE_G hE
    have C1 := started_ok s w hs hG
    have hT := K.plan_terms s
    obtain ⟨P, hP⟩ : ∃ P, K.planOf (K.rq s (K.c0 s)).2 = P := ⟨_, rfl⟩
    rw [hP] at C1 hT
    have HT : Hid _ := hT
    have HS : Hid _ := hS
    clear hP hT hS hE hG hs
    go_enter Tryz.func7, Tryz.ntmps7
    go_wp2_with fail
    refine C1.mono ?_
    rintro x w1 ⟨vb, q, rb, ib, wb, rfl, hV, hb1, hvb, hown⟩
    have hVA : VAny w.heap.size w1 vb P rb ib wb := ⟨_, _, _, hV, hown⟩
    clear hV hown C1
    go_wp2_with fail
    go_loopw [8] (fun kv wr => ∃ k : Nat, k ≤ n ∧ kv = .int .i64 k ∧ VAny w.heap.size wr vb P rb ib wb ∧ Below w.heap.size w wr) (fun kv _ => n - (intOf kv).toNat)
    case atStart => exact ⟨0, Nat.zero_le _, rfl, hVA, hb1⟩
    case round =>
      clear hVA hb1
      obtain ⟨k, hk, rfl, hVA, hb⟩ := hrel
      by_cases hgo : k < n ∧ (k : Int) < 1152921504606846976
      · obtain ⟨hlt, hbig⟩ := hgo
        obtain ⟨b, off, la, lc, rfl, c0, c1, c2, c4, hr, hl⟩ := Scr.at HS.out hb hlt
        have lb := World.block_lt_of_cell? _ _ c0
        have hk' : (k : Int) < (n : Int) := by omega
        cases hk1 : (Kd k == 2)
        · go_wp2_with fail
          go_roundw
          case rel => exact ⟨k + 1, by omega, by go_num, hVA, hb⟩
          case measure => simp [intOf]; omega
        · have HCP := copied_q _ (L k) wr b (off + k * 5) (S k) (Am k) hr hl c1 c2
          have HUP : Hid (∀ (u : World) (v : Value), Below wr.heap.size wr u → Reads u v (L k) → Calls Tryz.prog 16 #[.pointer (some ⟨vb, 0, none⟩), .string (S k), .int .i64 (Am k), v] u fun e w' => ∃ v, e = .returned v ∧ UqS w.heap.size u vb P rb ib wb v w') := by
            intro u v hu hru
            obtain ⟨R, g, own, h, ho⟩ := hVA
            exact update_q ⟨R, g, own, h.fr (fr_below hu), ho⟩ HT.out (Nat.le_trans hb.size hu.size) (S k) (Am k) hru hl
          obtain ⟨NL, hNL⟩ : ∃ x, (L k).length = x := ⟨_, rfl⟩
          have HCC : Hid _ := HCP
          rw [hNL] at c4
          have HNL : Hid _ := hNL
          rw [hNL] at HCC
          clear hNL HCP hr hVA
          go_upto_region 8 with fail
          go_region_law (first | (refine step_call rfl 17 #[.tmp 65] #[28] rfl enter17 #[.slice la NL lc] (by kernel_rfl) _ HCC.out ?_; rintro v1 w2 ⟨a1, p1, rfl, r1, b1, d1, d2⟩; rw [HNL.out]; have HR1 : Hid _ := r1) | (refine step_call rfl 16 #[.tmp 50, .tmp 55, .tmp 60, .tmp 66] #[23, 9, 3, 28] rfl enter16 #[.pointer (some ⟨vb, 0, none⟩), .string (S k), .int .i64 (Am k), .slice a1 NL p1] (by kernel_rfl) _ (HUP.out w2 (.slice a1 NL p1) b1 (by rw [← HNL.out]; exact HR1.out)) ?_; rintro v3 w3 ⟨hV3, hb3⟩))
          all_goals go_wp2_with fail
          all_goals go_roundw
          all_goals first
            | (simp [intOf]; omega)
            | exact ⟨k + 1, by omega, by go_num, hV3, (hb.trans (b1.mono hb.size)).trans hb3⟩
      · have hex : ¬ k < n ∨ (k < n ∧ ¬ (k : Int) < 1152921504606846976) := by omega
        obtain ⟨R, g, own, hV, _⟩ := hVA
        obtain ⟨c, hblk⟩ := hV.hb
        obtain ⟨f, hf⟩ : ∃ f, P.wor (cont P R) = f := ⟨_, rfl⟩
        have hfew := wor_few hV.ok hV.rel hV.rok
        have hcw := hV.cw
        rw [hf] at hfew hcw
        have RW := Rows_any vb wb P hV.ok f wr c hblk hV.h0 hV.pl hV.wo hcw (by omega)
        have HTO : Hid (∀ (u : World) (v : Value) (xs : List Int), Below wr.heap.size wr u → Reads u v xs → xs.length ≤ P.head.length → Calls Tryz.prog 29 #[.pointer (some ⟨vb, 0, none⟩), v] u fun e w' => e = .returned (.tuple #[.int .i64 (Go.Proofs.YtondkinefmjpjaaGreat.wr (Sg (live 6 f) (totT P.head xs f))), .int .i64 0]) ∧ Below u.heap.size u w') := by
          intro u v xs hu hr hx
          have hV' := hV.fr (fr_below hu)
          obtain ⟨c', hblk'⟩ := hV'.hb
          have hcw' := hV'.cw
          rw [hf] at hcw'
          exact Total_any vb wb P hV.ok f v xs u c' hblk' hV'.h0 hV'.pl hV'.wo hcw' hr hx
        have HHL : Hid (P.head.length ≤ 6) := hV.ok.head6
        have HFEW : Hid _ := hfew
        clear hgo hV hblk hf hcw hfew
        rcases hex with hx1 | ⟨hx1, hx2⟩
        all_goals
          go_wp2_with fail
          refine RW.mono ?_
          rintro x w2 ⟨v, us, l, rfl, hN, hp, _, hb2⟩
          obtain ⟨ra, rc, rfl⟩ := vown_form hN.2.1
          have hlb : l.length ≤ 20736 := by
            have h1 := hp.length_eq
            rw [rowsL, List.length_map] at h1
            have := HFEW.out
            omega
          have HN : Hid (RNew 55 wr.heap.size w2 (.slice ra l.length rc) us l) := hN
          have HP : Hid _ := hp
          have HB : Hid (Below w.heap.size w w2) := hb.trans (hb2.mono hb.size)
          have HTO2 : Hid (∀ (u : World) (v : Value) (xs : List Int), Below w2.heap.size w2 u → Reads u v xs → xs.length ≤ P.head.length → Calls Tryz.prog 29 #[.pointer (some ⟨vb, 0, none⟩), v] u fun e w' => e = .returned (.tuple #[.int .i64 (Go.Proofs.YtondkinefmjpjaaGreat.wr (Sg (live 6 f) (totT P.head xs f))), .int .i64 0]) ∧ Below u.heap.size u w') := fun u v xs hu => HTO.out u v xs (hb2.trans (hu.mono hb2.size))
          clear hN hp RW HTO hb hb2 hx1
          go_wp2_with fail
          go_loopw [10, 11, 12, 13, 14, 15, 16, 17] (fun iv _ _ _ _ _ _ _ wx => ∃ i : Nat, i ≤ l.length ∧ iv = .int .i64 i ∧ Below w2.heap.size w2 wx) (fun iv _ _ _ _ _ _ _ _ => l.length - (intOf iv).toNat)
          case atStart => exact ⟨0, Nat.zero_le _, rfl, Below.refl _ _⟩
          case round =>
            obtain ⟨i, hi, rfl, hb3⟩ := hrel
            by_cases hil : i < l.length
            · have hil' : (i : Int) < (l.length : Int) := by omega
              obtain ⟨XL, hXL⟩ : ∃ x, (rAt l i).1.length = x := ⟨_, rfl⟩
              have HXL : Hid _ := hXL
              have HXH : Hid (XL = P.head.length) := by unfold Hid; rw [← hXL]; exact rows_len HP.out i hil
              have hX6 : XL ≤ 6 := by rw [HXH.out]; exact HHL.out
              clear hXL
              go_wp2_with fail
              go_loopw [11, 12, 13, 14, 15, 16, 17] (fun nv _ _ _ _ _ _ wx => ∃ m : Nat, m ≤ XL + 1 ∧ nv = .int .i64 m ∧ Below w2.heap.size w2 wx) (fun nv _ _ _ _ _ _ _ => XL + 1 - (intOf nv).toNat)
              case atStart => exact ⟨0, Nat.zero_le _, rfl, hb3⟩
              case round =>
                clear hb3
                obtain ⟨m, hm, rfl, hb3⟩ := hrel
                obtain ⟨w3, hw3⟩ : ∃ w3 : World, w3 = wr := ⟨_, rfl⟩
                subst hw3
                obtain ⟨g1, ua, uc, hra, d1, d2, hr, huc⟩ := rnew_at (HN.out.below hb3) hil
                subst hra
                rw [HXL.out] at d1 hr huc
                by_cases hmx : m ≤ XL
                · obtain ⟨xs, hxs⟩ : ∃ xs, (rAt l i).1.take m = xs := ⟨_, rfl⟩
                  have hxl : xs.length = m := by rw [← hxs, List.length_take, HXL.out]; omega
                  have hfst : Reads w3 (.slice ua m uc) xs := by
                    rw [← hxs]
                    exact reads_take (by rw [HXL.out]; exact hr) (by rw [HXL.out]; exact hmx)
                  have HFS : Hid _ := hfst
                  have HXS : Hid _ := hxl
                  have hmu : m ≤ uc := by omega
                  clear hxs hxl hfst hr
                  go_wp2_with fail
                  go_loopw [13, 14, 15] (fun av kv _ wx => ∃ j : Nat, j ≤ l.length ∧ kv = .int .i64 j ∧ av = .int .i64 (Go.Proofs.YtondkinefmjpjaaGreat.wr (Sg (l.take j) (bg xs))) ∧ Below w3.heap.size w3 wx) (fun _ kv _ _ => l.length - (intOf kv).toNat)
                  case atStart => exact ⟨0, Nat.zero_le _, rfl, rfl, Below.refl _ _⟩
                  case round =>
                    obtain ⟨j, hj, rfl, rfl, hb4⟩ := hrel
                    have HB4 : Hid (Below w2.heap.size w2 wr) := hb3.trans (hb4.mono hb3.size)
                    by_cases hjl : j < l.length
                    · have hjl' : (j : Int) < (l.length : Int) := by omega
                      obtain ⟨g2, va2, vc2, hra, e1, e2, hr2, hvc⟩ := rnew_at (HN.out.below HB4.out) hjl
                      simp only [Option.some.injEq, Addr.mk.injEq, and_true] at hra
                      subst hra
                      have HY : Hid ((rAt l j).1.length = P.head.length) := rows_len HP.out j hjl
                      have HST : Hid (Sg (l.take (j + 1)) (bg xs) = Sg (l.take j) (bg xs) + bg xs (rAt l j)) := S_take l (bg xs) j hjl
                      have BG := begins_any va2 vc2 (.slice ua m uc) (rAt l j).1 xs wr hr2 hvc (Reads.below HFS.out hb4) (by rw [HY.out]; have := HHL.out; omega)
                      rw [beg_eq (by rw [HXS.out, HY.out, ← HXH.out]; exact hmx)] at BG
                      obtain ⟨YL, hYL⟩ : ∃ x, (rAt l j).1.length = x := ⟨_, rfl⟩
                      rw [hYL] at e1 BG
                      have HBG : Hid (bg xs (rAt l j) = if begL (rAt l j).1 xs = true then (rAt l j).2 else 0) := rfl
                      obtain ⟨BY, hBY⟩ : ∃ x, (rAt l j).2 = x := ⟨_, rfl⟩
                      rw [hBY] at e2 HBG
                      obtain ⟨BB, hBB⟩ : ∃ x, begL (rAt l j).1 xs = x := ⟨_, rfl⟩
                      rw [hBB] at BG HBG
                      obtain ⟨SS, hSS⟩ : ∃ x, Sg (l.take j) (bg xs) = x := ⟨_, rfl⟩
                      rw [hSS] at HST ⊢
                      clear hYL hBY hBB hSS hr2 hvc
                      go_wp2_with fail
                      refine BG.mono ?_
                      rintro x w5 ⟨rfl, hb5⟩
                      have f2 := (hb5.cell (World.block_lt_of_cell? _ _ e2)).trans e2
                      have hb35 : Below w3.heap.size w3 w5 := hb4.trans (hb5.mono hb4.size)
                      clear e1 e2 BG
                      cases BB
                      · go_wp2_with fail
                        go_roundw
                        case rel => exact ⟨j + 1, by omega, by go_num, by rw [HST.out, HBG.out]; simp, hb35⟩
                        case measure => simp [intOf]; omega
                      · go_wp2_with fail
                        go_roundw
                        case rel => exact ⟨j + 1, by omega, by go_num, by rw [HST.out, HBG.out, if_pos trivial, ← wr_add_l, wr_eq (Go.Proofs.YtondkinefmjpjaaGreat.wr SS + BY), wrap64], hb35⟩
                        case measure => simp [intOf]; omega
                    · have HTK : Hid (l.take j = l) := List.take_of_length_le (by omega)
                      have HEQ := tot_eq xs HP.out
                      rw [HTK.out, HEQ]
                      have CP := copied_any (.slice ua m uc) xs wr (Reads.below HFS.out hb4) (by rw [HXS.out]; omega)
                      rw [HXS.out] at CP
                      have HT3 : Hid (∀ (u : World) (v : Value), Below w2.heap.size w2 u → Reads u v xs → Calls Tryz.prog 29 #[.pointer (some ⟨vb, 0, none⟩), v] u fun e w' => e = .returned (.tuple #[.int .i64 (Go.Proofs.YtondkinefmjpjaaGreat.wr (Sg (live 6 f) (totT P.head xs f))), .int .i64 0]) ∧ Below u.heap.size u w') := fun u v hu hr => HTO2.out u v xs hu hr (by rw [HXS.out, ← HXH.out]; exact hmx)
                      obtain ⟨Z, hZ⟩ : ∃ z, Go.Proofs.YtondkinefmjpjaaGreat.wr (Sg (live 6 f) (totT P.head xs f)) = z := ⟨_, rfl⟩
                      rw [hZ] at HT3 ⊢
                      clear hZ HEQ
                      go_wp2_with fail
                      refine CP.mono ?_
                      rintro x w6 ⟨a6, c6, rfl, o6, b6⟩
                      have hb26 : Below w2.heap.size w2 w6 := HB4.out.trans (b6.mono HB4.out.size)
                      have TC := HT3.out w6 (.slice a6 m c6) hb26 (by have := reads_own o6 HXS.out; exact this)
                      clear CP o6 b6
                      go_wp2_with fail
                      refine TC.mono ?_
                      rintro x w7 ⟨rfl, b7⟩
                      have hb27 : Below w2.heap.size w2 w7 := hb26.trans (b7.mono hb26.size)
                      clear TC
                      go_wp2_with (go_at_call 27; refine (num_any _ _).mono ?_; rintro x w8 ⟨rfl, hw8⟩; subst hw8)
                      go_roundw
                      case rel => exact ⟨m + 1, by omega, by go_num, hb27⟩
                      case measure => simp [intOf]; omega
                · go_wp2_with fail
                  go_roundw
                  case rel => exact ⟨i + 1, by omega, by go_num, hb3⟩
                  case measure => simp [intOf]; omega
            · go_wp2_with (go_at_call 15; refine (alive_any _).mono ?_; rintro x w4 ⟨rfl, hb4⟩)
              go_ret
              exact ⟨rfl, (HB.out.trans (hb3.mono HB.out.size)).trans (hb4.mono (Nat.le_trans HB.out.size hb3.size))⟩
  · have C1 := started_no s w hs hE
    clear hS hE
    go_enter Tryz.func7, Tryz.ntmps7
    go_wp2_with fail
    refine C1.mono ?_
    rintro x w1 ⟨rfl, hb1⟩
    go_wp2_with (go_at_call 15; refine (alive_any _).mono ?_; rintro x w2 ⟨rfl, hb2⟩)
    go_ret
    exact ⟨rfl, hb1.trans (hb2.mono hb1.size)⟩
end Go.Proofs.YtondkinefmjpjaaGreat
