import Derived.Test.YtondkinefmjpjaaGreatI51
import Derived.Test.YtondkinefmjpjaaGreatI67
namespace Go.Proofs.YtondkinefmjpjaaGreat
open Go.RowKit
theorem bth_ok (B : Nat) (w0 : World) (vb rvb : Nat) (P : PlanD) : IOk B (fun w => Bth B w0 w vb rvb P) := ⟨fun _ _ h hb => h.below hb, fun _ h => h.sz⟩
theorem step_any {B : Nat} {w0 : World} {vb rvb : Nat} {P : PlanD} (hH : HdOk P) (hF : RelFull P) (kd am : Int) (S T : ByteArray) (la : Option Addr) (lc : Nat) (xs : List Int) (hl : xs.length * 8 ≤ 140737488355328) (hr : Reads w0 (.slice la xs.length lc) xs) (w : World) (h : Bth B w0 w vb rvb P) :
  Calls Tryz.prog 11 #[.pointer (some ⟨vb, 0, none⟩), .pointer (some ⟨rvb, 0, none⟩), .agg #[.int .i64 kd, .int .i64 am, .string S, .string T, .slice la xs.length lc]] w fun e w' => e = .returned (.bool true) ∧ Bth B w0 w' vb rvb P := by
 have hr' : ∀ wx, Bth B w0 wx vb rvb P → Reads wx (.slice la xs.length lc) xs := fun wx h => Reads.below hr h.blw
 have hxl : xs.length < 4611686018427387904 := by omega
 by_cases h2 : kd = 2
 ·subst h2
  refine step_upd (bth_ok B w0 vb rvb P) vb rvb am S T la lc xs hl hr' (fun u v hu hv => (upd1 hu hH S am hv hxl).mono ?_) w h
  rintro e w1 ⟨a, n, k, c, h1, h2, h3⟩
  exact ⟨a, n, k, c, h1, h2.2, h3⟩
 ·by_cases h3 : kd = 3
  ·subst h3
   exact step_tot (bth_ok B w0 vb rvb P) vb rvb am S T la lc xs hl hr' (fun u v hu hv => tot1 hu hH hv) w h
  ·by_cases h4 : kd = 4
   ·subst h4
    exact step_rel (bth_ok B w0 vb rvb P) vb rvb am S T la lc xs hl hr' (fun u hu => rel1 hu S) w h
   ·by_cases h5 : kd = 5
    ·subst h5
     exact step_clr (bth_ok B w0 vb rvb P) vb rvb am S T la lc xs hl hr' (nmOf am S T) (fun u => named_new 5 am S T _ u ⟨_, _, _, rfl⟩) (fun u v hu hv => clr1 hu hH hF _ hv (nmOf_len _ _ _)) w h
    ·exact step_non (bth_ok B w0 vb rvb P) vb rvb kd (by simpa using h2) (by simpa using h3) (by simpa using h4) (by simpa using h5) am S T la lc xs hl hr' w h
theorem rows1 {B : Nat} {w0 u : World} {vb rvb : Nat} {P : PlanD} (h : Bth B w0 u vb rvb P) (hH : HdOk P) :
  Calls Tryz.prog 12 #[.pointer (some ⟨vb, 0, none⟩)] u fun e w1 => ∃ a n k, e = .returned (.slice a n k) ∧ Below u.heap.size u w1 ∧ ∀ (w2 : World), Below w1.heap.size w1 w2 → Calls Tryz.prog 13 #[.pointer (some ⟨rvb, 0, none⟩)] w2 fun e w3 => ∃ a' n' k', e = .returned (.slice a' n' k') ∧ Below w2.heap.size w2 w3 ∧ ∃ L, RRead w3 (.slice a n k) L ∧ RRead w3 (.slice a' n' k') L ∧ SmallV L ∧ L.length < 4611686018427387904 := by
 obtain ⟨qb, base, rbase, nv, rb, ib, wb, l, rl, R, RR, g, own, h⟩ := h
 obtain ⟨c, hb⟩ := h.v.hb
 have hfew := wor_few h.v.ok h.v.rel h.v.rok
 refine (Rows_any vb wb P h.v.ok _ u c hb h.v.h0 h.v.pl h.v.wo h.v.cw (by omega)).mono ?_
 rintro e w1 ⟨v, us, L, rfl, q1, q2, q3, q4⟩
 have hL := rows_eq h.v.ok h.v.rel hH h.v.rok h.s h.d q2 q3
 have hfit := rows_fit q2 h.v.ok.head6 hfew
 have r1 := q1.readB h.r.sz
 obtain ⟨a, k, rfl⟩ := vown_form q1.2.1
 refine ⟨a, _, k, rfl, q4, fun w2 hb2 => ?_⟩
 have h2 := (h.below q4).below hb2
 refine (RefRows_any h2.r h2.o).mono ?_
 rintro e w3 ⟨a', n', k', rfl, hread, hb3⟩
 have r3 := (r1.below hb2).below hb3
 rw [← hL] at hread
 exact ⟨a', n', k', rfl, hb3, _, r3.read, hread.read, hfit.2, by have := hfit.1; omega⟩
set_option maxHeartbeats 8000000 in
set_option maxRecDepth 100000 in
theorem Views_any (s : ByteArray) (hs : s.size ≤ maxLen) (va : Option Addr) (n cap : Nat) (hn : n < 1152921504606846976) (Kd Am : Nat → Int) (S T : Nat → ByteArray) (LV : Nat → Value) (L : Nat → List Int) (w : World) (hS : ScrT w va n Kd Am S T LV L) :
  Calls Tryz.prog 3 #[.string s, .slice va n cap] w fun e w' => e = .returned (.bool true) ∧ Below w.heap.size w w' := by
 by_cases hE : K.pE s = 0
 ·have hG := K.pE_G hE
  have C1 := started_full s w hs hG
  have hT := K.plan_terms s
  have hH := K.plan_head (K.rq s (K.c0 s)).2
  have hF := K.plan_full hG
  have hRS : ∀ (u : World) (q : Nat), RfS s u q → ∃ qb base nv l rl, RVS u.heap.size u q qb base q nv (K.planOf (K.rq s (K.c0 s)).2).head l rl (fun _ => []) ∧ Ref0 (K.planOf (K.rq s (K.c0 s)).2) nv l rl := fun u q h => ref_start hG h
  obtain ⟨P, hP⟩ : ∃ P, K.planOf (K.rq s (K.c0 s)).2 = P := ⟨_, rfl⟩
  rw [hP] at C1 hT hH hF hRS
  have HH : Hid (HdOk P) := hH
  have HF : Hid (RelFull P) := hF
  have HS : Hid (Scr w va n Kd Am S LV L) := hS.1
  have HS3 : Hid _ := hS.2
  have HRS : Hid _ := hRS
  clear hP hT hH hF hS hE hG hs hRS
  go_enter Tryz.func3, Tryz.ntmps3
  go_wp2_with fail
  refine C1.mono ?_
  rintro x w1 ⟨vb, q, rb, ib, wb, rfl, hV1, hb1, hvb1, hown1, hfs, hqs⟩
  have hB0 : Bth w1.heap.size w w1 vb q P := by
   obtain ⟨qb, base, nv, l, rl, r1, r2⟩ := HRS.out w1 q hfs
   exact ⟨qb, base, q, nv, rb, ib, wb, l, rl, noR, _, _, _, hV1, r1, r2.ok, r2.w, r2.s, lnk_none P, hown1, hqs, hb1⟩
  obtain ⟨B, hB⟩ : ∃ B, w1.heap.size = B := ⟨_, rfl⟩
  rw [hB] at hB0
  clear C1 hV1 hb1 hown1 hfs HRS hB hvb1 hqs
  go_wp2_with fail
  go_loopw [8, 9, 10, 11, 12] (fun kv _ _ _ _ wr => ∃ (k : Nat), k ≤ n ∧ kv = .int .i64 k ∧ Bth B w wr vb q P) (fun kv _ _ _ _ _ => n - (intOf kv).toNat)
  case atStart => exact ⟨0, Nat.zero_le _, rfl, hB0⟩
  case round =>
   clear hB0
   obtain ⟨k, hk, rfl, hA⟩ := hrel
   have hb := hA.blw
   by_cases hlt : k < n
   ·obtain ⟨b, off, la, lc, rfl, c0, c1, c2, c4, hr, hl⟩ := Scr.at HS.out hb hlt
    have c3 : wr.cell? ⟨b, off + k * 5 + 3, none⟩ = some (.string (T k)) := by
     have c3 := HS3.out b off rfl k hlt
     exact (hb.cell (World.block_lt_of_cell? _ _ c3)).trans c3
    have hr0 : Reads w (.slice la (L k).length lc) (L k) := by
     obtain ⟨b', off', la', lc', e', _, _, _, c4', hr', _⟩ := Scr.at HS.out (Below.refl _ w) hlt
     simp only [Option.some.injEq, Addr.mk.injEq, and_true] at e'
     obtain ⟨rfl, rfl⟩ := e'
     have := (hb.cell (World.block_lt_of_cell? _ _ c4')).trans c4'
     rw [c4] at this
     rw [Option.some.inj this]; exact hr'
    have hk' : (k : Int) < (n : Int) := by omega
    have hbig : (k : Int) < 1152921504606846976 := by omega
    have ST := step_any HH.out HF.out (Kd k) (Am k) (S k) (T k) la lc (L k) hl hr0 wr hA
    obtain ⟨NL, hNL⟩ : ∃ x, (L k).length = x := ⟨_, rfl⟩
    rw [hNL] at ST c4
    clear hNL hr hr0 hl hA hb
    go_wp2_with fail
    refine ST.mono ?_
    rintro e w2 ⟨rfl, hA2⟩
    have RW := rows1 hA2 HH.out
    have HA2 : Hid (Bth B w w2 vb q P) := hA2
    clear ST hA2 c0 c1 c2 c3 c4
    go_wp2_with fail
    refine RW.mono ?_
    rintro e w3 ⟨a3, n3, k3, rfl, hb3, hM⟩
    have RW2 := hM w3 (Below.refl _ _)
    have HA3 : Hid (Bth B w w3 vb q P) := HA2.out.below hb3
    clear RW hM HA2 hb3
    go_wp2_with fail
    refine RW2.mono ?_
    rintro e w4 ⟨a4, n4, k4, rfl, hb4, L4, q1, q2, q3, q4⟩
    have AL := alike_any _ _ L4 w4 q1 q2 q3 q4
    have HA4 : Hid (Bth B w w4 vb q P) := HA3.out.below hb4
    clear RW2 HA3 hb4 q1 q2 q3 q4
    go_wp2_with fail
    refine AL.mono ?_
    rintro e w5 ⟨rfl, hb5⟩
    have HA5 : Hid (Bth B w w5 vb q P) := HA4.out.below hb5
    clear AL HA4 hb5
    go_wp2_with fail
    go_roundw
    case rel => exact ⟨k + 1, by omega, by go_num, HA5.out⟩
    case measure => simp [intOf]; omega
   ·have hk' : ¬ (k : Int) < (n : Int) := by omega
    go_wp2_with fail
    go_ret
    exact ⟨rfl, hb⟩
 ·have C1 := started_no s w hs hE
  clear hE hs
  go_enter Tryz.func3, Tryz.ntmps3
  go_wp2_with fail
  refine C1.mono ?_
  rintro x w1 ⟨rfl, hb1⟩
  go_wp2_with fail
  go_ret
  exact ⟨rfl, hb1⟩
end Go.Proofs.YtondkinefmjpjaaGreat
namespace Go.Proofs.YtondkinefmjpjaaGreat
open Go.ChangeShapes Go.WideShapes Go.ChangeAt Go.RowKit Go.Deep Go.ChangeMaps
theorem Tryz.bytes30v : Tryz.prog.bytesOf 30 = 72 := by kernel_rfl
theorem script_shortv {H : Type} {enc : TypeId × Value → H} {W : World} {fuel : Nat} {a0 : Option Addr} {len cap : Nat} {x : DataW H × List MemPlace} (hf : DataW.trod enc Tryz.prog W 0 (fun _ => true) true fuel 22 [.slice a0 len cap] = some x) (hw : ∀ n, n ∈ x.1.weights Tryz.prog 22 → n ≤ reachBytes) : len < 1152921504606846976 := by
 rcases open_slice Tryz.underlying22 hf with ⟨hcs, _⟩ | ⟨a, len', cap', m, n, D, Pl, hcs, _, hl, hm, hmm, hx, hel⟩
 ·obtain ⟨rfl, rfl, rfl⟩ : a0 = none ∧ len = 0 ∧ cap = 0 := by simpa using hcs
  omega
 ·obtain ⟨rfl, rfl, rfl⟩ : a0 = some a ∧ len = len' ∧ cap = cap' := by simpa using hcs
  rw [hx] at hw
  simp only [DataW.weights, Tryz.underlying22, Tryz.bytes30v] at hw
  have := hw _ (List.mem_cons_self)
  simp only [List.length_map, List.length_range] at this
  have hr47 := reachBytes_lt
  omega
set_option maxRecDepth 100000 in
theorem Views_lifted (os : Os) (started : os.Started) (H : Type) (enc : TypeId × Value → H) :
  ReturnsInHanded {} Tryz.checked os 3 .any (Rows.viewsSpec.pre6 enc Tryz.prog Tryz.f3 Rows.viewsRow.domain false) (Rows.viewsSpec.post enc Tryz.prog Tryz.f3 false true false false) := by
 refine returnsInHanded_of_change_sized (C := Tryz.checked) Tryz.own started (by kernel_rfl) Tryz.func3
  (ChangeSpec.witness6 (enc := enc) (C := Tryz.checked) false ⟨#[], #[.string ⟨#[]⟩, .slice none 0 0], []⟩ 8 (by kernel_rfl) (by kernel_rfl) (by kernel_rfl) (by kernel_rfl)) ?_
 intro W base args ds gs before hval0 hW hcnd hsz _
 have hval : ∀ (j : Nat) t v, Tryz.f3.params[j]? = some t → args[j]? = some v → Value.okWide Tryz.prog W .any base t v := hval0
 have hW' := hW
 obtain ⟨p, q, hA0, hV, rfl, hfz, hnd⟩ := hW
 have hA : DataW.TrodAll enc Tryz.prog W 0 (fun _ => true) true Tryz.f3.params.toList args.toList ds p := hA0
 rw [Tryz.params3] at hA hval
 obtain ⟨v0, v1, d0, d1, p0, p1, rfl, rfl, rfl, h0, h1⟩ := trodAll_two hA
 obtain ⟨rfl, rfl⟩ := trodVars_none hV
 obtain ⟨s, rfl, rfl, rfl, hs⟩ := open_string Tryz.underlying9 (hval 0 9 v0 rfl rfl) h0
 obtain ⟨a0, len, cap, rfl⟩ := okWide_slice Tryz.underlying22 (hval 1 22 v1 rfl rfl)
 have h0k := h0
 have h1k := h1
 obtain ⟨fuel, hf⟩ := h1
 clear hA0 hval0
 simp only [List.append_nil] at hW'
 have hlt : ∀ x ∈ p1, x.block < W.heap.size := fun x hx => by
  have := hW'.lt x (by simp [hx])
  simpa using this
 have hw : ∀ n, n ∈ d1.weights Tryz.prog 22 → n ≤ reachBytes := fun n hn => by
  have hm : n ∈ DataW.weightsEach Tryz.prog (Tryz.f3.params.toList ++ Rows.viewsSpec.plain.varTypes Tryz.prog) ([.lit (.string s.data.toList), d1] ++ []) := DataW.weights_mem_each (j := 1) (t := 22) (d := d1) (by rw [Tryz.params3]; rfl) rfl n hn
  have := List.all_eq_true.1 hsz n hm
  simpa using this
 have fin : ∀ (e : Ending) (W' : World), e = .returned (.bool true) ∧ Below W.heap.size W W' → ∃ v, e = .returned v ∧ Rows.viewsSpec.post enc Tryz.checked.prog Tryz.f3 false true false false W #[.string s, .slice a0 len cap] v W' := by
  rintro e W' ⟨rfl, hb⟩
  refine ⟨_, rfl, ?_⟩
  refine ⟨_, _, _, [], _, [], hW', trodAll_mk1 (shut_bool Tryz.underlying4 true), trodAll_mk2 (Below.trod Tryz.laidOut (by kernel_rfl) (of_decide_eq_true (by kernel_rfl)) h0k hb (fun x hx => by cases hx)) (Below.trod Tryz.laidOut (by kernel_rfl) (of_decide_eq_true (by kernel_rfl)) h1k hb hlt), rfl, hb.frame _, fun h => by cases h⟩
 obtain ⟨Kd, Am, S, T, LV, L, hScr⟩ := script_readsT (x := (d1, p1)) hf hw
 exact (Views_any s hs a0 len cap (script_shortv (x := (d1, p1)) hf hw) Kd Am S T LV L W hScr).mono fun e W' h => fin e W' h
theorem Views_true : Rows.ViewsSaid :=
 OpenClaim.holds_of_wide 3 Tryz.f3 rfl rfl rfl rfl rfl rfl rfl ⟨rfl, rfl, rfl, rfl, rfl⟩ rfl rfl rfl rfl rfl (by kernel_rfl) Tryz.func3 (by kernel_rfl)
  (of_decide_eq_true (by kernel_rfl)) (by unfold Func.isWrapper; first | (rw [if_pos (by decide +kernel)]; kernel_rfl) | (rw [if_neg (by decide +kernel)]; exact ⟨rfl, rfl⟩))
  (fun os started H enc _ => Views_lifted os started H enc)
theorem K.parse_said : K.ParseSaid := by
 intro s w hs
 refine (K.Parse_any s w hs).mono ?_
 rintro x w' ⟨⟨q, h1, _⟩, h2⟩
 exact ⟨⟨q, h1⟩, h2⟩
theorem ScrT.below {w w' : World} {va : Option Addr} {n : Nat} {Kd Am : Nat → Int} {S T : Nat → ByteArray} {LV : Nat → Value} {L : Nat → List Int} (h : ScrT w va n Kd Am S T LV L) (hb : Below w.heap.size w w') : ScrT w' va n Kd Am S T LV L := by
 have hc : ∀ (p : Addr) (v : Value), w.cell? p = some v → w'.cell? p = some v := fun p v e => (hb.cell (World.block_lt_of_cell? _ _ e)).trans e
 refine ⟨fun hn => ?_, fun b off e i hi => hc _ _ (h.2 b off e i hi)⟩
 obtain ⟨b, off, e, hh⟩ := h.1 hn
 refine ⟨b, off, e, fun i hi => ?_⟩
 obtain ⟨c0, c1, c2, c4, hr, hl⟩ := hh i hi
 exact ⟨hc _ _ c0, hc _ _ c1, hc _ _ c2, hc _ _ c4, hr.below hb, hl⟩
theorem checks_c (va : Option Addr) (n cap : Nat) (hn : n ≤ maxLen) (Kd Am : Nat → Int) (S T : Nat → ByteArray) (LV : Nat → Value) (L : Nat → List Int) (w : World) (hS : ScrT w va n Kd Am S T LV L) (hz : ∀ i, i < n → (S i).size ≤ maxLen) :
  Calls Tryz.prog 32 #[.slice va n cap] w fun e w' => e = .returned (.bool true) ∧ Below w.heap.size w w' := by
 by_cases h0 : n = 0
 ·refine (K.Checks_nil n cap va w h0).mono ?_
  rintro e w' ⟨rfl, rfl⟩
  exact ⟨rfl, Below.refl _ _⟩
 ·obtain ⟨b, off, rfl, hh⟩ := hS.1 (by omega)
  refine K.Checks_any K.Check_said K.parse_said b off n cap Kd S w hn (by simpa using World.block_lt_of_cell? _ _ (hh 0 (by omega)).1) (fun i hi => (hh i hi).1) (fun i hi => ⟨(hh i hi).2.2.1, hz i hi⟩)
set_option maxHeartbeats 4000000 in
set_option maxRecDepth 100000 in
theorem All_any (s : ByteArray) (hs : s.size ≤ maxLen) (va : Option Addr) (n cap : Nat) (hn : n < 1152921504606846976) (Kd Am : Nat → Int) (S T : Nat → ByteArray) (LV : Nat → Value) (L : Nat → List Int) (w : World) (hS : ScrT w va n Kd Am S T LV L) (hz : ∀ i, i < n → (S i).size ≤ maxLen) :
  Calls Tryz.prog 9 #[.string s, .slice va n cap] w fun e w' => e = .returned (.bool true) ∧ Below w.heap.size w w' := by
 have CK := checks_c va n cap (by unfold maxLen; omega) Kd Am S T LV L w hS hz
 have HS : Hid _ := hS
 have HSS : Hid (s.size ≤ maxLen) := hs
 clear hS hs hz
 go_enter Tryz.func9, Tryz.ntmps9
 go_wp2_with fail
 refine CK.mono ?_
 rintro e w1 ⟨rfl, hb1⟩
 have VW := Views_any s HSS.out va n cap hn Kd Am S T LV L w1 (ScrT.below HS.out hb1)
 clear CK
 go_wp2_with fail
 refine VW.mono ?_
 rintro e w2 ⟨rfl, hb2⟩
 clear VW
 go_wp2_with fail
 go_ret
 exact ⟨rfl, hb1.trans (hb2.mono hb1.size)⟩
set_option maxRecDepth 100000 in
theorem op_size {H : Type} {enc : TypeId × Value → H} {w : World} {n : Nat} {a : Addr} {cs : List Value} {x : DataW H × List MemPlace} (hc : w.cells? 0 a 5 = some cs) (h : DataW.trod enc Tryz.prog w 0 (fun _ => true) true n 30 cs = some x) (t : ByteArray) (ht : w.cell? (a.add 2) = some (.string t)) : t.size ≤ maxLen := by
 obtain ⟨_, hlen, hcell⟩ := World.cells?_some hc
 obtain ⟨xs, m, _, hx, _, hxl, hf⟩ := DataW.trod_struct Tryz.underlying30 h
 match xs, hxl, cs, hlen with
 | [y0, y1, y2, y3, y4], _, [v0, v1, v2, v3, v4], _ =>
  have g2 := hf 2 _ rfl
  simp [Tryz.cells9] at g2
  obtain ⟨s, e2, _, hs⟩ := DataW.trod_string Tryz.underlying9 g2
  have c2 := hcell 2 (by omega)
  simp at e2 c2
  subst e2
  rw [ht] at c2
  simp at c2
  subst c2
  exact hs
theorem script_sizes {H : Type} {enc : TypeId × Value → H} {W : World} {fuel : Nat} {a0 : Option Addr} {len cap : Nat} {x : DataW H × List MemPlace} (hf : DataW.trod enc Tryz.prog W 0 (fun _ => true) true fuel 22 [.slice a0 len cap] = some x) {Kd Am : Nat → Int} {S T : Nat → ByteArray} {LV : Nat → Value} {L : Nat → List Int} (hS : ScrT W a0 len Kd Am S T LV L) : ∀ i, i < len → (S i).size ≤ maxLen := by
 rcases open_slice Tryz.underlying22 hf with ⟨hcs, _⟩ | ⟨a, len', cap', m, n, D, Pl, hcs, _, hl, hm, hmm, hx, hel⟩
 ·obtain ⟨rfl, rfl, rfl⟩ : a0 = none ∧ len = 0 ∧ cap = 0 := by simpa using hcs
  intro i hi; omega
 ·obtain ⟨rfl, rfl, rfl⟩ : a0 = some a ∧ len = len' ∧ cap = cap' := by simpa using hcs
  simp only [if_true] at hmm
  intro i hi
  obtain ⟨b, off, e, hh⟩ := hS.1 (by omega)
  obtain ⟨cs', g1, g2⟩ := hel i (by omega)
  rw [Tryz.cells30] at g1
  refine op_size g1 g2 (S i) ?_
  simp only [Option.some.injEq] at e
  rw [e]
  simp only [add_plain]
  exact (hh i hi).2.2.1
set_option maxRecDepth 100000 in
theorem All_lifted (os : Os) (started : os.Started) (H : Type) (enc : TypeId × Value → H) :
  ReturnsInHanded {} Tryz.checked os 9 .any (Rows.allSpec.pre6 enc Tryz.prog Tryz.f9 Rows.allRow.domain false) (Rows.allSpec.post enc Tryz.prog Tryz.f9 false true false false) := by
 refine returnsInHanded_of_change_sized (C := Tryz.checked) Tryz.own started (by kernel_rfl) Tryz.func9
  (ChangeSpec.witness6 (enc := enc) (C := Tryz.checked) false ⟨#[], #[.string ⟨#[]⟩, .slice none 0 0], []⟩ 8 (by kernel_rfl) (by kernel_rfl) (by kernel_rfl) (by kernel_rfl)) ?_
 intro W base args ds gs before hval0 hW hcnd hsz _
 have hval : ∀ (j : Nat) t v, Tryz.f9.params[j]? = some t → args[j]? = some v → Value.okWide Tryz.prog W .any base t v := hval0
 have hW' := hW
 obtain ⟨p, q, hA0, hV, rfl, hfz, hnd⟩ := hW
 have hA : DataW.TrodAll enc Tryz.prog W 0 (fun _ => true) true Tryz.f9.params.toList args.toList ds p := hA0
 rw [Tryz.params9] at hA hval
 obtain ⟨v0, v1, d0, d1, p0, p1, rfl, rfl, rfl, h0, h1⟩ := trodAll_two hA
 obtain ⟨rfl, rfl⟩ := trodVars_none hV
 obtain ⟨s, rfl, rfl, rfl, hs⟩ := open_string Tryz.underlying9 (hval 0 9 v0 rfl rfl) h0
 obtain ⟨a0, len, cap, rfl⟩ := okWide_slice Tryz.underlying22 (hval 1 22 v1 rfl rfl)
 have h0k := h0
 have h1k := h1
 obtain ⟨fuel, hf⟩ := h1
 clear hA0 hval0
 simp only [List.append_nil] at hW'
 have hlt : ∀ x ∈ p1, x.block < W.heap.size := fun x hx => by
  have := hW'.lt x (by simp [hx])
  simpa using this
 have hw : ∀ n, n ∈ d1.weights Tryz.prog 22 → n ≤ reachBytes := fun n hn => by
  have hm : n ∈ DataW.weightsEach Tryz.prog (Tryz.f9.params.toList ++ Rows.allSpec.plain.varTypes Tryz.prog) ([.lit (.string s.data.toList), d1] ++ []) := DataW.weights_mem_each (j := 1) (t := 22) (d := d1) (by rw [Tryz.params9]; rfl) rfl n hn
  have := List.all_eq_true.1 hsz n hm
  simpa using this
 have fin : ∀ (e : Ending) (W' : World), e = .returned (.bool true) ∧ Below W.heap.size W W' → ∃ v, e = .returned v ∧ Rows.allSpec.post enc Tryz.checked.prog Tryz.f9 false true false false W #[.string s, .slice a0 len cap] v W' := by
  rintro e W' ⟨rfl, hb⟩
  refine ⟨_, rfl, ?_⟩
  refine ⟨_, _, _, [], _, [], hW', trodAll_mk1 (shut_bool Tryz.underlying4 true), trodAll_mk2 (Below.trod Tryz.laidOut (by kernel_rfl) (of_decide_eq_true (by kernel_rfl)) h0k hb (fun x hx => by cases hx)) (Below.trod Tryz.laidOut (by kernel_rfl) (of_decide_eq_true (by kernel_rfl)) h1k hb hlt), rfl, hb.frame _, fun h => by cases h⟩
 obtain ⟨Kd, Am, S, T, LV, L, hScr⟩ := script_readsT (x := (d1, p1)) hf hw
 exact (All_any s hs a0 len cap (script_shortv (x := (d1, p1)) hf hw) Kd Am S T LV L W hScr (script_sizes (x := (d1, p1)) hf hScr)).mono fun e W' h => fin e W' h
theorem All_true : Rows.AllSaid :=
 OpenClaim.holds_of_wide 9 Tryz.f9 rfl rfl rfl rfl rfl rfl rfl ⟨rfl, rfl, rfl, rfl, rfl⟩ rfl rfl rfl rfl rfl (by kernel_rfl) Tryz.func9 (by kernel_rfl)
  (of_decide_eq_true (by kernel_rfl)) (by unfold Func.isWrapper; first | (rw [if_pos (by decide +kernel)]; kernel_rfl) | (rw [if_neg (by decide +kernel)]; exact ⟨rfl, rfl⟩))
  (fun os started H enc _ => All_lifted os started H enc)
end Go.Proofs.YtondkinefmjpjaaGreat
