import Derived.Test.YtondkinefmjpjaaGreatW50
import Derived.Test.YtondkinefmjpjaaGreatW52
/-
  Two views beside one another, and the order of updates.
-/
namespace Go.Proofs.YtondkinefmjpjaaGreat
open Go.RowKit Go.WideMaps Go.WideElems Go.Maps Go.Shelf

/-- A view, where maps have turned that are none of its own. -/
theorem VSt.frM {M : Nat → Prop} {w w' : World} {vb : Nat} {P : PlanD} {rb ib : List Nat} {wb : Nat} {R : Nat → List Int → Int} {g : Nat → List Int → Option Nat} {own : Nat → Option (Nat × List Int)} (h : VSt w vb P rb ib wb R g own) (hf : Fr M w w') (hm : Mps w M) (hd : ∀ i, M i → own i = none) : VSt w' vb P rb ib wb R g own := by
  obtain ⟨c, hb⟩ := h.hb
  obtain ⟨rv, b1, r1, r2⟩ := h.rows
  obtain ⟨iv, b2, i1, i2⟩ := h.ixs
  have no : ∀ i r, own i = some r → ¬ M i := fun i r hr hM => by rw [hd i hM] at hr; cases hr
  have nv : ¬ M vb := fun hM => by obtain ⟨es, k, e⟩ := hm vb (vlt_of_block hb) hM; rw [hb] at e; cases e
  refine ⟨h.ok, h.rel, h.rok, ⟨c, (hf.block vb (vlt_of_block hb) nv).trans hb⟩, hf.cell hm h.h0, h.pl.fr hf hm, ⟨rv, b1, hf.cell hm r1, hf.own hm r2⟩, ⟨iv, b2, hf.cell hm i1, hf.own hm i2⟩, hf.cell hm h.wo, h.hrb, h.hil, fun r hr => ⟨(h.cr r hr).1.block (hf.block _ (h.cr r hr).1.lt (no _ _ (h.cr r hr).2)), (h.cr r hr).2⟩, fun l hl => ?_, ⟨h.W.o, h.W.i, fun i r hr => ?_⟩, h.ow, h.cw.block (hf.block _ h.cw.lt (no _ _ h.ow)), h.no4⟩
  · exact (h.A l hl).block (hf.block _ (h.A l hl).o.lt (no _ _ (h.W.o l hl))) (fun k hk c hc => hf.block _ ((h.A l hl).i k hk c hc).1.lt (no _ _ (h.W.i l hl k hk c hc)))
  · obtain ⟨es, c, e⟩ := h.W.m i r hr
    exact ⟨es, c, (hf.block i (vlt_of_block e) (no i r hr)).trans e⟩
/-- Blocks of one view are none of the other's. -/
def Apt (own own2 : Nat → Option (Nat × List Int)) : Prop := ∀ i, own i ≠ none → own2 i = none
theorem Apt.symm {own own2 : Nat → Option (Nat × List Int)} (h : Apt own own2) : Apt own2 own := fun i hi => by
  cases e : own i with
  | none => rfl
  | some r => exact absurd (h i (by rw [e]; exact fun q => by cases q)) hi
/-- One view's update, as the other sees it. -/
theorem VSt.other {w w' : World} {vb vb2 : Nat} {P P2 : PlanD} {rb ib rb2 ib2 : List Nat} {wb wb2 : Nat} {R R2 : Nat → List Int → Int} {g g2 : Nat → List Int → Option Nat} {own own' own2 : Nat → Option (Nat × List Int)} (h : VSt w vb P rb ib wb R g own) (h2 : VSt w vb2 P2 rb2 ib2 wb2 R2 g2 own2) (ha : Apt own own2) (hU : VUp w w' own own') : VSt w' vb2 P2 rb2 ib2 wb2 R2 g2 own2 ∧ Apt own' own2 := by
  refine ⟨h2.frM hU.fr (mps_ow h.W) (fun i hM => ?_), fun i hi => ?_⟩
  · obtain ⟨r, hr⟩ := hM
    exact ha i (by rw [hr]; exact fun q => by cases q)
  · by_cases hl : i < w.heap.size
    · rw [hU.old i hl] at hi; exact ha i hi
    · cases e : own2 i with
      | none => rfl
      | some r => obtain ⟨es, c, e'⟩ := h2.W.m i r e; exact absurd (vlt_of_block e') hl

/-- What one step of a script adds to a relation's row. -/
def ct (P : PlanD) (Kd Am : Nat → Int) (S : Nat → ByteArray) (L : Nat → List Int) (r : Nat) (t : List Int) (i : Nat) : Int := if Kd i = 2 ∧ rixOf P.rels (S i) = (r : Int) ∧ pad (L i) = t then Am i else 0
/-- The relations' rows behind these steps, in any order. -/
def RS (P : PlanD) (Kd Am : Nat → Int) (S : Nat → ByteArray) (L : Nat → List Int) (is : List Nat) : Nat → List Int → Int := fun r t => Sg is (ct P Kd Am S L r t)
theorem RS_upd {P : PlanD} {Kd Am : Nat → Int} {S : Nat → ByteArray} {L : Nat → List Int} (is : List Nat) {i r : Nat} (hk : Kd i = 2) (hr : rixOf P.rels (S i) = (r : Int)) : updR (RS P Kd Am S L is) r (pad (L i)) (Am i) = RS P Kd Am S L (i :: is) := by
  funext q t
  unfold updR RS
  rw [S_cons]
  have e : ct P Kd Am S L q t i = if q = r ∧ t = pad (L i) then Am i else 0 := by
    unfold ct
    by_cases h : q = r ∧ t = pad (L i)
    · obtain ⟨h1, h2⟩ := h
      rw [if_pos ⟨hk, by rw [hr, h1], h2.symm⟩, if_pos ⟨h1, h2⟩]
    · rw [if_neg h, if_neg]
      rintro ⟨_, h1, h2⟩
      rw [hr] at h1
      exact h ⟨by omega, h2.symm⟩
  rw [e]
  by_cases hq : q = r
  · subst hq
    rw [if_pos rfl]
    show (Sg is (ct P Kd Am S L q t) + if t = pad (L i) then Am i else 0) = _
    by_cases ht : t = pad (L i)
    · rw [if_pos ht, if_pos ⟨rfl, ht⟩]; omega
    · rw [if_neg ht, if_neg (fun h => ht h.2)]; omega
  · rw [if_neg hq, if_neg (fun h => hq h.1)]; omega
theorem RS_skip {P : PlanD} {Kd Am : Nat → Int} {S : Nat → ByteArray} {L : Nat → List Int} (is : List Nat) {i : Nat} (hk : Kd i ≠ 2) : RS P Kd Am S L (i :: is) = RS P Kd Am S L is := by
  funext q t
  unfold RS
  rw [S_cons, show ct P Kd Am S L q t i = 0 from if_neg (fun h => hk h.1)]; omega
theorem RS_perm {P : PlanD} {Kd Am : Nat → Int} {S : Nat → ByteArray} {L : Nat → List Int} {is js : List Nat} (h : is.Perm js) : RS P Kd Am S L is = RS P Kd Am S L js := by
  funext q t
  exact S_perm h _
theorem RS_nil {P : PlanD} {Kd Am : Nat → Int} {S : Nat → ByteArray} {L : Nat → List Int} : RS P Kd Am S L [] = fun _ _ => 0 := rfl
/-- The steps below k, and the next one. -/
theorem range_next (k : Nat) : (k :: List.range k).Perm (List.range (k + 1)) := by
  rw [List.range_succ]
  exact List.perm_append_singleton k (List.range k) |>.symm
/-- The steps from k on. -/
def rest (n k : Nat) : List Nat := (List.range n).drop k
theorem rest_next (n k : Nat) (hk : k < n) : rest n k = k :: rest n (k + 1) := by
  unfold rest
  rw [List.drop_eq_getElem_cons (by rw [List.length_range]; exact hk), List.getElem_range]
theorem rest_all (n : Nat) : rest n 0 = List.range n := rfl
theorem rest_none (n : Nat) : rest n n = [] := by unfold rest; rw [List.drop_eq_nil_iff, List.length_range]; omega

end Go.Proofs.YtondkinefmjpjaaGreat
/-
  Order: the law's walk.
-/
namespace Go.Proofs.YtondkinefmjpjaaGreat
open Go.RowKit Go.WideMaps Go.WideElems Go.Maps Go.Shelf

/-- Where a view lies. -/
structure VN where
  vb : Nat
  rb : List Nat
  ib : List Nat
  wb : Nat
/-- Two views beside one another, new behind B. -/
def Two (B : Nat) (w : World) (P : PlanD) (V1 : VN) (R1 : Nat → List Int → Int) (V2 : VN) (R2 : Nat → List Int → Int) : Prop :=
  ∃ g1 own1 g2 own2, VSt w V1.vb P V1.rb V1.ib V1.wb R1 g1 own1 ∧ VSt w V2.vb P V2.rb V2.ib V2.wb R2 g2 own2 ∧ Apt own1 own2 ∧ (∀ b, own1 b ≠ none → B ≤ b) ∧ ∀ b, own2 b ≠ none → B ≤ b
theorem Two.below {B : Nat} {w w' : World} {P : PlanD} {V1 V2 : VN} {R1 R2 : Nat → List Int → Int} (h : Two B w P V1 R1 V2 R2) (hb : Below w.heap.size w w') : Two B w' P V1 R1 V2 R2 := by
  obtain ⟨g1, o1, g2, o2, h1, h2, h3, h4, h5⟩ := h
  exact ⟨g1, o1, g2, o2, h1.fr (fr_below hb), h2.fr (fr_below hb), h3, h4, h5⟩
theorem Two.symm {B : Nat} {w : World} {P : PlanD} {V1 V2 : VN} {R1 R2 : Nat → List Int → Int} (h : Two B w P V1 R1 V2 R2) : Two B w P V2 R2 V1 R1 := by
  obtain ⟨g1, o1, g2, o2, h1, h2, h3, h4, h5⟩ := h
  exact ⟨g2, o2, g1, o1, h2, h1, h3.symm, h5, h4⟩
/-- The first one's update. -/
def TwC (B : Nat) (w : World) (P : PlanD) (V1 : VN) (R1 : Nat → List Int → Int) (V2 : VN) (R2 : Nat → List Int → Int) (S : ByteArray) (am : Int) (xs : List Int) (c : Int) (w1 : World) : Prop :=
  Below B w w1 ∧ (c = 0 → ∃ r : Nat, rixOf P.rels S = (r : Int) ∧ Two B w1 P V1 (updR R1 r (pad xs) am) V2 R2)
theorem update_two {B : Nat} {w : World} {P : PlanD} {V1 V2 : VN} {R1 R2 : Nat → List Int → Int} (h : Two B w P V1 R1 V2 R2) (hB : B ≤ w.heap.size) (S : ByteArray) (am : Int) {v : Value} {xs : List Int} (hr : Reads w v xs) (hxl : xs.length < 4611686018427387904) (hT : ∀ r, r < P.rels.length → (P.rel r).2.1 ≤ 3) :
    Calls Tryz.prog 16 #[.pointer (some ⟨V1.vb, 0, none⟩), .string S, .int .i64 am, v] w fun e w' => ∃ v, e = .returned v ∧ ∃ vv c, v = .tuple #[vv, .int .i64 c] ∧ TwC B w P V1 R1 V2 R2 S am xs c w' := by
  obtain ⟨g1, o1, g2, o2, h1, h2, h3, h4, h5⟩ := h
  refine (update_c h1 S am hr hxl hT).mono ?_
  rintro e w' ⟨_, rfl, vv, c, rfl, ⟨hc, _, hb⟩ | ⟨hc, r, us, l, g', own', hU⟩⟩
  · exact ⟨_, rfl, vv, c, rfl, hb.mono hB, fun q => absurd q hc⟩
  · obtain ⟨u1, u2⟩ := hU.up.below hB h4
    obtain ⟨q1, q2⟩ := h1.other h2 h3 hU.up
    exact ⟨_, rfl, vv, c, rfl, u1, fun _ => ⟨r, hU.hI, g', own', g2, o2, hU.st, q1, q2, u2, h5⟩⟩

set_option maxHeartbeats 8000000 in
set_option maxRecDepth 100000 in
theorem Order_any (s : ByteArray) (hs : s.size ≤ maxLen) (va : Option Addr) (n cap : Nat) (hn : n < 1152921504606846976) (Kd Am : Nat → Int) (S T : Nat → ByteArray) (LV : Nat → Value) (L : Nat → List Int) (w : World) (hS : ScrT w va n Kd Am S T LV L) :
    Calls Tryz.prog 6 #[.string s, .slice va n cap] w fun e w' => e = .returned (.bool true) ∧ Below w.heap.size w w' := by
  by_cases hE : K.pE s = 0
  · have hG := K.pE_G hE
    have C1 := started_ok s w hs hG
    have C2 : Hid (∀ u : World, _) := fun u => Start_ok s u hs hG
    have hT := K.plan_terms s
    obtain ⟨P, hP⟩ : ∃ P, K.planOf (K.rq s (K.c0 s)).2 = P := ⟨_, rfl⟩
    rw [hP] at C1 hT C2
    have HT : Hid _ := hT
    have HS : Hid _ := hS.1
    have HS3 : Hid _ := hS.2
    clear hP hT hS hE hG hs
    go_enter Tryz.func6, Tryz.ntmps6
    go_wp2_with fail
    refine C1.mono ?_
    rintro x w1 ⟨vb1, q, rb1, ib1, wb1, rfl, hV1, hb1, hvb1, hown1⟩
    clear C1
    go_wp2_with fail
    refine (C2.out w1).mono ?_
    rintro x w2 ⟨vb2, rb2, ib2, wb2, rfl, hV2, hb2, hvb2, hown2⟩
    have hTW : Two w.heap.size w2 P ⟨vb1, rb1, ib1, wb1⟩ (RS P Kd Am S L (List.range 0)) ⟨vb2, rb2, ib2, wb2⟩ (RS P Kd Am S L (rest n n)) := by
      rw [rest_none]
      exact ⟨_, _, _, _, hV1.fr (fr_below hb2), hV2, fun i hi => by
        cases e : own0 wb2 rb2 ib2 i with
        | none => rfl
        | some r =>
          exfalso
          have q2 := hown2 i (by rw [e]; exact fun q => by cases q)
          cases e1 : own0 wb1 rb1 ib1 i with
          | none => exact hi e1
          | some r1 => obtain ⟨es, c, e'⟩ := hV1.W.m i r1 e1; have := vlt_of_block e'; omega, hown1, fun b hb => Nat.le_trans hb1.size (hown2 b hb)⟩
    have hB2 : Below w.heap.size w w2 := hb1.trans (hb2.mono hb1.size)
    clear hV1 hV2 hown1 hown2 hb1 hb2 C2
    obtain ⟨V1, hVN1⟩ : ∃ V : VN, V = ⟨vb1, rb1, ib1, wb1⟩ := ⟨_, rfl⟩
    obtain ⟨V2, hVN2⟩ : ∃ V : VN, V = ⟨vb2, rb2, ib2, wb2⟩ := ⟨_, rfl⟩
    have hv1 : vb1 = V1.vb := by rw [hVN1]
    have hv2 : vb2 = V2.vb := by rw [hVN2]
    rw [← hVN1, ← hVN2] at hTW
    rw [hv1, hv2]
    clear hVN1 hVN2 hv1 hv2 hvb1 hvb2
    go_wp2_with fail
    go_loopw [11, 12, 13, 14] (fun kv _ _ _ wr => ∃ k : Nat, k ≤ n ∧ kv = .int .i64 k ∧ Two w.heap.size wr P V1 (RS P Kd Am S L (List.range k)) V2 (RS P Kd Am S L (rest n n)) ∧ Below w.heap.size w wr) (fun kv _ _ _ _ => n - (intOf kv).toNat)
    case atStart => exact ⟨0, Nat.zero_le _, rfl, hTW, hB2⟩
    case round =>
      clear hTW hB2
      obtain ⟨k, hk, rfl, hVA, hb⟩ := hrel
      by_cases hlt : k < n
      · obtain ⟨b, off, la, lc, rfl, c0, c1, c2, c4, hr, hl⟩ := Scr.at HS.out hb hlt
        have c3 : wr.cell? ⟨b, off + k * 5 + 3, none⟩ = some (.string (T k)) := by
          have c3 := HS3.out b off rfl k hlt
          exact (hb.cell (World.block_lt_of_cell? _ _ c3)).trans c3
        have lb := World.block_lt_of_cell? _ _ c0
        have hk' : (k : Int) < (n : Int) := by omega
        have hbig : (k : Int) < 1152921504606846976 := by omega
        have hba : Below wr.heap.size wr (wr.alloc (.cells #[.int .i64 (Kd k), .int .i64 (Am k), .string (S k), .string (T k), .slice la (L k).length lc] 30)) := (Below.refl _ _).alloc (Nat.le_refl _) _
        have hV0 := hVA.below hba
        have hb0 : Below w.heap.size w (wr.alloc (.cells #[.int .i64 (Kd k), .int .i64 (Am k), .string (S k), .string (T k), .slice la (L k).length lc] 30)) := hb.trans (hba.mono hb.size)
        cases hk1 : (Kd k == 2)
        · have HNX : Hid (RS P Kd Am S L (List.range (k + 1)) = RS P Kd Am S L (List.range k)) := by
            unfold Hid; rw [← RS_perm (range_next k), RS_skip _ (by simpa using hk1)]
          go_wp2_with fail
          go_roundw
          case rel => exact ⟨k + 1, by omega, by go_num, by rw [HNX.out]; exact hV0, hb0⟩
          case measure => simp [intOf]; omega
        · have HNX : Hid (∀ r : Nat, rixOf P.rels (S k) = (r : Int) → RS P Kd Am S L (List.range (k + 1)) = updR (RS P Kd Am S L (List.range k)) r (pad (L k)) (Am k)) := fun r hr => by
            rw [← RS_perm (range_next k), RS_upd _ (by simpa using hk1) hr]
          have hr0 := Reads.below hr hba
          have HB0 : Hid _ := hb0
          have e1 : (wr.alloc (.cells #[.int .i64 (Kd k), .int .i64 (Am k), .string (S k), .string (T k), .slice la (L k).length lc] 30)).cell? ⟨wr.heap.size, 1, none⟩ = some (.int .i64 (Am k)) := by simp
          have e2 : (wr.alloc (.cells #[.int .i64 (Kd k), .int .i64 (Am k), .string (S k), .string (T k), .slice la (L k).length lc] 30)).cell? ⟨wr.heap.size, 2, none⟩ = some (.string (S k)) := by simp
          have HCP := copied_q _ (L k) (wr.alloc (.cells #[.int .i64 (Kd k), .int .i64 (Am k), .string (S k), .string (T k), .slice la (L k).length lc] 30)) wr.heap.size 0 (S k) (Am k) hr0 hl e1 e2
          have HUP : Hid (∀ (u : World) (v : Value), Below (wr.alloc (.cells #[.int .i64 (Kd k), .int .i64 (Am k), .string (S k), .string (T k), .slice la (L k).length lc] 30)).heap.size (wr.alloc (.cells #[.int .i64 (Kd k), .int .i64 (Am k), .string (S k), .string (T k), .slice la (L k).length lc] 30)) u → Reads u v (L k) → Calls Tryz.prog 16 #[.pointer (some ⟨V1.vb, 0, none⟩), .string (S k), .int .i64 (Am k), v] u fun e w' => ∃ v, e = .returned v ∧ ∃ vv c, v = .tuple #[vv, .int .i64 c] ∧ TwC w.heap.size u P V1 (RS P Kd Am S L (List.range k)) V2 (RS P Kd Am S L (rest n n)) (S k) (Am k) (L k) c w') :=
            fun u v hu hru => update_two (hV0.below hu) (Nat.le_trans HB0.out.size hu.size) (S k) (Am k) hru (by omega) HT.out
          obtain ⟨NL, hNL⟩ : ∃ x, (L k).length = x := ⟨_, rfl⟩
          have HNL : Hid _ := hNL
          have HCC : Hid _ := HCP
          rw [hNL] at HCC HUP HB0 c4
          clear hNL HCP hr0 hV0 e1 e2 hba hb0 hVA hr
          go_upto_region 12 with fail
          go_cut [13, 14] (fun _ ev wx => ∃ c : Int, ev = .int .i64 c ∧ Below w.heap.size w wx ∧ (c = 0 → Two w.heap.size wx P V1 (RS P Kd Am S L (List.range (k + 1))) V2 (RS P Kd Am S L (rest n n))))
          case first =>
            go_region_law (first | (refine step_call rfl 17 #[.tmp 68] #[28] rfl enter17 #[.slice la NL lc] (by kernel_rfl) _ HCC.out ?_; rintro v1 w3 ⟨a1, p1, rfl, r1, b1, f1, f2⟩; rw [HNL.out]; have HR1 : Hid _ := r1) | (refine step_call rfl 16 #[.tmp 62, .tmp 64, .tmp 66, .tmp 69] #[23, 9, 3, 28] rfl enter16 #[.pointer (some ⟨V1.vb, 0, none⟩), .string (S k), .int .i64 (Am k), .slice a1 NL p1] (by kernel_rfl) _ (HUP.out w3 (.slice a1 NL p1) b1 (by rw [← HNL.out]; exact HR1.out)) ?_; rintro v3 w4 ⟨vv, c, rfl, hbc, htc⟩))
            all_goals (go_wp2; go_meet)
            all_goals exact ⟨c, rfl, (HB0.out.trans (b1.mono HB0.out.size)).trans hbc, fun hc => by obtain ⟨r, hr, ht⟩ := htc hc; rw [HNX.out r hr]; exact ht⟩
          case rest =>
            obtain ⟨c, rfl, hbx, htw⟩ := hcut
            obtain ⟨w3, hw3⟩ : ∃ w3 : World, w3 = wc := ⟨_, rfl⟩
            subst hw3
            cases hc : (c != 0)
            · have hc0 : c = 0 := by simpa using hc
              have htw' := htw hc0
              go_wp2_with (go_at_call 27; refine (num_any _ _).mono ?_; rintro x w8 ⟨rfl, hw8⟩; subst hw8)
              go_roundw
              case rel => exact ⟨k + 1, by omega, by go_num, htw', hbx⟩
              case measure => simp [intOf]; omega
            · go_wp2_with (go_at_call 27; refine (num_any _ _).mono ?_; rintro x w8 ⟨rfl, hw8⟩; subst hw8)
              refine (alive_any _).mono ?_
              rintro x w4 ⟨rfl, hb4⟩
              go_wp2_with fail
              go_ret
              exact ⟨rfl, hbx.trans (hb4.mono hbx.size)⟩
      · have hkn : k = n := by omega
        rw [hkn] at hVA
        have hnot : ¬ (k : Int) < (n : Int) := by omega
        have hVB := hVA.symm
        clear hVA
        go_wp2_with fail
        go_loopw [15, 16, 17, 18] (fun iv _ _ _ wx => ∃ m : Nat, m ≤ n ∧ iv = .int .i64 ((m : Int) - 1) ∧ Two w.heap.size wx P V2 (RS P Kd Am S L (rest n m)) V1 (RS P Kd Am S L (List.range n)) ∧ Below w.heap.size w wx) (fun iv _ _ _ _ => (intOf iv + 1).toNat)
        case atStart => exact ⟨n, Nat.le_refl _, by go_num, hVB, hb⟩
        case round =>
          clear hVB hb
          obtain ⟨m, hm, rfl, hVB, hb⟩ := hrel
          cases m with
          | zero =>
            obtain ⟨g2, o2, g1, o1, hW2, hW1, _⟩ := hVB
            rw [rest_all] at hW2
            have HW1 : Hid _ := hW1
            have HW2 : Hid _ := hW2
            have HB : Hid (Below w.heap.size w wr) := hb
            have R1 := rows_s hW1
            clear hW1 hW2 hb
            go_wp2_with fail
            refine R1.mono ?_
            rintro e w4 ⟨v4, us4, l4, rfl, n4, p4, f4, b4⟩
            go_wp2_with fail
            refine (neg_s n4 f4).mono ?_
            rintro e w5 ⟨v5, us5, rfl, n5, b5⟩
            go_wp2_with fail
            refine (sum_nil _ _ _ _ w5 n5 (fit_neg f4)).mono ?_
            rintro e w6 ⟨v6, us6, rfl, n6, b6⟩
            have b46 : Below wr.heap.size wr w6 := (b4.trans (b5.mono b4.size)).trans (b6.mono (Nat.le_trans b4.size b5.size))
            go_wp2_with fail
            refine (rows_s (VSt.fr HW2.out (fr_below b46))).mono ?_
            rintro e w7 ⟨v7, us7, l7, rfl, n7, p7, f7, b7⟩
            go_wp2_with fail
            refine (sum_on _ _ _ _ _ _ _ w5.heap.size w7 (Nat.le_trans b6.size b7.size) (n6.below b7) n7 ((fit_sum fit_nil (fit_neg f4)).le (by omega)) f7).mono ?_
            rintro e w8 ⟨v8, us8, rfl, n8, b8⟩
            have b48 : Below w.heap.size w w8 := (HB.out.trans ((b46.trans (b7.mono b46.size)).mono HB.out.size)).trans (b8.mono (Nat.le_trans HB.out.size (Nat.le_trans b4.size b5.size)))
            go_wp2_with fail
            refine (noth_s n8 ((fit_sum (fit_sum fit_nil (fit_neg f4)) f7).le (by omega)) (still_nothing p4 p7)).mono ?_
            rintro e w' ⟨rfl, hw'⟩
            rw [hw']
            clear hw'
            go_wp2_with (go_at_call 15; refine (alive_any _).mono ?_; rintro x w9 ⟨rfl, hb9⟩)
            go_ret
            exact ⟨rfl, b48.trans (hb9.mono b48.size)⟩
          | succ j =>
            have ej : (((j + 1 : Nat) : Int) - 1) = (j : Int) := by omega
            rw [ej]
            have hjn : j < n := by omega
            obtain ⟨b, off, la, lc, rfl, c0, c1, c2, c4, hr, hl⟩ := Scr.at HS.out hb hjn
            have c3 : wr.cell? ⟨b, off + j * 5 + 3, none⟩ = some (.string (T j)) := by
              have c3 := HS3.out b off rfl j hjn
              exact (hb.cell (World.block_lt_of_cell? _ _ c3)).trans c3
            have lb := World.block_lt_of_cell? _ _ c0
            have hk' : (j : Int) < (n : Int) := by omega
            have hba : Below wr.heap.size wr (wr.alloc (.cells #[.int .i64 (Kd j), .int .i64 (Am j), .string (S j), .string (T j), .slice la (L j).length lc] 30)) := (Below.refl _ _).alloc (Nat.le_refl _) _
            have hV0 := hVB.below hba
            have hb0 : Below w.heap.size w (wr.alloc (.cells #[.int .i64 (Kd j), .int .i64 (Am j), .string (S j), .string (T j), .slice la (L j).length lc] 30)) := hb.trans (hba.mono hb.size)
            cases hk1 : (Kd j == 2)
            · have HNX : Hid (RS P Kd Am S L (rest n j) = RS P Kd Am S L (rest n (j + 1))) := by
                unfold Hid; rw [rest_next n j hjn, RS_skip _ (by simpa using hk1)]
              go_wp2_with fail
              go_roundw
              case rel => exact ⟨j, by omega, by go_num, by rw [HNX.out]; exact hV0, hb0⟩
              case measure => simp [intOf]
            · have HNX : Hid (∀ r : Nat, rixOf P.rels (S j) = (r : Int) → RS P Kd Am S L (rest n j) = updR (RS P Kd Am S L (rest n (j + 1))) r (pad (L j)) (Am j)) := fun r hr => by
                rw [rest_next n j hjn, RS_upd _ (by simpa using hk1) hr]
              have hr0 := Reads.below hr hba
              have HB0 : Hid _ := hb0
              have e1 : (wr.alloc (.cells #[.int .i64 (Kd j), .int .i64 (Am j), .string (S j), .string (T j), .slice la (L j).length lc] 30)).cell? ⟨wr.heap.size, 1, none⟩ = some (.int .i64 (Am j)) := by simp
              have e2 : (wr.alloc (.cells #[.int .i64 (Kd j), .int .i64 (Am j), .string (S j), .string (T j), .slice la (L j).length lc] 30)).cell? ⟨wr.heap.size, 2, none⟩ = some (.string (S j)) := by simp
              have HCP := copied_q _ (L j) (wr.alloc (.cells #[.int .i64 (Kd j), .int .i64 (Am j), .string (S j), .string (T j), .slice la (L j).length lc] 30)) wr.heap.size 0 (S j) (Am j) hr0 hl e1 e2
              have HUP : Hid (∀ (u : World) (v : Value), Below (wr.alloc (.cells #[.int .i64 (Kd j), .int .i64 (Am j), .string (S j), .string (T j), .slice la (L j).length lc] 30)).heap.size (wr.alloc (.cells #[.int .i64 (Kd j), .int .i64 (Am j), .string (S j), .string (T j), .slice la (L j).length lc] 30)) u → Reads u v (L j) → Calls Tryz.prog 16 #[.pointer (some ⟨V2.vb, 0, none⟩), .string (S j), .int .i64 (Am j), v] u fun e w' => ∃ v, e = .returned v ∧ ∃ vv c, v = .tuple #[vv, .int .i64 c] ∧ TwC w.heap.size u P V2 (RS P Kd Am S L (rest n (j + 1))) V1 (RS P Kd Am S L (List.range n)) (S j) (Am j) (L j) c w') :=
                fun u v hu hru => update_two (hV0.below hu) (Nat.le_trans HB0.out.size hu.size) (S j) (Am j) hru (by omega) HT.out
              obtain ⟨NL, hNL⟩ : ∃ x, (L j).length = x := ⟨_, rfl⟩
              have HNL : Hid _ := hNL
              have HCC : Hid _ := HCP
              rw [hNL] at HCC HUP HB0 c4
              clear hNL HCP hr0 hV0 e1 e2 hba hb0 hVB hr
              go_upto_region 20 with fail
              go_cut [17, 18] (fun _ ev wx => ∃ c : Int, ev = .int .i64 c ∧ Below w.heap.size w wx ∧ (c = 0 → Two w.heap.size wx P V2 (RS P Kd Am S L (rest n j)) V1 (RS P Kd Am S L (List.range n))))
              case first =>
                go_region_law (first | (refine step_call rfl 17 #[.tmp 98] #[28] rfl enter17 #[.slice la NL lc] (by kernel_rfl) _ HCC.out ?_; rintro v1 w3 ⟨a1, p1, rfl, r1, b1, f1, f2⟩; rw [HNL.out]; have HR1 : Hid _ := r1) | (refine step_call rfl 16 #[.tmp 92, .tmp 94, .tmp 96, .tmp 99] #[23, 9, 3, 28] rfl enter16 #[.pointer (some ⟨V2.vb, 0, none⟩), .string (S j), .int .i64 (Am j), .slice a1 NL p1] (by kernel_rfl) _ (HUP.out w3 (.slice a1 NL p1) b1 (by rw [← HNL.out]; exact HR1.out)) ?_; rintro v3 w4 ⟨vv, c, rfl, hbc, htc⟩))
                all_goals (go_wp2; go_meet)
                all_goals exact ⟨c, rfl, (HB0.out.trans (b1.mono HB0.out.size)).trans hbc, fun hc => by obtain ⟨r, hr, ht⟩ := htc hc; rw [HNX.out r hr]; exact ht⟩
              case rest =>
                obtain ⟨c, rfl, hbx, htw⟩ := hcut
                obtain ⟨w3, hw3⟩ : ∃ w3 : World, w3 = wc := ⟨_, rfl⟩
                subst hw3
                cases hc : (c != 0)
                · have hc0 : c = 0 := by simpa using hc
                  have htw' := htw hc0
                  go_wp2_with (go_at_call 27; refine (num_any _ _).mono ?_; rintro x w8 ⟨rfl, hw8⟩; subst hw8)
                  go_roundw
                  case rel => exact ⟨j, by omega, by go_num, htw', hbx⟩
                  case measure => simp [intOf]
                · go_wp2_with (go_at_call 27; refine (num_any _ _).mono ?_; rintro x w8 ⟨rfl, hw8⟩; subst hw8)
                  refine (alive_any _).mono ?_
                  rintro x w4 ⟨rfl, hb4⟩
                  go_wp2_with fail
                  go_ret
                  exact ⟨rfl, hbx.trans (hb4.mono hbx.size)⟩
  · have C1 := started_no s w hs hE
    clear hS hE
    go_enter Tryz.func6, Tryz.ntmps6
    go_wp2_with fail
    refine C1.mono ?_
    rintro x w1 ⟨rfl, hb1⟩
    go_wp2_with (go_at_call 15; refine (alive_any _).mono ?_; rintro x w2 ⟨rfl, hb2⟩)
    go_ret
    exact ⟨rfl, hb1.trans (hb2.mono hb1.size)⟩

end Go.Proofs.YtondkinefmjpjaaGreat
namespace Go.Proofs.YtondkinefmjpjaaGreat
open Go.ChangeShapes Go.WideShapes Go.ChangeAt Go.RowKit Go.Deep Go.ChangeMaps

theorem Tryz.bytes30 : Tryz.prog.bytesOf 30 = 72 := by kernel_rfl
/-- A script that was handed in is not longer than memory. -/
theorem script_short {H : Type} {enc : TypeId × Value → H} {W : World} {fuel : Nat} {a0 : Option Addr} {len cap : Nat} {x : DataW H × List MemPlace} (hf : DataW.trod enc Tryz.prog W 0 (fun _ => true) true fuel 22 [.slice a0 len cap] = some x) (hw : ∀ n, n ∈ x.1.weights Tryz.prog 22 → n ≤ reachBytes) : len < 1152921504606846976 := by
  rcases open_slice Tryz.underlying22 hf with ⟨hcs, _⟩ | ⟨a, len', cap', m, n, D, Pl, hcs, _, hl, hm, hmm, hx, hel⟩
  · obtain ⟨rfl, rfl, rfl⟩ : a0 = none ∧ len = 0 ∧ cap = 0 := by simpa using hcs
    omega
  · obtain ⟨rfl, rfl, rfl⟩ : a0 = some a ∧ len = len' ∧ cap = cap' := by simpa using hcs
    rw [hx] at hw
    simp only [DataW.weights, Tryz.underlying22, Tryz.bytes30] at hw
    have := hw _ (List.mem_cons_self)
    simp only [List.length_map, List.length_range] at this
    have hr47 := reachBytes_lt
    omega

set_option maxRecDepth 100000 in
theorem Order_lifted (os : Os) (started : os.Started) (H : Type) (enc : TypeId × Value → H) :
    ReturnsInHanded {} Tryz.checked os 6 .any (Rows.orderSpec.pre6 enc Tryz.prog Tryz.f6 Rows.orderRow.domain false) (Rows.orderSpec.post enc Tryz.prog Tryz.f6 false true false false) := by
  refine returnsInHanded_of_change_sized (C := Tryz.checked) Tryz.own started (by kernel_rfl) Tryz.func6
    (ChangeSpec.witness6 (enc := enc) (C := Tryz.checked) false ⟨#[], #[.string ⟨#[]⟩, .slice none 0 0], []⟩ 8 (by kernel_rfl) (by kernel_rfl) (by kernel_rfl) (by kernel_rfl)) ?_
  intro W base args ds gs before hval0 hW hcnd hsz _
  have hval : ∀ (j : Nat) t v, Tryz.f6.params[j]? = some t → args[j]? = some v → Value.okWide Tryz.prog W .any base t v := hval0
  have hW' := hW
  obtain ⟨p, q, hA0, hV, rfl, hfz, hnd⟩ := hW
  have hA : DataW.TrodAll enc Tryz.prog W 0 (fun _ => true) true Tryz.f6.params.toList args.toList ds p := hA0
  rw [Tryz.params6] at hA hval
  obtain ⟨v0, v1, d0, d1, p0, p1, rfl, rfl, rfl, h0, h1⟩ := trodAll_two hA
  obtain ⟨rfl, rfl⟩ := trodVars_none hV
  obtain ⟨s, rfl, rfl, rfl, hs⟩ := open_string Tryz.underlying9 (hval 0 9 v0 rfl rfl) h0
  obtain ⟨a0, len, cap, rfl⟩ := okWide_slice Tryz.underlying22 (hval 1 22 v1 rfl rfl)
  have h0k := h0
  have h1k := h1
  obtain ⟨fuel, hf⟩ := h1
  clear hA0 hval0
  simp only [List.append_nil] at hW'
  have hlt : ∀ x ∈ p1, x.block < W.heap.size := fun x hx => by
    have := hW'.lt x (by simp [hx])
    simpa using this
  have hw : ∀ n, n ∈ d1.weights Tryz.prog 22 → n ≤ reachBytes := fun n hn => by
    have hm : n ∈ DataW.weightsEach Tryz.prog (Tryz.f6.params.toList ++ Rows.orderSpec.plain.varTypes Tryz.prog) ([.lit (.string s.data.toList), d1] ++ []) := DataW.weights_mem_each (j := 1) (t := 22) (d := d1) (by rw [Tryz.params6]; rfl) rfl n hn
    have := List.all_eq_true.1 hsz n hm
    simpa using this
  have fin : ∀ (e : Ending) (W' : World), e = .returned (.bool true) ∧ Below W.heap.size W W' → ∃ v, e = .returned v ∧ Rows.orderSpec.post enc Tryz.checked.prog Tryz.f6 false true false false W #[.string s, .slice a0 len cap] v W' := by
    rintro e W' ⟨rfl, hb⟩
    refine ⟨_, rfl, ?_⟩
    refine ⟨_, _, _, [], _, [], hW', trodAll_mk1 (shut_bool Tryz.underlying4 true), trodAll_mk2 (Below.trod Tryz.laidOut (by kernel_rfl) (of_decide_eq_true (by kernel_rfl)) h0k hb (fun x hx => by cases hx)) (Below.trod Tryz.laidOut (by kernel_rfl) (of_decide_eq_true (by kernel_rfl)) h1k hb hlt), rfl, hb.frame _, fun h => by cases h⟩
  obtain ⟨Kd, Am, S, T, LV, L, hScr⟩ := script_readsT (x := (d1, p1)) hf hw
  exact (Order_any s hs a0 len cap (script_short (x := (d1, p1)) hf hw) Kd Am S T LV L W hScr).mono fun e W' h => fin e W' h

theorem Order_true : Rows.OrderSaid :=
  OpenClaim.holds_of_wide 6 Tryz.f6 rfl rfl rfl rfl rfl rfl rfl ⟨rfl, rfl, rfl, rfl, rfl⟩ rfl rfl rfl rfl rfl (by kernel_rfl) Tryz.func6 (by kernel_rfl)
    (of_decide_eq_true (by kernel_rfl)) (by unfold Func.isWrapper; first | (rw [if_pos (by decide +kernel)]; kernel_rfl) | (rw [if_neg (by decide +kernel)]; exact ⟨rfl, rfl⟩))
    (fun os started H enc _ => Order_lifted os started H enc)

end Go.Proofs.YtondkinefmjpjaaGreat
