import Derived.Test.YtondkinefmjpjaaGreatW37
import Derived.Test.YtondkinefmjpjaaGreatW39
import Derived.Test.YtondkinefmjpjaaGreatW45
import Derived.Test.YtondkinefmjpjaaGreatW46
namespace Go.Proofs.YtondkinefmjpjaaGreat
open Go.RowKit Go.WideMaps Go.WideElems Go.Maps Go.Shelf

set_option maxHeartbeats 4000000 in
set_option maxRecDepth 100000 in
theorem started_no (s : ByteArray) (w : World) (hs : s.size ≤ maxLen) (hE : K.pE s ≠ 0) :
    Calls Tryz.prog 10 #[.string s] w fun e w' => e = .returned (.tuple #[.pointer none, .pointer none, .bool true]) ∧ Below w.heap.size w w' := by
  obtain ⟨a1, a2⟩ := K.answers K.cyc_said s
  have C1 := Start_no s w hs hE
  have C2 := fun (u : World) => RefStart_no s u hs (by rw [← a1]; omega)
  rw [← a1, ← a2] at C2
  obtain ⟨E, hEE⟩ : ∃ E : Int, (K.pE s : Int) = E := ⟨_, rfl⟩
  obtain ⟨A, hAA⟩ : ∃ A : Int, (K.pA s : Int) = A := ⟨_, rfl⟩
  have hE0 : (E == 0) = false := beq_eq_false_iff_ne.2 (by omega)
  rw [hEE, hAA] at C1 C2
  have HC2 : Hid _ := C2
  clear a1 a2 hEE hAA C2 hE
  go_enter Tryz.func10, Tryz.ntmps10
  go_wp2_with fail
  refine C1.mono ?_
  rintro x w1 ⟨rfl, hb1⟩
  have C3 := HC2.out w1
  go_wp2_with fail
  refine C3.mono ?_
  rintro x w2 ⟨rfl, hb2⟩
  have hb : Below w.heap.size w w2 := hb1.trans (hb2.mono hb1.size)
  clear C1 C3 HC2 hb1 hb2
  go_wp2_with (go_at_call 27; refine (num_any _ _).mono ?_; rintro x w3 ⟨rfl, hw3⟩; subst hw3)
  refine bodyPost_ret (v := .tuple #[.pointer none, .pointer none, .bool true]) (by simp [results, Tryz.results10, go_sem]) rfl ⟨rfl, hb⟩

set_option maxHeartbeats 4000000 in
set_option maxRecDepth 100000 in
theorem started_ok (s : ByteArray) (w : World) (hs : s.size ≤ maxLen) (hG : K.pG s = true) :
    Calls Tryz.prog 10 #[.string s] w fun e w' => ∃ vb q rb ib wb, e = .returned (.tuple #[.pointer (some ⟨vb, 0, none⟩), .pointer (some ⟨q, 0, none⟩), .bool true]) ∧ VSt w' vb (K.planOf (K.rq s (K.c0 s)).2) rb ib wb noR (fun _ _ => none) (own0 wb rb ib) ∧ Below w.heap.size w w' ∧ w.heap.size ≤ vb ∧ ∀ b, own0 wb rb ib b ≠ none → w.heap.size ≤ b := by
  obtain ⟨a1, a2⟩ := K.answers K.cyc_said s
  have C1 := Start_ok s w hs hG
  have C2 := fun (u : World) => RefStart_ok s u hs (by rw [← a1, (K.pG_E hG).1]; rfl)
  have HC2 : Hid _ := C2
  clear a1 a2 C2
  go_enter Tryz.func10, Tryz.ntmps10
  go_wp2_with fail
  refine C1.mono ?_
  rintro x w1 ⟨vb, rb, ib, wb, rfl, hV, hb1, hvb, hown⟩
  have C3 := HC2.out w1
  have HV : Hid _ := hV
  have HO : Hid _ := hown
  clear hV hown
  go_wp2_with fail
  refine C3.mono ?_
  rintro x w2 ⟨q, rfl, hb2⟩
  have hb : Below w.heap.size w w2 := hb1.trans (hb2.mono hb1.size)
  have HV2 : Hid _ := VSt.fr HV.out (fr_below hb2)
  clear C1 C3 HC2 hb1 hb2 HV
  go_wp2_with (go_at_call 27; refine (num_any _ _).mono ?_; rintro x w3 ⟨rfl, hw3⟩; subst hw3)
  refine bodyPost_ret (v := .tuple #[.pointer (some ⟨vb, 0, none⟩), .pointer (some ⟨q, 0, none⟩), .bool true]) (by simp [results, Tryz.results10, go_sem]) rfl ⟨vb, q, rb, ib, wb, rfl, HV2.out, hb, hvb, HO.out⟩
end Go.Proofs.YtondkinefmjpjaaGreat
/-
  The document's example: no program, no world.
-/
namespace Go.Proofs.YtondkinefmjpjaaGreat

def s0 : ByteArray := { data := #[40, 120, 44, 32, 122, 41, 32, 58, 32, 82, 40, 120, 44, 32, 121, 41, 44, 32, 83, 40, 121, 44, 32, 122, 41, 46] }
def Px : PlanD := K.planOf (K.rq s0 (K.c0 s0)).2
theorem x_G : K.pG s0 = true := by decide +kernel
theorem x_head : Px.head = [0, 2] := by decide +kernel
theorem x_H : Px.H = 5 := by decide +kernel
theorem x_rels : Px.rels.length = 2 := by decide +kernel
theorem x_R : rixOf Px.rels { data := #[82] } = ((0 : Nat) : Int) := by decide +kernel
theorem x_S : rixOf Px.rels { data := #[83] } = ((1 : Nat) : Int) := by decide +kernel
theorem x_n0 : (Px.rel 0).2.1 = 2 := by decide +kernel
theorem x_n1 : (Px.rel 1).2.1 = 2 := by decide +kernel
theorem x_p0 : Px.pat 0 = [(true, 0), (true, 1)] := by decide +kernel
theorem x_p1 : Px.pat 1 = [(true, 1), (true, 2)] := by decide +kernel
theorem x_ms : Px.ms = [3, 6] := by decide +kernel
theorem x_r0 : Px.relOf 0 = 0 := by decide +kernel
theorem x_r1 : Px.relOf 1 = 1 := by decide +kernel
/-- Where a relation has one row. -/
theorem cont_single {P : PlanD} {R : Nat → List Int → Int} {i : Nat} {t : List Int} {c : Int} (hi : i < P.ms.length) (ht : t ∈ boxN 3) (hR : ∀ u, R (P.relOf i) u = if u = t then c else 0) (hm : mOk (P.pat i) t = true) (a : List Int) : cont P R i a = if mVars (P.pat i) t = a then c else 0 := by
  unfold cont
  rw [if_pos hi]
  rw [S_one (boxN_nodup 3) ht]
  · rw [hR t, if_pos rfl]
    by_cases e : mVars (P.pat i) t = a
    · rw [if_pos ⟨hm, e⟩, if_pos e]
    · rw [if_neg (fun h => e h.2), if_neg e]
  · intro u _ hu
    rw [hR u, if_neg hu]
    split <;> rfl
def R1 : Nat → List Int → Int := updR noR 0 [1, 5, 0] 2
def R2 : Nat → List Int → Int := updR R1 1 [5, 7, 0] 3
theorem R1_0 (u : List Int) : R1 0 u = if u = [1, 5, 0] then 2 else 0 := by
  show bump (noR 0) [1, 5, 0] 2 u = _
  simp [bump, noR]
theorem R1_1 (u : List Int) : R1 1 u = 0 := rfl
theorem R2_0 (u : List Int) : R2 0 u = if u = [1, 5, 0] then 2 else 0 := R1_0 u
theorem R2_1 (u : List Int) : R2 1 u = if u = [5, 7, 0] then 3 else 0 := by
  show bump (R1 1) [5, 7, 0] 3 u = _
  simp [bump, R1_1]
theorem b3 (a b c : Int) (h : 0 ≤ a ∧ a ≤ 999 ∧ 0 ≤ b ∧ b ≤ 999 ∧ 0 ≤ c ∧ c ≤ 999) : [a, b, c] ∈ boxN 3 := by
  rw [mem_boxN]
  refine ⟨rfl, fun x hx => ?_⟩
  simp at hx
  rcases hx with rfl | rfl | rfl <;> omega
theorem c2_0 (a : List Int) : cont Px R2 0 a = if [1, 5, 0, 0, 0, 0] = a then 2 else 0 := by
  have h := cont_single (P := Px) (R := R2) (i := 0) (t := [1, 5, 0]) (c := 2) (by rw [x_ms]; decide) (b3 _ _ _ (by omega)) (by rw [x_r0]; exact R2_0) (by rw [x_p0]; decide) a
  rw [h, x_p0]
  have : mVars [(true, 0), (true, 1)] [1, 5, 0] = [1, 5, 0, 0, 0, 0] := by decide
  rw [this]
theorem c2_1 (a : List Int) : cont Px R2 1 a = if [0, 5, 7, 0, 0, 0] = a then 3 else 0 := by
  have h := cont_single (P := Px) (R := R2) (i := 1) (t := [5, 7, 0]) (c := 3) (by rw [x_ms]; decide) (b3 _ _ _ (by omega)) (by rw [x_r1]; exact R2_1) (by rw [x_p1]; decide) a
  rw [h, x_p1]
  have : mVars [(true, 1), (true, 2)] [5, 7, 0] = [0, 5, 7, 0, 0, 0] := by decide
  rw [this]
theorem c1_1 (a : List Int) : cont Px R1 1 a = 0 := by
  unfold cont
  split
  · refine Sg_nought (boxN 3) (fun t _ => ?_)
    rw [x_r1]
    split <;> rfl
  · rfl
theorem w1_x (h : List Int) : Px.wor (cont Px R1) h = 0 := by
  unfold PlanD.wor wor ext
  refine Sg_nought box (fun y _ => ?_)
  have : prodA (atomsOf Px.ms (cont Px R1)) y = 0 := prodA_nought ⟨(Px.ms.getD 1 0, cont Px R1 1), List.mem_map.2 ⟨1, List.mem_range.2 (by rw [x_ms]; decide), rfl⟩, fun a => c1_1 a⟩ y
  have e : prodA (atomsOf Px.ms (cont Px R1)) y * hd Px.H h y = 0 := by rw [this]; simp
  split
  · exact e
  · rfl
theorem six6 (y : List Int) (h : y ∈ box) : ∃ a b c d e f, y = [a, b, c, d, e, f] := by
  have := box_length h
  match y, this with
  | [a, b, c, d, e, f], _ => exact ⟨a, b, c, d, e, f, rfl⟩
theorem w2_x (h : List Int) : Px.wor (cont Px R2) h = if [1, 0, 7, 0, 0, 0] = h then 6 else 0 := by
  have hA : atomsOf Px.ms (cont Px R2) = [(3, cont Px R2 0), (6, cont Px R2 1)] := by unfold atomsOf; rw [x_ms]; rfl
  have hU : orL Px.ms = 7 := by rw [x_ms]; decide
  unfold PlanD.wor wor ext
  rw [hA, hU, x_H]
  have hy : [1, 5, 7, 0, 0, 0] ∈ box := by
    show _ ∈ boxN 6
    rw [mem_boxN]; refine ⟨rfl, fun x hx => ?_⟩; simp at hx; rcases hx with rfl | rfl | rfl | rfl <;> omega
  have hp : ∀ y, prodA [(3, cont Px R2 0), (6, cont Px R2 1)] y = (if [1, 5, 0, 0, 0, 0] = rst 3 y then 2 else 0) * ((if [0, 5, 7, 0, 0, 0] = rst 6 y then 3 else 0) * 1) := fun y => by
    show cont Px R2 0 (rst 3 y) * (cont Px R2 1 (rst 6 y) * 1) = _
    rw [c2_0, c2_1]
  rw [S_one (box_nodup) hy]
  · show (if rst 7 [1, 5, 7, 0, 0, 0] = [1, 5, 7, 0, 0, 0] ∧ rst 0 [1, 5, 7, 0, 0, 0] = rst 0 [] then prodA [(3, cont Px R2 0), (6, cont Px R2 1)] [1, 5, 7, 0, 0, 0] * hd 5 h [1, 5, 7, 0, 0, 0] else 0) = _
    rw [if_pos (by decide), hp, if_pos (by decide), if_pos (by decide)]
    have : rst 5 [1, 5, 7, 0, 0, 0] = [1, 0, 7, 0, 0, 0] := by decide
    unfold hd
    rw [this]
    split <;> rfl
  · intro y hyb hne
    show (if rst 7 y = y ∧ rst 0 y = rst 0 [] then prodA [(3, cont Px R2 0), (6, cont Px R2 1)] y * hd 5 h y else 0) = 0
    split
    · rename_i hc
      rw [hp]
      obtain ⟨a, b, c, d, e, f, rfl⟩ := six6 y hyb
      have e7 : rst 7 [a, b, c, d, e, f] = [a, b, c, 0, 0, 0] := rfl
      have e3 : rst 3 [a, b, c, d, e, f] = [a, b, 0, 0, 0, 0] := rfl
      have e6 : rst 6 [a, b, c, d, e, f] = [0, b, c, 0, 0, 0] := rfl
      rw [e7] at hc
      rw [e3, e6]
      by_cases q1 : [1, 5, 0, 0, 0, 0] = [a, b, 0, 0, 0, 0]
      · by_cases q2 : [0, 5, 7, 0, 0, 0] = [0, b, c, 0, 0, 0]
        · exfalso
          apply hne
          have h1 := hc.1
          simp at q1 q2 h1
          obtain ⟨rfl, rfl⟩ := q1
          obtain ⟨_, rfl⟩ := q2
          obtain ⟨rfl, rfl, rfl⟩ := h1
          rfl
        · rw [if_neg q2]; simp
      · rw [if_neg q1]; simp
    · rfl
theorem dlt_x (h : List Int) : dlt Px R1 1 [5, 7, 0] 3 h = if [1, 0, 7, 0, 0, 0] = h then 6 else 0 := by
  unfold dlt
  rw [w1_x]
  have := w2_x h
  unfold R2 at this
  rw [this]; simp
theorem filter_one {α : Type} {l : List α} {p : α → Bool} {x : α} (hn : l.Nodup) (hx : x ∈ l) (hp : p x = true) (h : ∀ y, y ∈ l → p y = true → y = x) : l.filter p = [x] := by
  induction l with
  | nil => cases hx
  | cons a l ih =>
    rw [List.nodup_cons] at hn
    by_cases e : a = x
    · subst e
      rw [List.filter_cons_of_pos hp]
      congr 1
      rw [List.filter_eq_nil_iff]
      intro y hy hpy
      have := h y (by simp [hy]) hpy
      subst this
      exact hn.1 hy
    · have hx' : x ∈ l := by
        rcases List.mem_cons.1 hx with q | q
        · exact absurd q.symm e
        · exact q
      rw [List.filter_cons_of_neg (fun q => e (h a (by simp) q))]
      exact ih hn.2 hx' (fun y hy => h y (by simp [hy]))
theorem live_x : live 6 (dlt Px R1 1 [5, 7, 0] 3) = [[1, 0, 7, 0, 0, 0]] := by
  unfold live
  refine filter_one (boxN_nodup 6) ?_ ?_ (fun y _ hy => ?_)
  · rw [mem_boxN]; refine ⟨rfl, fun x hx => ?_⟩; simp at hx; rcases hx with rfl | rfl | rfl | rfl <;> omega
  · rw [dlt_x, if_pos rfl]; decide
  · rw [dlt_x] at hy
    by_cases e : [1, 0, 7, 0, 0, 0] = y
    · exact e.symm
    · rw [if_neg e] at hy; exact absurd hy (by decide)
theorem rows_x {l : Rws} (h : l.Perm (rowsL (hvals Px.head) (dlt Px R1 1 [5, 7, 0] 3) (live 6 (dlt Px R1 1 [5, 7, 0] 3)))) : l = [([1, 7], 6)] := by
  rw [live_x, x_head] at h
  have e : rowsL (hvals [0, 2]) (dlt Px R1 1 [5, 7, 0] 3) [[1, 0, 7, 0, 0, 0]] = [([1, 7], 6)] := by
    show [(hvals [0, 2] [1, 0, 7, 0, 0, 0], wr (dlt Px R1 1 [5, 7, 0] 3 [1, 0, 7, 0, 0, 0]))] = _
    rw [dlt_x, if_pos rfl]
    rfl
  rw [e] at h
  exact List.perm_singleton.1 h
end Go.Proofs.YtondkinefmjpjaaGreat
namespace Go.Proofs.YtondkinefmjpjaaGreat
open Go.RowKit Go.WideMaps Go.WideElems Go.Maps Go.Shelf

/-- Of what was there ahead of the view nothing has turned. -/
theorem VUp.below {w w' : World} {own own' : Nat → Option (Nat × List Int)} {B : Nat} (h : VUp w w' own own') (hB : B ≤ w.heap.size) (ho : ∀ b, own b ≠ none → B ≤ b) : Below B w w' ∧ ∀ b, own' b ≠ none → B ≤ b := by
  refine ⟨⟨h.fr.os, h.fr.tape, h.fr.output, h.fr.size, fun i hi => h.fr.block i (by omega) (fun ⟨r, hr⟩ => ?_)⟩, fun b hb => ?_⟩
  · have := ho i (by rw [hr]; simp); omega
  · by_cases hl : b < w.heap.size
    · rw [h.old b hl] at hb; exact ho b hb
    · omega
theorem reads_new (w : World) (a b : Int) : Reads (w.alloc (.cells #[.int .i64 a, .int .i64 b] 3)) (.slice (some ⟨w.heap.size, 0, none⟩) 2 2) [a, b] := by
  refine ⟨_, _, rfl, fun _ => ⟨w.heap.size, 0, rfl, fun j hj => ?_⟩⟩
  match j, hj with
  | 0, _ => simp
  | 1, _ => simp
set_option maxHeartbeats 8000000 in
set_option maxRecDepth 100000 in
theorem alive_any (w : World) : Calls Tryz.prog 15 #[] w fun e w' => e = .returned (.bool true) ∧ Below w.heap.size w w' := by
  have C1 : Calls Tryz.prog 26 #[.string { data := #[40, 120, 44, 32, 122, 41, 32, 58, 32, 82, 40, 120, 44, 32, 121, 41, 44, 32, 83, 40, 121, 44, 32, 122, 41, 46] }] w fun e w' => ∃ vb rb ib wb, e = .returned (.tuple #[.pointer (some ⟨vb, 0, none⟩), .int .i64 0, .int .i64 0]) ∧ VSt w' vb Px rb ib wb noR (fun _ _ => none) (own0 wb rb ib) ∧ Below w.heap.size w w' ∧ w.heap.size ≤ vb ∧ ∀ b, own0 wb rb ib b ≠ none → w.heap.size ≤ b := Start_ok s0 w (by decide) x_G
  go_enter Tryz.func15, Tryz.ntmps15
  go_wp2_with fail
  refine C1.mono ?_
  rintro x w1 ⟨vb, rb, ib, wb, rfl, hV, hb1, hvb, hown⟩
  have hba : Below w1.heap.size w1 (w1.alloc (.cells #[.int .i64 1, .int .i64 5] 3)) := (Below.refl _ _).alloc (Nat.le_refl _) _
  have U1 := Update_ok (hV.fr (fr_below hba)) { data := #[82] } 2 (reads_new w1 1 5) (r := 0) (by rw [x_rels]; decide) x_R (by rw [x_n0]; rfl) (by decide) (by decide) (by decide) (by show refus 0 2 (live 3 (fun _ => 0)).length = 0; rw [live_nought]; decide)
  have HB1 : Hid _ := hb1
  have HOW : Hid _ := hown
  have HV : Hid _ := hV
  clear C1 hV hb1 hown hba
  go_wp2_with (go_at_call 27; refine (num_any _ _).mono ?_; rintro x w2 ⟨rfl, hw2⟩; subst hw2)
  refine U1.mono ?_
  rintro x w3 ⟨vv3, us3, l3, g3, own3, rfl, hR3, _, _, hV3, hU3⟩
  have hba : Below w.heap.size w (w2.alloc (.cells #[.int .i64 1, .int .i64 5] 3)) := HB1.out.alloc HB1.out.size _
  obtain ⟨hB3, hO3⟩ := hU3.below (B := w.heap.size) hba.size HOW.out
  have hb3 : Below w.heap.size w w3 := hba.trans hB3
  have hV3' : VSt w3 vb Px rb ib wb R1 g3 own3 := hV3
  have hbc : Below w3.heap.size w3 (w3.alloc (.cells #[.int .i64 5, .int .i64 7] 3)) := (Below.refl _ _).alloc (Nat.le_refl _) _
  have U2 := Update_ok (hV3'.fr (fr_below hbc)) { data := #[83] } 3 (reads_new w3 5 7) (r := 1) (by rw [x_rels]; decide) x_S (by rw [x_n1]; rfl) (by decide) (by decide) (by decide) (by show refus 0 3 (live 3 (fun _ => 0)).length = 0; rw [live_nought]; decide)
  obtain ⟨va3, vc3, rfl⟩ := vown_form hR3.2.1
  obtain ⟨N3, hN3⟩ : ∃ n, l3.length = n := ⟨_, rfl⟩
  rw [hN3]
  have HB3 : Hid _ := hb3
  have HO3 : Hid _ := hO3
  clear hR3 hV3 hU3 hba hB3 hO3 hb3 hV3' hbc hN3 U1 HV HOW HB1
  go_wp2_with fail
  refine U2.mono ?_
  rintro x w5 ⟨vv, us, l, g5, own5, rfl, hR5, hp5, _, _, hU5⟩
  have hl := rows_x hp5
  subst hl
  have hbd : Below w.heap.size w (w3.alloc (.cells #[.int .i64 5, .int .i64 7] 3)) := HB3.out.alloc HB3.out.size _
  have hb5 : Below w.heap.size w w5 := hbd.trans (hU5.below (B := w.heap.size) hbd.size HO3.out).1
  obtain ⟨ra, rcap, rfl, hrd⟩ := hR5.read
  obtain ⟨g, off, rfl, hc⟩ := hrd (by decide)
  obtain ⟨⟨u, c0, hu⟩, c1⟩ := hc 0 (by decide)
  obtain ⟨ua, ucap, rfl, hud⟩ := hu
  obtain ⟨g2, off2, rfl, hd⟩ := hud (by decide)
  have d0 := hd 0 (by decide)
  have d1 := hd 1 (by decide)
  simp [rAt] at c0 c1 d0 d1
  clear hc hd hrd hud hR5 hp5 hU5 U2 HB3 HO3 hbd
  go_wp2_with (go_at_call 27; refine (num_any _ _).mono ?_; rintro x w6 ⟨rfl, hw6⟩; subst hw6)
  go_ret
  exact ⟨rfl, hb5⟩
end Go.Proofs.YtondkinefmjpjaaGreat
