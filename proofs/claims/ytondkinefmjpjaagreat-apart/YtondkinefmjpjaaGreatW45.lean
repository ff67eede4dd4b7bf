import Derived.Deep.QuietTactic
import Derived.BigQuiet
import Derived.Test.YtondkinefmjpjaaGreatW17
import Derived.Test.YtondkinefmjpjaaGreatW34
import Derived.Test.YtondkinefmjpjaaGreatW39
import Derived.Test.YtondkinefmjpjaaGreatW44
/-
  A view without rows.
-/
namespace Go.Proofs.YtondkinefmjpjaaGreat
open Go.RowKit Go.WideMaps Go.WideElems Go.Maps Go.Shelf

theorem Sg_nought {α : Type} (l : List α) {f : α → Int} (h : ∀ x, x ∈ l → f x = 0) : Sg l f = 0 := by
  induction l with
  | nil => rfl
  | cons x l ih =>
    show f x + Sg l f = 0
    rw [h x (by simp), ih (fun y hy => h y (by simp [hy]))]; rfl
/-- No rows. -/
def noR : Nat → List Int → Int := fun _ _ => 0
theorem cont_nought (P : PlanD) (i : Nat) (a : List Int) : cont P noR i a = 0 := by
  unfold cont
  split
  · refine Sg_nought (boxN 3) (fun t _ => ?_)
    split <;> rfl
  · rfl
theorem prodA_nought {As : List (Nat × (List Int → Int))} (h : ∃ p, p ∈ As ∧ ∀ a, p.2 a = 0) (y : List Int) : prodA As y = 0 := by
  induction As with
  | nil => obtain ⟨p, hp, _⟩ := h; cases hp
  | cons q As ih =>
    obtain ⟨p, hp, h0⟩ := h
    show q.2 (rst q.1 y) * prodA As y = 0
    rcases List.mem_cons.1 hp with rfl | hp
    · rw [h0]; simp
    · rw [ih ⟨p, hp, h0⟩]; simp
theorem wor_nought (P : PlanD) (h1 : 1 ≤ P.ms.length) (h : List Int) : P.wor (cont P noR) h = 0 := by
  unfold PlanD.wor wor ext
  refine Sg_nought box (fun y _ => ?_)
  have : prodA (atomsOf P.ms (cont P noR)) y = 0 := prodA_nought ⟨(P.ms.getD 0 0, cont P noR 0), List.mem_map.2 ⟨0, List.mem_range.2 h1, rfl⟩, fun a => cont_nought P 0 a⟩ y
  have e : prodA (atomsOf P.ms (cont P noR)) y * hd P.H h y = 0 := by rw [this]; simp
  split
  · exact e
  · rfl
theorem live_nought (N : Nat) : live N (fun _ => 0) = [] := by
  unfold live
  rw [List.filter_eq_nil_iff]
  intro a _; simp [wr_zero]
theorem rows_nought (P : PlanD) : RowsOk P noR :=
  ⟨fun r _ t h => absurd rfl h, fun r _ t => ⟨show (-99 : Int) ≤ 0 by decide, show (0 : Int) ≤ 99 by decide⟩, fun r _ => by show (live 3 (fun _ => 0)).length ≤ 12; rw [live_nought]; simp⟩
theorem owns_none {w : World} {b : Nat} (h : w.heap[b]? = some (.map #[] 0)) (k : TypeId) (R : Value → Option (DataW Unit × List MemPlace)) : w.ownsMap Tryz.prog k R b 0 (.map []) := by
  obtain ⟨es, c, h1, h2⟩ := World.ownsMap_made (H := Unit) w Tryz.prog k R
  rw [vheap_alloc_new] at h1
  simp at h1
  obtain ⟨rfl, rfl⟩ := h1
  exact ⟨#[], 0, h, h2⟩
theorem cf_none {w : World} {b : Nat} (h : w.heap[b]? = some (.map #[] 0)) (k N : Nat) : CF k N w b (fun _ => 0) := ⟨0, .map [], owns_none h k _, rep_empty N⟩
theorem if_none {w : World} {b : Nat} (h : w.heap[b]? = some (.map #[] 0)) : IF w b (fun _ => none) := ⟨0, .map [], owns_none h _ _, repI_empty⟩
/-- Whose block it is. -/
def own0 (wb : Nat) (rb ib : List Nat) (x : Nat) : Option (Nat × List Int) :=
  if x = wb then some (0, []) else if x ∈ rb then some (1, [(rb.idxOf x : Int)]) else if x ∈ ib then some (2, [(ib.idxOf x : Int)]) else none
theorem own0_wb (wb : Nat) (rb ib : List Nat) : own0 wb rb ib wb = some (0, []) := by simp [own0]
theorem getD_in {l : List Nat} {r : Nat} (h : r < l.length) : l.getD r 0 = l[r] := by rw [List.getD_eq_getElem?_getD, List.getElem?_eq_getElem h]; rfl
theorem own0_rb {wb : Nat} {rb ib : List Nat} (hn : (wb :: (rb ++ ib)).Nodup) {r : Nat} (hr : r < rb.length) : own0 wb rb ib (rb.getD r 0) = some (1, [(r : Int)]) := by
  rw [getD_in hr]
  have hm : rb[r] ∈ rb := List.getElem_mem hr
  have h1 : rb[r] ≠ wb := fun e => (List.nodup_cons.1 hn).1 (by rw [← e]; exact List.mem_append_left _ hm)
  have h2 : rb.Nodup := (List.nodup_append.1 (List.nodup_cons.1 hn).2).1
  unfold own0
  rw [if_neg h1, if_pos hm, h2.idxOf_getElem]
theorem own0_ib {wb : Nat} {rb ib : List Nat} (hn : (wb :: (rb ++ ib)).Nodup) {r : Nat} (hr : r < ib.length) : own0 wb rb ib (ib.getD r 0) = some (2, [(r : Int)]) := by
  rw [getD_in hr]
  have hm : ib[r] ∈ ib := List.getElem_mem hr
  have h1 : ib[r] ≠ wb := fun e => (List.nodup_cons.1 hn).1 (by rw [← e]; exact List.mem_append_right _ hm)
  obtain ⟨_, h2, h3⟩ := List.nodup_append.1 (List.nodup_cons.1 hn).2
  have h4 : ib[r] ∉ rb := fun e => h3 _ e _ hm rfl
  unfold own0
  rw [if_neg h1, if_neg h4, if_pos hm, h2.idxOf_getElem]
/-- A view, new. -/
theorem view_new {w : World} {vb B : Nat} {P : PlanD} {hv mv rv av lv wv rv2 iv2 : Value} {wb : Nat} {rb ib : List Nat} {s0 s1 : Value} (hok : PlanOk P) (hrel : RelOk P) (hp : PlanV w B hv mv rv av lv wv P) (hs : StV w B rv2 iv2 wb rb ib) (hr : rb.length = P.rels.length) (hi : ib.length = P.lk.length) (h0 : s0 = .int .i32 0) (hb : w.heap[vb]? = some (.cells #[s0, s1, hv, mv, rv, av, lv, wv, rv2, iv2, .map (some wb)] 90 (0, 0))) :
    VSt w vb P rb ib wb noR (fun _ _ => none) (own0 wb rb ib) := by
  have cell : ∀ (j : Nat) (v : Value), (#[s0, s1, hv, mv, rv, av, lv, wv, rv2, iv2, .map (some wb)] : Array Value)[j]? = some v → w.cell? ⟨vb, j, none⟩ = some v := fun j v hj => by simp only [World.cell?, hb]; exact hj
  have hm : ∀ b, b ∈ wb :: (rb ++ ib) → w.heap[b]? = some (.map #[] 0) := fun b hb => (hs.m.el b hb).2
  have hin : ∀ {l : List Nat} {r : Nat}, r < l.length → l.getD r 0 ∈ l := fun hr => by rw [getD_in hr]; exact List.getElem_mem hr
  refine ⟨hok, hrel, rows_nought P, ⟨_, hb⟩, (cell 0 s0 rfl).trans (congrArg some h0), ⟨⟨hv, B, cell 2 _ rfl, hp.head⟩, (cell 3 mv rfl).trans (congrArg some hp.H), ?_, ?_, ⟨lv, B, cell 6 _ rfl, hp.lks⟩, ?_⟩, ⟨rv2, B, cell 8 _ rfl, hs.r⟩, ⟨iv2, B, cell 9 _ rfl, hs.i⟩, cell 10 _ rfl, hr, hi, fun r hr' => ?_, fun l hl => ?_, ⟨fun l hl => own0_ib hs.m.nd (by omega), fun l hl k hk c hc => (by cases hc), fun i r hir => ?_⟩, own0_wb _ _ _, ?_, fun i r hir => ?_⟩
  · obtain ⟨rvs, a1, a2, a3⟩ := hp.rels
    exact ⟨rv, B, rvs, cell 4 _ rfl, a1, a2, fun k hk => ⟨B, a3 k hk⟩⟩
  · obtain ⟨pvs, a1, a2, a3⟩ := hp.pats
    exact ⟨av, B, pvs, cell 5 _ rfl, a1, a2, a3⟩
  · obtain ⟨wvs, a1, a2, a3⟩ := hp.walks
    exact ⟨wv, B, wvs, cell 7 _ rfl, a1, a2, fun k hk => ⟨B, a3 k hk⟩⟩
  · exact ⟨cf_none (hm _ (List.mem_cons_of_mem _ (List.mem_append_left _ (hin (by omega))))) _ _, own0_rb hs.m.nd (by omega)⟩
  · exact ⟨if_none (hm _ (List.mem_cons_of_mem _ (List.mem_append_right _ (hin (by omega))))), fun k hk c hc => (by cases hc), fun k hk _ a _ _ => by show wr (cont P noR _ a) = 0; rw [cont_nought]; exact wr_zero⟩
  · unfold own0 at hir
    split at hir
    · rename_i e; exact ⟨_, _, hm i (by rw [e]; simp)⟩
    · split at hir
      · rename_i e; exact ⟨_, _, hm i (by simp [e])⟩
      · split at hir
        · rename_i e; exact ⟨_, _, hm i (by simp [e])⟩
        · cases hir
  · exact (cf_none (hm wb (by simp)) 93 6).congr (fun a _ => by rw [wor_nought P hok.n1])
  · unfold own0 at hir
    split at hir
    · cases hir; simp
    · split at hir
      · cases hir; simp
      · split at hir
        · cases hir; simp
        · cases hir
end Go.Proofs.YtondkinefmjpjaaGreat
namespace Go.Proofs.YtondkinefmjpjaaGreat
open Go.RowKit Go.WideMaps Go.WideElems Go.Maps Go.Shelf

theorem enter56 : ∀ vs u, (callFunc 56 vs).run Tryz.prog u = .ok (.enter 56 vs) u := enters_of Tryz.func56 (by kernel_rfl) rfl
/-- The six cells of a plan. -/
def C6 (w : World) (x : Nat) (v0 v1 v2 v3 v4 v5 : Value) : Prop := w.cell? ⟨x, 0, none⟩ = some v0 ∧ w.cell? ⟨x, 1, none⟩ = some v1 ∧ w.cell? ⟨x, 2, none⟩ = some v2 ∧ w.cell? ⟨x, 3, none⟩ = some v3 ∧ w.cell? ⟨x, 4, none⟩ = some v4 ∧ w.cell? ⟨x, 5, none⟩ = some v5
theorem c6_of {w : World} {x : Nat} {v0 v1 v2 v3 v4 v5 : Value} (h : w.heap[x]? = some (.cells #[v0, v1, v2, v3, v4, v5] 83 (0, 0))) : C6 w x v0 v1 v2 v3 v4 v5 := by simp [C6, World.cell?, h]
/-- What makeStore has made; the plan as it was. -/
def SsS (w : World) (pb nr nl : Nat) (v0 v1 v2 v3 v4 v5 : Value) (v : Value) (w1 : World) : Prop :=
  ∃ ra rc ia ic wb rb ib, v = .agg #[.slice ra nr rc, .slice ia nl ic, .map (some wb)] ∧ rb.length = nr ∧ ib.length = nl ∧ StV w1 w.heap.size (.slice ra nr rc) (.slice ia nl ic) wb rb ib ∧ Below w.heap.size w w1 ∧ C6 w1 pb v0 v1 v2 v3 v4 v5

set_option maxHeartbeats 8000000 in
set_option maxRecDepth 100000 in
/-- A text that is no query. -/
theorem Start_no (s : ByteArray) (w : World) (hs : s.size ≤ maxLen) (hE : K.pE s ≠ 0) :
    Calls Tryz.prog 26 #[.string s] w fun e w' => e = .returned (.tuple #[.pointer none, .int .i64 (K.pE s), .int .i64 (K.pA s)]) ∧ Below w.heap.size w w' := by
  obtain ⟨E, hEE⟩ : ∃ E, K.pE s = E := ⟨_, rfl⟩
  obtain ⟨A, hAA⟩ : ∃ A, K.pA s = A := ⟨_, rfl⟩
  have PA := K.parse_any s w hs
  rw [hEE, hAA] at PA
  rw [hEE] at hE
  rw [hEE, hAA]
  have hne : ((E : Int) != 0) = true := by rw [bne_iff_ne]; omega
  clear hEE hAA
  go_enter Tryz.func26, Tryz.ntmps26
  go_wp2_with fail
  refine PA.mono ?_
  rintro x w1 ⟨⟨a0, n0, k0, a1, n1, k1, a2, n2, k2, a3, n3, k3, rfl, _⟩, hb1⟩
  go_wp2_with fail
  go_region
  all_goals go_wp2
  all_goals
    refine bodyPost_ret (v := .tuple #[.pointer none, .int .i64 E, .int .i64 A]) (by simp [results, Tryz.results26, go_sem]) rfl ⟨rfl, ?_⟩
    refine Below.drew ?_
    exact (hb1.alloc hb1.size _).alloc (by simp; exact Nat.le_succ_of_le hb1.size) _
theorem PlanV.below {w w' : World} {B : Nat} {hv mv rv av lv wv : Value} {P : PlanD} (h : PlanV w B hv mv rv av lv wv P) (hb : Below w.heap.size w w') : PlanV w' B hv mv rv av lv wv P := by
  obtain ⟨rvs, a1, a2, a3⟩ := h.rels
  obtain ⟨pvs, b1, b2, b3⟩ := h.pats
  obtain ⟨wvs, c1, c2, c3⟩ := h.walks
  exact ⟨vown_below h.head hb, h.H, ⟨rvs, vown_below a1 hb, a2, fun k hk => vown_below (a3 k hk) hb⟩, ⟨pvs, vown_below b1 hb, b2, fun k hk => by obtain ⟨b', q⟩ := b3 k hk; exact ⟨b', vown_below q hb⟩⟩, vown_below h.lks hb, ⟨wvs, vown_below c1 hb, c2, fun k hk => vown_below (c3 k hk) hb⟩⟩
theorem PlanV.mono {w : World} {B B' : Nat} {hv mv rv av lv wv : Value} {P : PlanD} (h : PlanV w B hv mv rv av lv wv P) (hb : B' ≤ B) : PlanV w B' hv mv rv av lv wv P := by
  obtain ⟨rvs, a1, a2, a3⟩ := h.rels
  obtain ⟨pvs, b1, b2, b3⟩ := h.pats
  obtain ⟨wvs, c1, c2, c3⟩ := h.walks
  exact ⟨h.head.mono hb, h.H, ⟨rvs, a1.mono hb, a2, fun k hk => (a3 k hk).mono hb⟩, ⟨pvs, b1.mono hb, b2, b3⟩, h.lks.mono hb, ⟨wvs, c1.mono hb, c2, fun k hk => (c3 k hk).mono hb⟩⟩
theorem StV.below {w w' : World} {B : Nat} {rv iv : Value} {wb : Nat} {rb ib : List Nat} (h : StV w B rv iv wb rb ib) (hb : Below w.heap.size w w') : StV w' B rv iv wb rb ib :=
  ⟨vown_below h.r hb, vown_below h.i hb, h.m.block (fun b hb' => hb.block b (h.m.lt hb'))⟩
theorem StV.mono {w : World} {B B' : Nat} {rv iv : Value} {wb : Nat} {rb ib : List Nat} (h : StV w B rv iv wb rb ib) (hb : B' ≤ B) : StV w B' rv iv wb rb ib :=
  ⟨h.r.mono hb, h.i.mono hb, h.m.nd, fun b hb' => ⟨Nat.le_trans hb (h.m.el b hb').1, (h.m.el b hb').2⟩⟩
theorem own0_ge {w : World} {B : Nat} {rv iv : Value} {wb : Nat} {rb ib : List Nat} (h : StV w B rv iv wb rb ib) : ∀ b, own0 wb rb ib b ≠ none → B ≤ b := by
  intro b hb
  unfold own0 at hb
  split at hb
  · rename_i e; rw [e]; exact (h.m.el wb (by simp)).1
  · split at hb
    · rename_i e; exact (h.m.el b (by simp [e])).1
    · split at hb
      · rename_i e; exact (h.m.el b (by simp [e])).1
      · exact absurd rfl hb
set_option maxHeartbeats 8000000 in
set_option maxRecDepth 100000 in
/-- A query: a view without rows. -/
theorem Start_ok (s : ByteArray) (w : World) (hs : s.size ≤ maxLen) (hG : K.pG s = true) :
    Calls Tryz.prog 26 #[.string s] w fun e w' => ∃ vb rb ib wb, e = .returned (.tuple #[.pointer (some ⟨vb, 0, none⟩), .int .i64 0, .int .i64 0]) ∧ VSt w' vb (K.planOf (K.rq s (K.c0 s)).2) rb ib wb noR (fun _ _ => none) (own0 wb rb ib) ∧ Below w.heap.size w w' ∧ w.heap.size ≤ vb ∧ ∀ b, own0 wb rb ib b ≠ none → w.heap.size ≤ b := by
  have PA := K.parse_any s w hs
  rw [(K.pG_E hG).1, (K.pG_E hG).2] at PA
  obtain ⟨hok, hrel⟩ := K.plan_ok hG
  obtain ⟨_, g2, _⟩ := K.pG_parts hG
  have h200 : s.size ≤ 200 := by
    unfold K.pG at hG
    rw [Bool.and_eq_true, Bool.and_eq_true] at hG
    have := hG.1.1
    simp at this; omega
  have hI := K.rq_in s
  have hRB := K.rq_rel s
  obtain ⟨c, hc⟩ : ∃ c, (K.rq s (K.c0 s)).2 = c := ⟨_, rfl⟩
  rw [hc] at PA hok hrel g2 hI hRB ⊢
  have MP := fun (base : Nat) (hv vv av ev : Value) (u : World) (hQ : K.CQ u base hv vv av ev c) => makePlan_any c hI hok g2 (fun x hx => by have := hRB x hx; omega) base hv vv av ev u hQ
  have HMP : Hid _ := MP
  have HOK : Hid _ := hok
  have HREL : Hid _ := hrel
  have HGG : Hid _ := hG
  clear hc MP hok hrel g2 hI hRB hG
  go_enter Tryz.func26, Tryz.ntmps26
  go_wp2_with fail
  refine PA.mono ?_
  rintro x w1 ⟨⟨a0, n0, k0, a1, n1, k1, a2, n2, k2, a3, n3, k3, rfl, hq⟩, hb1⟩
  have hQ := hq HGG.out
  have hba : Below w1.heap.size w1 ((w1.alloc (.cells #[.slice a0 n0 k0, .slice a1 n1 k1, .slice a2 n2 k2, .slice a3 n3 k3] 121)).alloc (.cells #[.int .i64 0, .int .i64 0] 123)) := ((Below.refl _ _).alloc (Nat.le_refl _) _).alloc (by simp) _
  have CALL := HMP.out _ _ _ _ _ _ (hQ.below hba)
  have HBA : Hid _ := hba
  clear hq hQ hba HMP PA
  go_wp2_with fail
  refine CALL.mono ?_
  rintro x w2 ⟨hv, mv, rv, av, lv, wv, rfl, hPV, hb2⟩
  have hB0 := Nat.le_trans hb1.size HBA.out.size
  have hb12 : Below w1.heap.size w1 w2 := HBA.out.trans (hb2.mono HBA.out.size)
  have hbw2 : Below w.heap.size w w2 := hb1.trans (hb12.mono hb1.size)
  obtain ⟨x0, y0, e0⟩ := vown_form hPV.head
  obtain ⟨rvs, q1, _, _⟩ := hPV.rels
  obtain ⟨x2, y2, e2⟩ := vown_form q1
  obtain ⟨pvs, q2, _, _⟩ := hPV.pats
  obtain ⟨x3, y3, e3⟩ := vown_form q2
  obtain ⟨x4, y4, e4⟩ := vown_form hPV.lks
  obtain ⟨wvs, q3, _, _⟩ := hPV.walks
  obtain ⟨x5, y5, e5⟩ := vown_form q3
  have e1 := hPV.H
  subst e0
  subst e1
  subst e2
  subst e3
  subst e4
  subst e5
  obtain ⟨NH, hNH⟩ : ∃ x, (K.planOf c).head.length = x := ⟨_, rfl⟩
  obtain ⟨NR, hNR⟩ : ∃ x, (K.planOf c).rels.length = x := ⟨_, rfl⟩
  obtain ⟨NP, hNP⟩ : ∃ x, (K.planOf c).pats.length = x := ⟨_, rfl⟩
  obtain ⟨NL, hNL⟩ : ∃ x, (K.planOf c).lk.length = x := ⟨_, rfl⟩
  obtain ⟨NM, hNM⟩ : ∃ x, (K.planOf c).ms.length = x := ⟨_, rfl⟩
  obtain ⟨NZ, hNZ⟩ : ∃ x : Int, ((K.planOf c).H : Int) = x := ⟨_, rfl⟩
  have hr4 : NR ≤ 4 := by rw [← hNR]; exact HOK.out.nrel
  have hl6 : NL ≤ 6 := by rw [← hNL]; exact HOK.out.links.2.1
  have HPV : Hid _ := hPV
  rw [hNH, hNR, hNP, hNL, hNM, hNZ] at HPV
  rw [hNH, hNR, hNP, hNL, hNM, hNZ]
  have HNR : Hid _ := hNR
  have HNL : Hid _ := hNL
  obtain ⟨w3, hw3⟩ : ∃ w3, w2.alloc (.cells #[.slice x0 NH y0, .int .u8 NZ, .slice x2 NR y2, .slice x3 NP y3, .slice x4 NL y4, .slice x5 NM y5] 83) = w3 := ⟨_, rfl⟩
  have hb23 : Below w2.heap.size w2 w3 := by rw [← hw3]; exact (Below.refl _ _).alloc (Nat.le_refl _) _
  have pblk : w3.heap[w2.heap.size]? = some (.cells #[.slice x0 NH y0, .int .u8 NZ, .slice x2 NR y2, .slice x3 NP y3, .slice x4 NL y4, .slice x5 NM y5] 83 (0, 0)) := by rw [← hw3]; exact vheap_alloc_new w2 _
  have hbw3 : Below w.heap.size w w3 := hbw2.trans (hb23.mono hbw2.size)
  have HPV3 : Hid _ := HPV.out.below hb23
  have SS : Hid (Calls Tryz.prog 56 #[.int .i64 NR, .int .i64 NL] w3.drew fun e w' => ∃ v, e = .returned v ∧ SsS w3 w2.heap.size NR NL (.slice x0 NH y0) (.int .u8 NZ) (.slice x2 NR y2) (.slice x3 NP y3) (.slice x4 NL y4) (.slice x5 NM y5) v w') := by
    refine (makeStore_any NR NL w3.drew (by omega) (by omega)).mono ?_
    rintro e w' ⟨ra, rc, ia, ic, wb, rb, ib, rfl, r1, r2, r3, r4⟩
    have r5 : Below w3.heap.size w3 w' := ⟨r4.os, r4.tape, r4.output, r4.size, r4.block⟩
    exact ⟨_, rfl, ra, rc, ia, ic, wb, rb, ib, rfl, r1, r2, r3, r5, c6_of ((r5.block _ (vlt_of_block pblk)).trans pblk)⟩
  have HW3 : Hid _ := hw3
  have HBW3 : Hid _ := hbw3
  have HB0 : Hid _ := hB0
  clear hw3 hPV hNH hNR hNP hNL hNM hNZ q1 q2 q3 hb1 hb2 hb12 hbw2 HPV CALL HBA hbw3 hb23
  go_upto_region 5 with fail
  rw [HW3.out]
  obtain ⟨m0, m1, m2, m3, m4, m5⟩ := c6_of pblk
  have lp3 := vlt_of_block pblk
  go_region_law (refine step_call rfl 56 #[.tmp 25, .tmp 28] #[3, 3] rfl enter56 #[.int .i64 NR, .int .i64 NL] (by kernel_rfl) _ SS.out ?_; rintro v4 w4 ⟨ra, rc, ia, ic, wb, rb, ib, rfl, r1, r2, r3, r4, t0, t1, t2, t3, t4, t5⟩)
  all_goals go_wp2
  all_goals
    refine bodyPost_ret (v := .tuple #[.pointer (some ⟨w4.heap.size, 0, none⟩), .int .i64 0, .int .i64 0]) (by simp [results, Tryz.results26, go_sem]) rfl ⟨w4.heap.size, rb, ib, wb, rfl, ?_⟩
    have HB4 : Below w.heap.size w (w4.alloc (.cells #[.int .i32 0, .int .u32 0, .slice x0 NH y0, .int .u8 NZ, .slice x2 NR y2, .slice x3 NP y3, .slice x4 NL y4, .slice x5 NM y5, .slice ra NR rc, .slice ia NL ic, .map (some wb)] 90)) := (HBW3.out.trans (r4.mono HBW3.out.size)).alloc (Nat.le_trans HBW3.out.size r4.size) _
    have hal : Below w4.heap.size w4 (w4.alloc (.cells #[.int .i32 0, .int .u32 0, .slice x0 NH y0, .int .u8 NZ, .slice x2 NR y2, .slice x3 NP y3, .slice x4 NL y4, .slice x5 NM y5, .slice ra NR rc, .slice ia NL ic, .map (some wb)] 90)) := (Below.refl _ _).alloc (Nat.le_refl _) _
    exact ⟨view_new (B := w.heap.size) HOK.out HREL.out (((PlanV.below HPV3.out r4).below hal).mono HB0.out) ((r3.below hal).mono HBW3.out.size) (r1.trans HNR.out.symm) (r2.trans HNL.out.symm) rfl (vheap_alloc_new _ _), HB4, Nat.le_trans HBW3.out.size r4.size, fun b hb => Nat.le_trans HBW3.out.size (own0_ge r3 b hb)⟩
end Go.Proofs.YtondkinefmjpjaaGreat
