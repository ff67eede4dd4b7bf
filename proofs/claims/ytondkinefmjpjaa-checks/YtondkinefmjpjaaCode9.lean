import Derived.Test.YtondkinefmjpjaaCode8
namespace Go.Proofs.Ytondkinefmjpjaa
open Go.RowKit

def trR (s : ByteArray) (p : Est.Pc) (vars : List ByteArray) (e a : Nat) (x : CA) : TR :=
  if x.n = 3 then ⟨false, p, vars, 3, p.a, x⟩
  else if tk p 4 then ⟨true, pnext s p, vars, e, a, { x with n := x.n + 1 }⟩ else avR s p vars e a x

set_option maxHeartbeats 1000000 in
theorem smallNumber_any (t : ByteArray) (w : World) (ht : t.size ≤ maxLen) :
    Calls Try.prog 63 #[.string t] w fun x w' => (∃ m : Int, x = .returned (.int .i64 m)) ∧ w' = w := by
  unfold maxLen at ht
  go_enter Try.func63, Try.ntmps63
  go_wp2
  go_loop [3, 4, 7] (fun n _ i => ∃ (k : Nat) (m : Int), k ≤ t.size ∧ i = .int .i64 k ∧ n = .int .i64 m) (fun _ _ i => t.size - (intOf i).toNat)
  case atStart => exact ⟨0, 0, Nat.zero_le _, rfl, rfl⟩
  case round =>
    obtain ⟨k, m, hk, rfl, rfl⟩ := hrel
    by_cases hlt : k < t.size
    · go_wp2
      all_goals
        go_round
        case rel => exact ⟨k + 1, _, by omega, by go_num, rfl⟩
        case measure => simp [intOf]; omega
    · go_wp2
      go_ret
      exact ⟨⟨m, rfl⟩, rfl⟩

set_option maxHeartbeats 4000000 in
set_option maxRecDepth 100000 in
theorem readTerm_any (b base AB : Nat) (s : ByteArray) (p : Est.Pc) (vars : List ByteArray) (hv av : Value) (e a : Nat) (x : CA) (w : World) (h : TSt w b base AB s p vars hv av e a x) (hs : s.size ≤ maxLen) (hok : OkC s p) (hl : vars.length ≤ 6) (hB : base ≤ w.heap.size) (hx3 : x.n ≤ 3) :
    Calls Try.prog 59 #[.pointer (some ⟨b, 0, none⟩), .pointer (some ⟨AB, 0, none⟩)] w fun y w' => y = .returned (.bool (trR s p vars e a x).ok) ∧ TSt w' b base AB s (trR s p vars e a x).p (trR s p vars e a x).vars hv av (trR s p vars e a x).e (trR s p vars e a x).a (trR s p vars e a x).x ∧ Keeps (FT b AB base) w w' := by
  obtain ⟨R, hR⟩ : ∃ R, trR s p vars e a x = R := ⟨_, rfl⟩
  have HR : Hid (trR s p vars e a x = R) := hR
  rw [hR]
  clear hR
  obtain ⟨vv, h1, h2⟩ := h.ex
  obtain ⟨ta0, tc0, ys0, y3, _⟩ := h.at_
  have c2 := h1.c2
  have c3 := h1.c3
  have a1 : w.cell? ⟨AB, 1, none⟩ = some (.slice ta0 x.n tc0) := by simp [World.cell?, y3]
  have HTS : Hid (p.t.size ≤ maxLen) := by have := hok.1; unfold Hid; omega
  by_cases h3 : x.n = 3
  · have HF : Hid (R = ⟨false, p, vars, 3, p.a, x⟩) := by unfold Hid; rw [← HR.out, trR, if_pos h3]
    have h3' : ((x.n : Int) == 3) = true := by rw [h3]; rfl
    clear h3
    go_enter Try.func59, Try.ntmps59
    go_wp2_with fail
    refine (tfail b base AB s p vars hv av e a x 3 3 p.a _ h rfl).mono ?_
    rintro y w1 ⟨rfl, hc1, k1⟩
    go_wp2
    go_ret
    exact ⟨ret_bool (by rw [HF.out]), by rw [HF.out]; exact hc1, Keeps.of k1 (fun _ _ x => Or.inl x)⟩
  · have H3 : Hid (¬ x.n = 3) := h3
    have h3' : ((x.n : Int) == 3) = false := beq_eq_false_iff_ne.2 (by omega)
    have hx2 : x.n ≤ 2 := by omega
    clear h3
    go_enter Try.func59, Try.ntmps59
    go_wp2_with fail
    refine (ttake b base AB s p vars hv av e a x 4 4 _ h rfl hs hok).mono ?_
    rintro y w1 ⟨rfl, hc1, k1⟩
    have hK1 : Keeps (FT b AB base) w w1 := Keeps.of k1 (fun _ _ x => Or.inl x)
    have hB1 : base ≤ w1.heap.size := Nat.le_trans hB hK1.size
    clear c2 c3 a1 y3 h1 h2
    cases ht : tk p 4
    · rw [tp_no ht] at hc1
      have HF : Hid (R = avR s p vars e a x) := by unfold Hid; rw [← HR.out, trR, if_neg H3.out, ht]; rfl
      clear ht
      go_wp2_with fail
      refine (readAtomVar_any b base AB s p vars hv av e a x _ hc1 hs hok hl hB1 hx2).mono ?_
      rintro y w2 ⟨rfl, hc2, k2⟩
      rw [← HF.out] at hc2 ⊢
      go_wp2
      go_ret
      exact ⟨rfl, hc2, hK1.trans k2⟩
    · have HF : Hid (R = ⟨true, pnext s p, vars, e, a, { x with n := x.n + 1 }⟩) := by unfold Hid; rw [← HR.out, trR, if_neg H3.out, ht]; rfl
      rw [tp_yes ht] at hc1
      clear ht
      obtain ⟨ta, tc, ys, x3, x4⟩ := hc1.at_
      have t1 : w1.cell? ⟨AB, 1, none⟩ = some (.slice ta x.n tc) := by simp [World.cell?, x3]
      have lA : AB < w1.heap.size := hc1.ltA
      obtain ⟨j0, hj, hw0, hw1, hw2⟩ := info_parts Try.info112
      have HJ : Hid _ := hj
      have HW0 : Hid _ := hw0
      have HW1 : Hid _ := hw1
      have HW2 : Hid _ := hw2
      clear hj hw0 hw1 hw2
      go_wp2_with fail
      go_region_law (first | (refine step_append_own rfl (.tmp 30) (.tmp 34) 92 rfl base 112 j0 (.agg #[.bool false, .int .i64 0]) 2 16 Try.underlying92 HJ.out HW0.out HW1.out HW2.out rfl (by decide) (.slice ta x.n tc) _ _ rfl (by exact ((own_below' x4 ⟨rfl, rfl, rfl, Nat.le_refl _, fun _ _ => rfl⟩).alloc _)) ⟨w1.heap.size, 0, none⟩ 1 1 [.bool false, .int .i64 m] rfl rfl (two_new _ _ _ _) (by intro u hu; simp at hu; rcases hu with rfl | rfl <;> rfl) (by unfold maxLen; omega) (by omega) (by simp; omega) ?_; intro v' w4 hown4 hgrow4; obtain ⟨va4, cap4, rfl⟩ := own_form hown4; have FIN := terms_appended hc1 x3 x4 (by exact ((Kept.refl (fun _ => False) w1).drew.alloc _)) hgrow4 hown4; have e2 := FIN.2.1; have e3 := FIN.2.2) | (go_simp; go_wp2_with (go_at_call 63; refine (smallNumber_any p.t _ HTS.out).mono ?_; rintro e' w1' ⟨⟨m, rfl⟩, rfl⟩)))
      all_goals go_wp2
      all_goals go_ret
      all_goals exact ⟨ret_bool (by rw [HF.out]), by rw [HF.out]; exact FIN.1.1, hK1.trans FIN.1.2⟩

set_option maxHeartbeats 1000000 in
theorem readTerms1_any (b base AB RC AC : Nat) (s : ByteArray) (p : Est.Pc) (vars : List ByteArray) (hv av : Value) (e a : Nat) (x : CA) (w : World) (h : TSt w b base AB s p vars hv av e a x) (hs : s.size ≤ maxLen) (hok : OkC s p) (hl : vars.length ≤ 6) (hB : base ≤ w.heap.size) (hx3 : x.n ≤ 3)
    (hr : w.cell? ⟨RC, 0, none⟩ = some (.pointer (some ⟨b, 0, none⟩))) (hA : w.cell? ⟨AC, 0, none⟩ = some (.pointer (some ⟨AB, 0, none⟩))) :
    Calls Try.prog 58 #[.pointer (some ⟨RC, 0, none⟩), .pointer (some ⟨AC, 0, none⟩)] w fun y w' => y = .returned (.bool (trR s p vars e a x).ok) ∧ TSt w' b base AB s (trR s p vars e a x).p (trR s p vars e a x).vars hv av (trR s p vars e a x).e (trR s p vars e a x).a (trR s p vars e a x).x ∧ Keeps (FT b AB base) w w' := by
  obtain ⟨R, hR⟩ : ∃ R, trR s p vars e a x = R := ⟨_, rfl⟩
  have HR : Hid (trR s p vars e a x = R) := hR
  rw [hR]
  clear hR
  go_enter Try.func58, Try.ntmps58
  go_wp2_with fail
  refine (readTerm_any b base AB s p vars hv av e a x _ h hs hok hl hB hx3).mono ?_
  rintro y w2 ⟨rfl, hc2, k2⟩
  rw [HR.out] at hc2 ⊢
  go_wp2
  go_ret
  exact ⟨rfl, hc2, k2⟩

/-- The terms of an atom. -/
def ltR (s : ByteArray) : Nat → Est.Pc → List ByteArray → Nat → Nat → CA → TR
  | 0, p, vars, e, a, x => ⟨false, p, vars, e, a, x⟩
  | n + 1, p, vars, e, a, x =>
    if (trR s p vars e a x).ok then
      if tk (trR s p vars e a x).p 7 then ltR s n (tp s (trR s p vars e a x).p 7) (trR s p vars e a x).vars (trR s p vars e a x).e (trR s p vars e a x).a (trR s p vars e a x).x
      else trR s p vars e a x
    else trR s p vars e a x
theorem avR_ok {s : ByteArray} {p : Est.Pc} {vars : List ByteArray} {e a : Nat} {x : CA} (hok : OkC s p) (hl : vars.length ≤ 6) : OkC s (avR s p vars e a x).p ∧ (avR s p vars e a x).vars.length ≤ 6 ∧ ((avR s p vars e a x).ok = true → (avR s p vars e a x).x.n = x.n + 1) := by
  unfold avR
  split
  · split
    · exact ⟨hok.next, hl, fun _ => rfl⟩
    · split
      · exact ⟨hok.next, hl, fun h => by cases h⟩
      · exact ⟨hok.next, by simp; omega, fun _ => rfl⟩
  · exact ⟨hok, hl, fun h => by cases h⟩
theorem trR_ok {s : ByteArray} {p : Est.Pc} {vars : List ByteArray} {e a : Nat} {x : CA} (hok : OkC s p) (hl : vars.length ≤ 6) : OkC s (trR s p vars e a x).p ∧ (trR s p vars e a x).vars.length ≤ 6 ∧ ((trR s p vars e a x).ok = true → (trR s p vars e a x).x.n = x.n + 1 ∧ x.n ≠ 3) := by
  unfold trR
  split
  · exact ⟨hok, hl, fun h => by cases h⟩
  · rename_i h3
    split
    · exact ⟨hok.next, hl, fun _ => ⟨rfl, h3⟩⟩
    · obtain ⟨a1, a2, a3⟩ := avR_ok (e := e) (a := a) (x := x) hok hl
      exact ⟨a1, a2, fun h => ⟨a3 h, h3⟩⟩
def ilen : Option Value → Nat
  | some (.slice _ n _) => n
  | _ => 0

set_option maxHeartbeats 2000000 in
theorem readList_terms (b base AB RC AC : Nat) (s : ByteArray) (p : Est.Pc) (vars : List ByteArray) (hv av : Value) (e a : Nat) (x : CA) (w : World) (h : TSt w b base AB s p vars hv av e a x) (hs : s.size ≤ maxLen) (hok : OkC s p) (hl : vars.length ≤ 6) (hB : base ≤ w.heap.size) (hx3 : x.n ≤ 3)
    (hr : w.cell? ⟨RC, 0, none⟩ = some (.pointer (some ⟨b, 0, none⟩))) (hA : w.cell? ⟨AC, 0, none⟩ = some (.pointer (some ⟨AB, 0, none⟩))) (nr : ¬ FT b AB base RC w.heap[RC]?) (na : ¬ FT b AB base AC w.heap[AC]?) :
    Calls Try.prog 46 #[.pointer (some ⟨b, 0, none⟩), .func (.func 58) #[] #[.pointer (some ⟨RC, 0, none⟩), .pointer (some ⟨AC, 0, none⟩)]] w fun y w' => y = .returned (.bool (ltR s (4 - x.n) p vars e a x).ok) ∧ TSt w' b base AB s (ltR s (4 - x.n) p vars e a x).p (ltR s (4 - x.n) p vars e a x).vars hv av (ltR s (4 - x.n) p vars e a x).e (ltR s (4 - x.n) p vars e a x).a (ltR s (4 - x.n) p vars e a x).x ∧ Keeps (FT b AB base) w w' := by
  obtain ⟨R, hR⟩ : ∃ R, ltR s (4 - x.n) p vars e a x = R := ⟨_, rfl⟩
  have HR : Hid (ltR s (4 - x.n) p vars e a x = R) := hR
  rw [hR]
  clear hR
  have lr := World.block_lt_of_cell? _ _ hr
  have lA := World.block_lt_of_cell? _ _ hA
  have HNR : Hid (¬ FT b AB base RC w.heap[RC]?) := nr
  have HNA : Hid (¬ FT b AB base AC w.heap[AC]?) := na
  clear nr na
  go_enter Try.func46, Try.ntmps46
  go_wp2_with fail
  go_loopw [] (fun wr => ∃ p' vars' e' a' x', TSt wr b base AB s p' vars' hv av e' a' x' ∧ OkC s p' ∧ vars'.length ≤ 6 ∧ x'.n ≤ 3 ∧ Keeps (FT b AB base) w wr ∧ ltR s (4 - x'.n) p' vars' e' a' x' = R) (fun wr => 4 - ilen (wr.cell? ⟨AB, 1, none⟩))
  case atStart => exact ⟨p, vars, e, a, x, h, hok, hl, hx3, Keeps.refl _ _, HR.out⟩
  case round =>
    obtain ⟨p1, vars1, e1, a1, x1, h1, hok1, hl1, hx1, hk1, he1⟩ := hrel
    have HE : Hid (ltR s (4 - x1.n) p1 vars1 e1 a1 x1 = R) := he1
    have HM : Hid (ilen (wr.cell? ⟨AB, 1, none⟩) = x1.n) := by obtain ⟨_, _, _, q, _⟩ := h1.at_; unfold Hid; simp [World.cell?, q, ilen]
    clear he1
    have hB1 : base ≤ wr.heap.size := Nat.le_trans hB hk1.size
    have hr1 := (show wr.cell? ⟨RC, 0, none⟩ = _ from World.cell?_of_block (w := w) (hk1.block RC lr HNR.out)).trans hr
    have hA1 := (show wr.cell? ⟨AC, 0, none⟩ = _ from World.cell?_of_block (w := w) (hk1.block AC lA HNA.out)).trans hA
    go_wp2_with fail
    refine (readTerms1_any b base AB RC AC s p1 vars1 hv av e1 a1 x1 _ h1 hs hok1 hl1 hB1 hx1 hr1 hA1).mono ?_
    rintro y w2 ⟨rfl, h2, k2⟩
    obtain ⟨t1, t2, t3⟩ := trR_ok (e := e1) (a := a1) (x := x1) hok1 hl1
    have HE2 : Hid ((if (trR s p1 vars1 e1 a1 x1).ok then (if tk (trR s p1 vars1 e1 a1 x1).p 7 then ltR s (3 - x1.n) (tp s (trR s p1 vars1 e1 a1 x1).p 7) (trR s p1 vars1 e1 a1 x1).vars (trR s p1 vars1 e1 a1 x1).e (trR s p1 vars1 e1 a1 x1).a (trR s p1 vars1 e1 a1 x1).x else trR s p1 vars1 e1 a1 x1) else trR s p1 vars1 e1 a1 x1) = R) := by
      have := HE.out
      rw [show 4 - x1.n = (3 - x1.n) + 1 by omega, ltR] at this
      exact this
    obtain ⟨T, hT⟩ : ∃ T, trR s p1 vars1 e1 a1 x1 = T := ⟨_, rfl⟩
    rw [hT] at h2 t1 t2 t3 HE2 ⊢
    have HT3 : Hid (T.ok = true → T.x.n = x1.n + 1 ∧ x1.n ≠ 3) := t3
    clear hT HE t3
    have hk2 : Keeps (FT b AB base) w w2 := hk1.trans k2
    cases hb : T.ok
    · have HF : Hid (R = T) := by unfold Hid; rw [← HE2.out, hb]; rfl
      have HB : Hid (T.ok = false) := hb
      clear hb HE2
      go_wp2_with fail
      go_ret
      exact ⟨ret_bool (by rw [HF.out, HB.out]), by rw [HF.out]; exact h2, hk2⟩
    · obtain ⟨q1, q2⟩ := HT3.out hb
      have HQ : Hid (T.x.n = x1.n + 1) := q1
      have HB : Hid (T.ok = true) := hb
      clear hb q1
      go_wp2_with fail
      refine (ttake b base AB s T.p T.vars hv av T.e T.a T.x 7 7 _ h2 rfl hs t1).mono ?_
      rintro y w3 ⟨rfl, h3, k3⟩
      have hk3 : Keeps (FT b AB base) w w3 := hk2.trans (Keeps.of k3 (fun _ _ x => Or.inl x))
      cases ht : tk T.p 7
      · have HF : Hid (R = T) := by unfold Hid; rw [← HE2.out, HB.out, ht]; rfl
        rw [tp_no ht] at h3
        clear ht
        go_wp2_with fail
        go_ret
        exact ⟨ret_bool (by rw [HF.out, HB.out]), by rw [HF.out]; exact h3, hk3⟩
      · have HF : Hid (ltR s (3 - x1.n) (tp s T.p 7) T.vars T.e T.a T.x = R) := by unfold Hid; rw [← HE2.out, HB.out, ht]; rfl
        have HM3 : Hid (ilen (w3.cell? ⟨AB, 1, none⟩) = x1.n + 1) := by obtain ⟨_, _, _, q, _⟩ := h3.at_; unfold Hid; simp [World.cell?, q, ilen]; exact HQ.out
        clear ht
        go_wp2_with fail
        go_roundw
        case rel =>
          refine ⟨_, _, _, _, _, h3, t1.tp 7, t2, by rw [HQ.out]; omega, hk3, ?_⟩
          rw [HQ.out, show 4 - (x1.n + 1) = 3 - x1.n by omega]; exact HF.out
        case measure => rw [HM.out, HM3.out]; omega

set_option maxHeartbeats 1000000 in
theorem readTerms_any (b base AB : Nat) (s : ByteArray) (p : Est.Pc) (vars : List ByteArray) (hv av : Value) (e a : Nat) (x : CA) (w : World) (h : TSt w b base AB s p vars hv av e a x) (hs : s.size ≤ maxLen) (hok : OkC s p) (hl : vars.length ≤ 6) (hB : base ≤ w.heap.size) (hx3 : x.n ≤ 3) :
    Calls Try.prog 54 #[.pointer (some ⟨b, 0, none⟩), .pointer (some ⟨AB, 0, none⟩)] w fun y w' => y = .returned (.bool (ltR s (4 - x.n) p vars e a x).ok) ∧ TSt w' b base AB s (ltR s (4 - x.n) p vars e a x).p (ltR s (4 - x.n) p vars e a x).vars hv av (ltR s (4 - x.n) p vars e a x).e (ltR s (4 - x.n) p vars e a x).a (ltR s (4 - x.n) p vars e a x).x ∧ Keeps (FT b AB base) w w' := by
  obtain ⟨R, hR⟩ : ∃ R, ltR s (4 - x.n) p vars e a x = R := ⟨_, rfl⟩
  have HR : Hid (ltR s (4 - x.n) p vars e a x = R) := hR
  rw [hR]
  clear hR
  obtain ⟨vv, h1, h2⟩ := h.ex
  have lb := h1.lt
  have la := h.ltA
  have hbel : Below w.heap.size w ((w.alloc (.cells #[.pointer (some ⟨b, 0, none⟩)] 80)).alloc (.cells #[.pointer (some ⟨AB, 0, none⟩)] 105)) := ((Below.refl _ _).alloc (Nat.le_refl _) _).alloc (by simp) _
  have ha := h.below hbel
  have b1 : ((w.alloc (.cells #[.pointer (some ⟨b, 0, none⟩)] 80)).alloc (.cells #[.pointer (some ⟨AB, 0, none⟩)] 105)).heap[w.heap.size]? = some (.cells #[.pointer (some ⟨b, 0, none⟩)] 80 (0, 0)) := (Below.heap_alloc _ _ _ (by simp)).trans (heap_alloc_new _ _)
  have b2 : ((w.alloc (.cells #[.pointer (some ⟨b, 0, none⟩)] 80)).alloc (.cells #[.pointer (some ⟨AB, 0, none⟩)] 105)).heap[w.heap.size + 1]? = some (.cells #[.pointer (some ⟨AB, 0, none⟩)] 105 (0, 0)) := by
    have := heap_alloc_new (w.alloc (.cells #[.pointer (some ⟨b, 0, none⟩)] 80)) (.cells #[.pointer (some ⟨AB, 0, none⟩)] 105)
    simpa using this
  have n1 : ¬ FT b AB base w.heap.size ((w.alloc (.cells #[.pointer (some ⟨b, 0, none⟩)] 80)).alloc (.cells #[.pointer (some ⟨AB, 0, none⟩)] 105)).heap[w.heap.size]? := by
    rw [b1]; unfold FT; simp [tag]; omega
  have n2 : ¬ FT b AB base (w.heap.size + 1) ((w.alloc (.cells #[.pointer (some ⟨b, 0, none⟩)] 80)).alloc (.cells #[.pointer (some ⟨AB, 0, none⟩)] 105)).heap[w.heap.size + 1]? := by
    rw [b2]; unfold FT; simp [tag]; omega
  have r1 := cell_of_one b1
  have r2 := cell_of_one b2
  have hB1 : base ≤ ((w.alloc (.cells #[.pointer (some ⟨b, 0, none⟩)] 80)).alloc (.cells #[.pointer (some ⟨AB, 0, none⟩)] 105)).heap.size := Nat.le_trans hB hbel.size
  have HN1 : Hid _ := n1
  have HN2 : Hid _ := n2
  have HB1 : Hid _ := b1
  have HB2 : Hid _ := b2
  clear n1 n2 b1 b2 h1 h2
  go_enter Try.func54, Try.ntmps54
  go_wp2_with fail
  refine (readList_terms b base AB w.heap.size (w.heap.size + 1) s p vars hv av e a x _ ha hs hok hl hB1 hx3 r1 r2 HN1.out HN2.out).mono ?_
  rintro y w2 ⟨rfl, hc2, k2⟩
  rw [HR.out] at hc2 ⊢
  go_wp2
  go_ret
  exact ⟨rfl, hc2, (((Keeps.refl _ _).alloc _).alloc _).trans k2⟩

end Go.Proofs.Ytondkinefmjpjaa
