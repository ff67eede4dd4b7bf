import Derived.Test.YtondkinefmjpjaaGreatW22
import Derived.Test.YtondkinefmjpjaaGreatW38
namespace Go.Proofs.YtondkinefmjpjaaGreat
open Go.RowKit

def edcells (l : List (Nat × Nat)) : List Value := l.flatMap fun e => [.int .i64 (e.1 : Int), .int .i64 (e.2 : Int)]
theorem edcells_at (l : List (Nat × Nat)) (k : Nat) (hk : k < l.length) : (edcells l)[k * 2]? = some (.int .i64 ((l.getD k (0, 0)).1 : Int)) ∧ (edcells l)[k * 2 + 1]? = some (.int .i64 ((l.getD k (0, 0)).2 : Int)) := by
  induction l generalizing k with
  | nil => simp at hk
  | cons d l ih =>
    cases k with
    | zero => simp [edcells]
    | succ k =>
      have h' := ih k (by simpa using hk)
      have e : edcells (d :: l) = [.int .i64 (d.1 : Int), .int .i64 (d.2 : Int)] ++ edcells l := by simp [edcells]
      rw [e]
      have e0 : (k + 1) * 2 = k * 2 + 2 := by omega
      rw [e0, List.getElem?_append_right (by simp), List.getElem?_append_right (by simp)]
      simpa using h'
theorem Tryz.info163 : (Tryz.prog.info? 163).map (fun i => (i.zero, i.size, i.bytes)) = some (some (.agg #[.int .i64 0, .int .i64 0, .int .u8 0, .int .u8 0]), 4, 24) := by kernel_rfl
theorem enter125 : ∀ vs u, (callFunc 125 vs).run Tryz.prog u = .ok (.enter 125 vs) u := enters_of Tryz.func125 (by kernel_rfl) rfl
theorem eight_new (w : World) (x0 x1 x2 x3 x4 x5 x6 x7 : Value) (t : TypeId) : ∀ j u, [x0, x1, x2, x3, x4, x5, x6, x7][j]? = some u → (w.alloc (.cells #[x0, x1, x2, x3, x4, x5, x6, x7] t)).cell? ((⟨w.heap.size, 0, none⟩ : Addr).add j) = some u := by
  intro j u hj
  match j, hj with
  | 0, hj => simp at hj; subst hj; simp [Addr.add]
  | 1, hj => simp at hj; subst hj; simp [Addr.add]
  | 2, hj => simp at hj; subst hj; simp [Addr.add]
  | 3, hj => simp at hj; subst hj; simp [Addr.add]
  | 4, hj => simp at hj; subst hj; simp [Addr.add]
  | 5, hj => simp at hj; subst hj; simp [Addr.add]
  | 6, hj => simp at hj; subst hj; simp [Addr.add]
  | 7, hj => simp at hj; subst hj; simp [Addr.add]
/-- A link as a value. -/
def lkV (ms : List Nat) (p q : Nat) : Value := .agg #[.int .i64 p, .int .i64 q, .int .u8 ((ms.getD q 0 &&& ms.getD p 0 : Nat) : Int), .int .u8 ((ms.getD q 0 &&& (255 ^^^ ms.getD p 0) : Nat) : Int)]
theorem lkE_take (es : List (Nat × Nat)) (k : Nat) (hk : k < es.length) : lkE (es.take (k + 1)) = lkE (es.take k) ++ [((es.getD k (0, 0)).1, (es.getD k (0, 0)).2), ((es.getD k (0, 0)).2, (es.getD k (0, 0)).1)] := by
  rw [List.take_succ_eq_append_getElem hk]
  unfold lkE
  rw [List.flatMap_append]
  simp [List.getD, hk]
theorem lkE_len (es : List (Nat × Nat)) : (lkE es).length = 2 * es.length := by
  induction es with
  | nil => rfl
  | cons e es ih => simp only [lkE, List.flatMap_cons, List.length_append, List.length_cons, List.length_nil] at ih ⊢; omega
/-- What makeLink has made, and an edge's cells as they were. -/
def LkS (ms : List Nat) (p q : Nat) (wr : World) (eb a b : Nat) (v : Value) (w1 : World) : Prop :=
  v = .agg #[.int .i64 p, .int .i64 q, .int .u8 ((ms.getD q 0 &&& ms.getD p 0 : Nat) : Int), .int .u8 ((ms.getD q 0 &&& (255 ^^^ ms.getD p 0) : Nat) : Int)] ∧ Below wr.heap.size wr w1 ∧ w1.cell? ⟨eb, 0, none⟩ = some (.int .i64 a) ∧ w1.cell? ⟨eb, 1, none⟩ = some (.int .i64 b)
theorem makeLink_step (base p q : Nat) (ms : List Nat) (sv : Value) (wr w : World) (hb : Below wr.heap.size wr w) (hs : wr.ownsRow base 77 1 sv ms.length (u8s ms)) (hp : p < ms.length) (hq : q < ms.length) (hl : ms.length ≤ 100) (hm : ∀ m, m ∈ ms → m < 256) (eb a b : Nat) (h0 : wr.cell? ⟨eb, 0, none⟩ = some (.int .i64 a)) (h1 : wr.cell? ⟨eb, 1, none⟩ = some (.int .i64 b)) :
    Calls Tryz.prog 125 #[.int .i64 p, .int .i64 q, sv] w fun e w' => ∃ v, e = .returned v ∧ LkS ms p q wr eb a b v w' := by
  refine (makeLink_any base p q ms sv w (vown_below hs hb) hp hq hl hm).mono ?_
  rintro e w1 ⟨rfl, b1⟩
  have b2 : Below wr.heap.size wr w1 := hb.trans (b1.mono hb.size)
  exact ⟨_, rfl, rfl, b2, (b2.cell (World.block_lt_of_cell? _ _ h0)).trans h0, (b2.cell (World.block_lt_of_cell? _ _ h1)).trans h1⟩

theorem lkcells_app (ms : List Nat) (l l' : List (Nat × Nat)) : lkcells ms (l ++ l') = lkcells ms l ++ lkcells ms l' := by simp [lkcells]
theorem lk_below {w wa w1 w6 : World} {o : Obj} {la : Option Addr} {n lcap : Nat} {xs : List Value} (h : Below w.heap.size w wa) (hz : w.heap.size ≤ wa.heap.size) (hr : wa.ownsRow w.heap.size 163 4 (.slice la n lcap) n xs) (hb : Below wa.heap.size wa w1) (hg : (w1.alloc o).grownBy w6 (Value.slice la n lcap).ownBlock) : Below w.heap.size w w6 :=
  ((h.trans (hb.mono hz)).alloc (Nat.le_trans hz hb.size) o).grown hg (by have := hb.size; simp; omega) (fun j hj => (hr.lt j hj).1)
set_option maxHeartbeats 4000000 in
set_option maxRecDepth 100000 in
theorem makeLinks_any (base base2 : Nat) (es : List (Nat × Nat)) (ms : List Nat) (ev sv : Value) (w : World) (he : w.ownsRow base 218 2 ev es.length (edcells es)) (hs : w.ownsRow base2 77 1 sv ms.length (u8s ms)) (hin : ∀ k, k < es.length → (es.getD k (0, 0)).1 < ms.length ∧ (es.getD k (0, 0)).2 < ms.length) (hle : es.length ≤ 100) (hl : ms.length ≤ 100) (hm : ∀ m, m ∈ ms → m < 256) :
    Calls Tryz.prog 87 #[ev, sv] w fun e w' => ∃ a c, e = .returned (.slice a (lkE es).length c) ∧ w'.ownsRow w.heap.size 163 4 (.slice a (lkE es).length c) (lkE es).length (lkcells ms (lkE es)) ∧ Below w.heap.size w w' := by
  obtain ⟨ea, ecap, rfl⟩ := vown_form he
  obtain ⟨sa, scap, rfl⟩ := vown_form hs
  obtain ⟨i0, hi, hz0, hz1, hz2⟩ := info_parts Tryz.info163
  have HI : Hid _ := hi
  have HZ0 : Hid _ := hz0
  have HZ1 : Hid _ := hz1
  have HZ2 : Hid _ := hz2
  have HE : Hid _ := he
  have HS : Hid _ := hs
  have HIN : Hid _ := hin
  have HM : Hid _ := hm
  clear hi hz0 hz1 hz2 he hs hin hm
  go_enter Tryz.func87, Tryz.ntmps87
  go_wp2_with fail
  go_loopw [5, 7, 10] (fun lv _ kv wr => ∃ (k n : Nat), k ≤ es.length ∧ kv = .int .i64 k ∧ n = 2 * k ∧ wr.ownsRow w.heap.size 163 4 lv n (lkcells ms (lkE (es.take k))) ∧ Below w.heap.size w wr) (fun _ _ kv _ => es.length - (intOf kv).toNat)
  case atStart => exact ⟨0, 0, Nat.zero_le _, rfl, rfl, World.ownsRow_nil _ _ _ _, Below.refl _ _⟩
  case round =>
    obtain ⟨k, n, hk, rfl, hn, hrow, hb⟩ := hrel
    have hws : w.heap.size ≤ wr.heap.size := hb.size
    have HN : Hid (n = 2 * k) := hn
    have hn2 : n ≤ 200 := by omega
    clear hn
    obtain ⟨la, lcap, hlv⟩ := vown_form hrow
    subst hlv
    by_cases hlt : k < es.length
    · have heo := vown_below HE.out hb
      obtain ⟨g, cap', hg⟩ := vown_some heo (by omega)
      simp only [Value.slice.injEq, true_and] at hg
      obtain ⟨rfl, rfl⟩ := hg
      obtain ⟨x0, x1⟩ := edcells_at es k hlt
      have c0 := (heo.cellAt (k * 2) (by omega)).trans x0
      have c1 := (heo.cellAt (k * 2 + 1) (by omega)).trans x1
      obtain ⟨i1, i2⟩ := HIN.out k hlt
      have HTK : Hid _ := congrArg (lkcells ms) (lkE_take es k hlt)
      clear x0 x1
      obtain ⟨A, hA⟩ : ∃ A, (es.getD k (0, 0)).1 = A := ⟨_, rfl⟩
      obtain ⟨B, hB⟩ : ∃ B, (es.getD k (0, 0)).2 = B := ⟨_, rfl⟩
      rw [hA] at c0 i1 HTK
      rw [hB] at c1 i2 HTK
      clear hA hB
      have lg : g < wr.heap.size := World.block_lt_of_cell? _ _ c0
      obtain ⟨wa, hwa⟩ : ∃ wa, wr.alloc (.cells #[.int .i64 (A : Int), .int .i64 (B : Int)] 218) = wa := ⟨_, rfl⟩
      have hba : Below wr.heap.size wr wa := by rw [← hwa]; exact (Below.refl _ _).alloc (Nat.le_refl _) _
      have e0 : wa.cell? ⟨wr.heap.size, 0, none⟩ = some (.int .i64 (A : Int)) := by rw [← hwa]; simp
      have e1 : wa.cell? ⟨wr.heap.size, 1, none⟩ = some (.int .i64 (B : Int)) := by rw [← hwa]; simp
      have hsa := vown_below (vown_below HS.out hb) hba
      have HV1 : Hid (LkS ms A B wa wr.heap.size A B = fun v w1 => v = .agg #[.int .i64 A, .int .i64 B, .int .u8 ((ms.getD B 0 &&& ms.getD A 0 : Nat) : Int), .int .u8 ((ms.getD B 0 &&& (255 ^^^ ms.getD A 0) : Nat) : Int)] ∧ Below wa.heap.size wa w1 ∧ w1.cell? ⟨wr.heap.size, 0, none⟩ = some (.int .i64 A) ∧ w1.cell? ⟨wr.heap.size, 1, none⟩ = some (.int .i64 B)) := rfl
      have HV2 : Hid (LkS ms B A wa wr.heap.size A B = fun v w1 => v = .agg #[.int .i64 B, .int .i64 A, .int .u8 ((ms.getD A 0 &&& ms.getD B 0 : Nat) : Int), .int .u8 ((ms.getD A 0 &&& (255 ^^^ ms.getD B 0) : Nat) : Int)] ∧ Below wa.heap.size wa w1 ∧ w1.cell? ⟨wr.heap.size, 0, none⟩ = some (.int .i64 A) ∧ w1.cell? ⟨wr.heap.size, 1, none⟩ = some (.int .i64 B)) := rfl
      have HTV : Hid (lkcells ms [(A, B), (B, A)] = [.int .i64 A, .int .i64 B, .int .u8 ((ms.getD B 0 &&& ms.getD A 0 : Nat) : Int), .int .u8 ((ms.getD B 0 &&& (255 ^^^ ms.getD A 0) : Nat) : Int), .int .i64 B, .int .i64 A, .int .u8 ((ms.getD A 0 &&& ms.getD B 0 : Nat) : Int), .int .u8 ((ms.getD A 0 &&& (255 ^^^ ms.getD B 0) : Nat) : Int)]) := rfl
      have HC1 : Hid (∀ u, Below wa.heap.size wa u → Calls Tryz.prog 125 #[.int .i64 A, .int .i64 B, .slice sa ms.length scap] u fun e w' => ∃ v, e = .returned v ∧ LkS ms A B wa wr.heap.size A B v w') := fun u hu => makeLink_step base2 A B ms _ wa u hu hsa i1 i2 hl HM.out _ _ _ e0 e1
      have HC2 : Hid (∀ u, Below wa.heap.size wa u → Calls Tryz.prog 125 #[.int .i64 B, .int .i64 A, .slice sa ms.length scap] u fun e w' => ∃ v, e = .returned v ∧ LkS ms B A wa wr.heap.size A B v w') := fun u hu => makeLink_step base2 B A ms _ wa u hu hsa i2 i1 hl HM.out _ _ _ e0 e1
      obtain ⟨X1, hX1⟩ : ∃ X, ((ms.getD B 0 &&& ms.getD A 0 : Nat) : Int) = X := ⟨_, rfl⟩
      obtain ⟨X2, hX2⟩ : ∃ X, ((ms.getD B 0 &&& (255 ^^^ ms.getD A 0) : Nat) : Int) = X := ⟨_, rfl⟩
      obtain ⟨Y1, hY1⟩ : ∃ X, ((ms.getD A 0 &&& ms.getD B 0 : Nat) : Int) = X := ⟨_, rfl⟩
      obtain ⟨Y2, hY2⟩ : ∃ X, ((ms.getD A 0 &&& (255 ^^^ ms.getD B 0) : Nat) : Int) = X := ⟨_, rfl⟩
      rw [hX1, hX2] at HV1 HTV
      rw [hY1, hY2] at HV2 HTV
      rw [HV1.out] at HC1
      rw [HV2.out] at HC2
      clear hX1 hX2 hY1 hY2 HV1 HV2
      have hdr : Below wa.heap.size wa wa.drew := (Below.refl _ _).drew
      have hro : wa.ownsRow w.heap.size 163 4 (.slice la n lcap) n (lkcells ms (lkE (es.take k))) := vown_below hrow hba
      have hwz : w.heap.size ≤ wa.heap.size := Nat.le_trans hws hba.size
      have HBA : Hid (Below w.heap.size w wa) := hb.trans (hba.mono hws)
      have HWA : Hid _ := hwa
      clear hwa heo hsa hrow hba
      go_wp2_with fail
      rw [HWA.out]
      go_region_law (first | (refine step_call rfl 125 #[.tmp 16, .tmp 18, .tmp 19] #[3, 3, 176] rfl enter125 #[.int .i64 A, .int .i64 B, .slice sa ms.length scap] (by kernel_rfl) _ (HC1.out _ (by first | exact hdr | exact b2)) ?_; rintro v1 w1 ⟨rfl, b1, f0, f1⟩) | (refine step_call rfl 125 #[.tmp 22, .tmp 24, .tmp 25] #[3, 3, 176] rfl enter125 #[.int .i64 B, .int .i64 A, .slice sa ms.length scap] (by kernel_rfl) _ (HC2.out _ (by first | exact hdr | exact b1)) ?_; rintro v2 w2 ⟨rfl, b2, g0, g1⟩) | (refine step_append_own rfl (.tmp 14) (.tmp 27) 80 rfl w.heap.size 163 i0 (.agg #[.int .i64 0, .int .i64 0, .int .u8 0, .int .u8 0]) 4 24 Tryz.underlying80 HI.out HZ0.out HZ1.out HZ2.out rfl (by decide) (.slice la n lcap) _ _ rfl ((vown_below hro b2).alloc _) ⟨w2.heap.size, 0, none⟩ 2 2 [.int .i64 A, .int .i64 B, .int .u8 X1, .int .u8 X2, .int .i64 B, .int .i64 A, .int .u8 Y1, .int .u8 Y2] rfl rfl (eight_new _ _ _ _ _ _ _ _ _ _) (by intro u hu; simp at hu; rcases hu with rfl | rfl | rfl | rfl | rfl | rfl | rfl | rfl <;> rfl) (by unfold maxLen; omega) (by omega) (by have := b2.size; simp; omega) ?_; intro v6 w6 hown6 hgrow6; have hb6 := lk_below HBA.out hwz hro b2 hgrow6) | (refine step_append_own rfl (.tmp 14) (.tmp 27) 80 rfl w.heap.size 163 i0 (.agg #[.int .i64 0, .int .i64 0, .int .u8 0, .int .u8 0]) 4 24 Tryz.underlying80 HI.out HZ0.out HZ1.out HZ2.out rfl (by decide) (.slice la n lcap) _ _ rfl ((vown_below hro b1).alloc _) ⟨w1.heap.size, 0, none⟩ 2 2 [.int .i64 A, .int .i64 B, .int .u8 X1, .int .u8 X2, .int .i64 B, .int .i64 A, .int .u8 Y1, .int .u8 Y2] rfl rfl (eight_new _ _ _ _ _ _ _ _ _ _) (by intro u hu; simp at hu; rcases hu with rfl | rfl | rfl | rfl | rfl | rfl | rfl | rfl <;> rfl) (by unfold maxLen; omega) (by omega) (by have := b1.size; simp; omega) ?_; intro v6 w6 hown6 hgrow6; have hb6 := lk_below HBA.out hwz hro b1 hgrow6))
      all_goals obtain ⟨la6, lcap6, rfl⟩ := vown_form hown6
      all_goals go_wp2_with fail
      all_goals go_roundw
      all_goals first
        | (simp [intOf]; omega)
        | exact ⟨k + 1, n + 2, by omega, by go_num, by have := HN.out; omega, by rw [HTK.out, lkcells_app, HTV.out]; exact hown6, hb6⟩
    · have hkl : k = es.length := by omega
      have HLN : Hid (n = (lkE es).length) := by unfold Hid; rw [lkE_len]; have := HN.out; omega
      rw [hkl, List.take_length, HLN.out] at hrow
      clear hkl HN
      have HRW : Hid _ := hrow
      go_wp2_with fail
      rw [HLN.out]
      go_ret
      exact ⟨_, _, rfl, HRW.out, hb⟩

end Go.Proofs.YtondkinefmjpjaaGreat
