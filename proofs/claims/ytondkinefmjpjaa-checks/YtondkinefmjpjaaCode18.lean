import Derived.Test.YtondkinefmjpjaaCode17
namespace Go.Proofs.Ytondkinefmjpjaa
open Go.RowKit

/-- Do atoms make a tree? -/
def mtI : Nat → List Int → List Nat → Bool
  | 0, _, _ => true
  | n + 1, sets, left => match gon sets left with
    | none => false
    | some i => mtI n sets (left.filter (· != i))
theorem gon_mem {sets : List Int} {left : List Nat} {i : Nat} (h : gon sets left = some i) : i ∈ left := List.mem_of_find?_eq_some h
theorem filter_len {left : List Nat} (hd : left.Nodup) {i : Nat} (hi : i ∈ left) : (left.filter (· != i)).length = left.length - 1 := by
  rw [← List.Nodup.erase_eq_filter hd, List.length_erase_of_mem hi]
def slLen : Value → Nat
  | .slice _ n _ => n
  | _ => 0
theorem Try.info86 : (Try.prog.info? 86).map (fun i => (i.zero, i.size, i.bytes)) = some (some (.agg #[.int .i64 0, .int .i64 0]), 2, 16) := by kernel_rfl
theorem two_new' (w : World) (o : Obj) (x y : Value) (t : TypeId) : ∀ j u, [x, y][j]? = some u → ((w.alloc o).alloc (.cells #[x, y] t)).cell? ((⟨w.heap.size + 1, 0, none⟩ : Addr).add j) = some u := by
  have := two_new (w.alloc o) x y t
  simpa using this

def MakeTreeSaid : Prop := ∀ (base : Nat) (sets : List Int) (sv : Value) (w : World), w.ownsRow base 93 1 sv sets.length (u8s sets) → 1 ≤ sets.length → sets.length ≤ 100 →
    Calls Try.prog 17 #[sv] w fun x w' => (∃ ea m ec, x = .returned (.tuple #[.slice ea m ec, .bool (mtI (sets.length - 1) sets (List.range sets.length))])) ∧ Below w.heap.size w w'

set_option maxHeartbeats 4000000 in
set_option maxRecDepth 100000 in
theorem makeTree_said : MakeTreeSaid := by
  intro base sets sv w ho h1 hl
  obtain ⟨sa, scap, rfl⟩ := own_form ho
  obtain ⟨i0, hi, hz0, hz1, hz2⟩ := info_parts Try.info86
  have HI : Hid _ := hi
  have HZ0 : Hid _ := hz0
  have HZ1 : Hid _ := hz1
  have HZ2 : Hid _ := hz2
  clear hi hz0 hz1 hz2
  obtain ⟨MT, hMT⟩ : ∃ b, mtI (sets.length - 1) sets (List.range sets.length) = b := ⟨_, rfl⟩
  have HMT : Hid (mtI (sets.length - 1) sets (List.range sets.length) = MT) := hMT
  rw [hMT]
  clear hMT
  go_enter Try.func17, Try.ntmps17
  go_wp2_with fail
  refine (numbersBelow_any sets.length w (by omega)).mono ?_
  rintro x w1 ⟨la, lc, rfl, hlo1, hb1⟩
  go_wp2_with fail
  go_loopw [4, 5, 6, 7] (fun ev lv _ _ wr => ∃ (left : List Nat) (n m : Nat) (es : List Value), left.length = n + 1 ∧ n + 1 ≤ 100 ∧ m + n ≤ 100 ∧ (∀ j, j ∈ left → j < sets.length) ∧ left.Nodup ∧ wr.ownsRow w.heap.size 3 1 lv left.length (nats left) ∧ wr.ownsRow w.heap.size 86 2 ev m es ∧ Below w.heap.size w wr ∧ mtI n sets left = MT) (fun _ lv _ _ _ => slLen lv)
  case atStart => exact ⟨List.range sets.length, sets.length - 1, 0, [], by simp; omega, by omega, by omega, fun j hj => List.mem_range.1 hj, List.nodup_range, by rw [List.length_range]; exact hlo1, World.ownsRow_nil _ _ _ _, hb1, HMT.out⟩
  case round =>
    obtain ⟨left, n, m, es, hn, hn1, hmn, hin, hnd, hol, hoe, hbl, hmt⟩ := hrel
    have HM : Hid (mtI n sets left = MT) := hmt
    have HIN : Hid (∀ j, j ∈ left → j < sets.length) := hin
    have HND : Hid left.Nodup := hnd
    clear hmt hin hnd
    obtain ⟨la1, lc1, rfl⟩ := own_form hol
    obtain ⟨ea1, ec1, rfl⟩ := own_form hoe
    cases n with
    | zero =>
      have hr : Hid (MT = true) := HM.out.symm.trans rfl
      go_wp2_with fail
      go_ret2
      exact ⟨⟨ea1, m, ec1, by rw [hr.out]; rfl⟩, hbl⟩
    | succ n =>
      have hor := own_below' ho hbl
      go_wp2_with fail
      refine (firstToGo_any base w.heap.size sets left _ _ wr hor (by rw [hn] at hol ⊢; exact hol) hl h1 (by omega) HIN.out).mono ?_
      rintro x w2 ⟨⟨g, h, rfl, hg⟩, hb2⟩
      have hbl2 : Below w.heap.size w w2 := hbl.trans (hb2.mono hbl.size)
      have hol2 := own_below' hol hb2
      have hoe2 := own_below' hoe hb2
      have HM2 : Hid (mtI (n + 1) sets left = match gon sets left with
        | none => false
        | some i => mtI n sets (left.filter (· != i))) := rfl
      have HMEM : Hid (∀ i, gon sets left = some i → i ∈ left) := fun i hi => gon_mem hi
      have HG : Hid (∀ i, gon sets left = some i → g = (i : Int)) := hg
      clear hg hol hoe hb2 hor
      obtain ⟨G, hG⟩ : ∃ G, gon sets left = G := ⟨_, rfl⟩
      rw [hG] at HM2 HMEM HG ⊢
      clear hG
      cases G with
      | none =>
        have hr : Hid (MT = false) := HM.out.symm.trans HM2.out
        go_wp2_with fail
        go_ret2
        exact ⟨⟨none, 0, 0, by rw [hr.out]; rfl⟩, hbl2.alloc hbl2.size _⟩
      | some i =>
        have hgi : g = (i : Int) := HG.out i rfl
        subst hgi
        have hmem := HMEM.out i rfl
        have HR : Hid (mtI n sets (left.filter (· != i)) = MT) := HM2.out.symm.trans HM.out
        have HLE : Hid ((left.filter (· != i)).length = n + 1) := by unfold Hid; rw [filter_len HND.out hmem]; omega
        clear hmem HMEM HG
        have hws : w.heap.size ≤ w2.heap.size := hbl2.size
        have hltE : ∀ k, Value.ownBlock (.slice ea1 m ec1) = some k → k < w2.heap.size := fun k hk => (hoe2.lt k hk).2
        have HLTE : Hid (∀ k, Value.ownBlock (.slice ea1 m ec1) = some k → k < w2.heap.size) := hltE
        clear hltE
        go_wp2_with (at_builtin; refine wpList_append_own _ rfl (.tmp 22) (.tmp 24) 37 rfl w.heap.size 86 i0 (.agg #[.int .i64 0, .int .i64 0]) 2 16 Try.underlying37 HI.out HZ0.out HZ1.out HZ2.out rfl (by decide) (.slice ea1 m ec1) _ _ rfl ((hoe2.alloc _).alloc _) ⟨w2.heap.size + 1, 0, none⟩ 1 1 [.int .i64 (i : Int), .int .i64 h] rfl rfl (two_new' _ _ _ _ _) (by intro u hu; simp at hu; rcases hu with rfl | rfl <;> rfl) (by unfold maxLen; omega) (by omega) (by simp; omega) ?_; intro v6 w6 hown6 hgrow6 _; obtain ⟨ea6, ec6, rfl⟩ := own_form hown6)
        have K6 : Keeps (fun k _ => Value.ownBlock (.slice ea1 m ec1) = some k) w2 w6 := (((Keeps.refl _ _).alloc _).alloc _).grown hgrow6 (fun k hk => hk)
        have hol6 := own_keeps hol2 K6 (fun k _ _ h9 _ e => by have := (own_tag hoe2 e).2.2; rw [h9] at this; simp at this)
        have hb6 : Below w.heap.size w w6 := ((hbl2.alloc hws _).alloc (by simp; omega) _).grown hgrow6 (by simp; omega) (fun k hk => by have := (hoe2.lt k hk).1; exact this)
        have blE : w6.heap[w2.heap.size]? = some (.cells #[.int .i64 (i : Int), .int .i64 h] 86 (0, 0)) :=
          (hgrow6.block w2.heap.size (by simp; omega) (fun e => by have := HLTE.out _ e.symm; omega)).trans ((Below.heap_alloc _ _ _ (by simp)).trans (heap_alloc_new _ _))
        have cE : w6.cell? ⟨w2.heap.size, 0, none⟩ = some (.int .i64 (i : Int)) := by simp [World.cell?, blE]
        have tE : tag w6.heap[w2.heap.size]? = 86 := by rw [blE]; rfl
        clear hgrow6 K6 hol2 hoe2 hbl2
        refine (delete_any w.heap.size w2.heap.size left _ i w6 (by rw [hn] at hol6 ⊢; exact hol6) (by omega) (by omega) cE tE).mono ?_
        rintro x w7 ⟨v', rfl, ho7, k7⟩
        obtain ⟨va7, vc7, rfl⟩ := own_form ho7
        have hoe7 := own_keeps hown6 k7 (fun k _ _ h9 _ e => by have := (own_tag hol6 (by rw [hn]; exact e)).2.2; rw [h9] at this; simp at this)
        have hb7 : Below w.heap.size w w7 := hb6.trans ⟨k7.os, k7.tape, k7.output, k7.size, fun j hj => k7.block j (Nat.lt_of_lt_of_le hj hb6.size) (fun e => by have := (own_tag hol6 (by rw [hn]; exact e)).1; omega)⟩
        have HW : Hid (w7.ownsRow w.heap.size 3 1 (.slice va7 (left.filter (· != i)).length vc7) (left.filter (· != i)).length (nats (left.filter (· != i)))) := ho7
        clear ho7 k7 hol6 hown6 cE tE blE
        go_wp2_with fail
        go_roundw
        case rel => exact ⟨left.filter (· != i), n, m + 1, _, HLE.out, by omega, by omega, fun j hj => HIN.out j (List.mem_filter.1 hj).1, HND.out.filter _, HW.out, hoe7, hb7, HR.out⟩
        case measure => simp only [slLen]; have := HLE.out; omega

end Go.Proofs.Ytondkinefmjpjaa
