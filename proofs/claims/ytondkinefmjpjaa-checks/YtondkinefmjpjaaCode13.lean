import Derived.Test.YtondkinefmjpjaaCode11
import Derived.Test.YtondkinefmjpjaaCode18
namespace Go.Proofs.Ytondkinefmjpjaa
open Go.RowKit

theorem Try.info93 : (Try.prog.info? 93).map (fun i => (i.zero, i.size, i.bytes)) = some (some (.int .u8 0), 1, 1) := by kernel_rfl

set_option maxHeartbeats 1000000 in
theorem varNumber0_any (b base : Nat) (vars : List ByteArray) (vv : Value) (t : ByteArray) (w : World) (hc : w.cell? ⟨b, 1, none⟩ = some vv) (ho : w.ownsRow base 9 1 vv vars.length (strs vars)) (hl : vars.length ≤ 1000) :
    Calls Try.prog 29 #[.pointer (some ⟨b, 0, none⟩), .string t] w fun x w' => x = .returned (.int .i64 (ixOf vars t)) ∧ w' = w := by
  go_enter Try.func29, Try.ntmps29
  go_wp2_with fail
  refine (Index_any base vars vv t _ ho hl).mono ?_
  rintro e w' ⟨rfl, rfl⟩
  obtain ⟨I, hI⟩ : ∃ I, ixOf vars t = I := ⟨_, rfl⟩
  have HI : Hid (ixOf vars t = I) := hI
  rw [hI]
  clear hI
  go_wp2
  go_ret
  exact ⟨ret_int64 (by rw [HI.out]), rfl⟩

set_option maxHeartbeats 2000000 in
theorem varSets_any (b base : Nat) (ats : List CA) (av : Value) (w : World) (hc : w.cell? ⟨b, 2, none⟩ = some av) (hA : AR w base av ats) (hl : ats.length ≤ 100) :
    Calls Try.prog 18 #[.pointer (some ⟨b, 0, none⟩)] w fun x w' => ∃ sa cap, x = .returned (.slice sa ats.length cap) ∧ w'.ownsRow w.heap.size 93 1 (.slice sa ats.length cap) ats.length (u8s (ats.map CA.set)) ∧ Below w.heap.size w w' := by
  obtain ⟨ts, hts, ho⟩ := hA
  obtain ⟨aa, acap, rfl⟩ := own_form ho
  obtain ⟨i0, hi, hz0, hz1, hz2⟩ := info_parts Try.info93
  have HI : Hid _ := hi
  have HZ0 : Hid _ := hz0
  have HZ1 : Hid _ := hz1
  have HZ2 : Hid _ := hz2
  clear hi hz0 hz1 hz2
  go_enter Try.func18, Try.ntmps18
  go_wp2_with fail
  go_loopw [3, 5, 11] (fun sv _ jv wr => ∃ j : Nat, j ≤ ats.length ∧ jv = .int .i64 j ∧ wr.ownsRow w.heap.size 93 1 sv j (u8s ((ats.take j).map CA.set)) ∧ Below w.heap.size w wr) (fun _ _ jv _ => ats.length - (intOf jv).toNat)
  case atStart => exact ⟨0, Nat.zero_le _, rfl, World.ownsRow_nil _ _ _ _, Below.refl _ _⟩
  case round =>
    obtain ⟨j, hj, rfl, hrow, hb⟩ := hrel
    have hor := own_below' ho hb
    by_cases hlt : j < ats.length
    · obtain ⟨g, cap', he⟩ := own_some hor (by omega)
      simp only [Value.slice.injEq, true_and] at he
      obtain ⟨rfl, rfl⟩ := he
      obtain ⟨⟨da, dc⟩, y0, y1, y2⟩ := ccells_at ats ts hts j hlt
      have c0 := (hor.cellAt (j * 3) (by omega)).trans y0
      have c1 := (hor.cellAt (j * 3 + 1) (by omega)).trans y1
      have c2 := (hor.cellAt (j * 3 + 2) (by omega)).trans y2
      clear y0 y1 y2
      obtain ⟨sa, scap, hsv⟩ := own_form hrow
      subst hsv
      have HTK : Hid (u8s ((ats.take (j + 1)).map CA.set) = u8s ((ats.take j).map CA.set) ++ [.int .u8 ats[j].set]) := by
        unfold Hid; rw [List.take_succ_eq_append_getElem hlt]; simp only [u8s, List.map_append, List.map_cons, List.map_nil]
      have hws : w.heap.size ≤ wr.heap.size := hb.size
      generalize hZ : ats[j].set = Z at c2 HTK
      generalize hR : ats[j].rel = RL at c0
      generalize hN : ats[j].n = N at c1
      clear hZ hR hN
      go_wp2_with (at_builtin; refine wpList_append_own _ rfl (.tmp 15) (.tmp 18) 65 rfl w.heap.size 93 i0 (.int .u8 0) 1 1 Try.underlying65 HI.out HZ0.out HZ1.out HZ2.out rfl (by decide) (.slice sa j scap) _ _ rfl ((hrow.alloc _).alloc _) ⟨wr.heap.size + 1, 0, none⟩ 1 1 [.int .u8 Z] rfl rfl (by have := one_new (wr.alloc (.cells #[.string RL, .slice da N dc, .int .u8 Z] 95)) (.int .u8 Z) 93; simpa using this) (by intro u hu; simp at hu; subst hu; rfl) (by unfold maxLen; omega) (by omega) (by simp; omega) ?_; intro v6 w6 hown6 hgrow6 _; obtain ⟨sa6, scap6, rfl⟩ := own_form hown6)
      have hb6 : Below w.heap.size w w6 := (((hb.alloc hws _).alloc (by simp; omega) _)).grown hgrow6 (by simp; omega) (fun k hk => by have := (hrow.lt k hk).1; exact this)
      clear hgrow6
      go_roundw
      case rel => exact ⟨j + 1, by omega, by go_num, by rw [HTK.out]; exact hown6, hb6⟩
      case measure => simp [intOf]; omega
    · have hjl : j = ats.length := by omega
      subst hjl
      rw [List.take_length] at hrow
      obtain ⟨sa, scap, hsv⟩ := own_form hrow
      subst hsv
      go_wp2_with fail
      go_ret
      exact ⟨_, _, rfl, hrow, hb⟩

/-- What the head shows only once all atoms are read. -/
def hfE (hd : List Est.Pc) (vars : List ByteArray) : Nat := match hd.find? (fun p => !decide (0 ≤ ixOf vars p.t)) with
  | some _ => 5
  | none => 0
def hfA (hd : List Est.Pc) (vars : List ByteArray) : Nat := match hd.find? (fun p => !decide (0 ≤ ixOf vars p.t)) with
  | some p => p.a
  | none => 0
/-- What shows only in the whole. -/
def wfE (c : CS) : Nat := match c.hd.find? (fun p => !decide (0 ≤ ixOf c.vars p.t)) with
  | some _ => 5
  | none => if mtI (c.ats.length - 1) (c.ats.map CA.set) (List.range c.ats.length) then 0 else 7
def wfA (c : CS) : Nat := match c.hd.find? (fun p => !decide (0 ≤ ixOf c.vars p.t)) with
  | some p => p.a
  | none => 0

set_option maxHeartbeats 4000000 in
set_option maxRecDepth 100000 in
theorem headFault_any (b base : Nat) (hd : List Est.Pc) (vars : List ByteArray) (hv0 vv : Value) (w : World) (h2 : w.ownsRow base 58 3 hv0 hd.length (pcells hd)) (h3 : w.ownsRow base 9 1 vv vars.length (strs vars)) (c4 : w.cell? ⟨b, 0, none⟩ = some hv0) (c5 : w.cell? ⟨b, 1, none⟩ = some vv) (hh : hd.length ≤ 100) (hv : vars.length ≤ 100) :
    Calls Try.prog 16 #[.pointer (some ⟨b, 0, none⟩)] w fun x w' => x = .returned (.agg #[.int .i64 (hfE hd vars), .int .i64 (hfA hd vars)]) ∧ Below w.heap.size w w' := by
  obtain ⟨hha, hcap, rfl⟩ := own_form h2
  have lb := World.block_lt_of_cell? _ _ c4
  go_enter Try.func16, Try.ntmps16
  go_wp2_with fail
  go_loopw [4, 10] (fun _ iv wr => ∃ i : Nat, i ≤ hd.length ∧ iv = .int .i64 i ∧ Below w.heap.size w wr ∧ wr.heap[w.heap.size]? = some (.cells #[.int .i64 0, .int .i64 0] 41 (0, 0)) ∧ ∀ j (hj : j < hd.length), j < i → decide (0 ≤ ixOf vars hd[j].t) = true) (fun _ iv _ => hd.length - (intOf iv).toNat)
  case atStart => exact ⟨0, Nat.zero_le _, rfl, (Below.refl _ _).alloc (Nat.le_refl _) _, heap_alloc_new _ _, fun _ _ h => absurd h (Nat.not_lt_zero _)⟩
  case round =>
    obtain ⟨i, hi, rfl, hb, hblk, hall⟩ := hrel
    have HALL : Hid (∀ j (hj : j < hd.length), j < i → decide (0 ≤ ixOf vars hd[j].t) = true) := hall
    clear hall
    have hB : w.heap.size < wr.heap.size := lt_of_block hblk
    have r2 := own_below' h2 hb
    have r3 := own_below' h3 hb
    have d5 := (hb.cell (p := ⟨b, 1, none⟩) lb).trans c5
    by_cases hlt : i < hd.length
    · obtain ⟨g, cap', he⟩ := own_some r2 (by omega)
      simp only [Value.slice.injEq, true_and] at he
      obtain ⟨rfl, rfl⟩ := he
      obtain ⟨y0, y1, y2⟩ := pcells_at hd i hlt
      have e0 := (r2.cellAt (i * 3) (by omega)).trans y0
      have e1 := (r2.cellAt (i * 3 + 1) (by omega)).trans y1
      have e2 := (r2.cellAt (i * 3 + 2) (by omega)).trans y2
      clear y0 y1 y2
      have lbr : b < wr.heap.size := Nat.lt_of_lt_of_le lb hb.size
      obtain ⟨P, hP⟩ : ∃ P, hd[i] = P := ⟨_, rfl⟩
      rw [hP] at e0 e1 e2
      have HP : Hid (hd[i] = P) := hP
      clear hP
      have d5a : (wr.alloc (.cells #[.int .i64 P.k, .string P.t, .int .i64 P.a] 58)).cell? ⟨b, 1, none⟩ = some vv := (((Below.refl wr.heap.size wr).alloc (Nat.le_refl _) _).cell (p := ⟨b, 1, none⟩) lbr).trans d5
      go_wp2_with fail
      refine (varNumber0_any b base vars vv P.t _ d5a (r3.alloc _) (by omega)).mono ?_
      rintro x w1 ⟨rfl, rfl⟩
      obtain ⟨I, hI⟩ : ∃ I, ixOf vars P.t = I := ⟨_, rfl⟩
      have HIX : Hid (ixOf vars P.t = I) := hI
      rw [hI]
      clear hI
      have hbA := hb.alloc (by omega) (.cells #[.int .i64 P.k, .string P.t, .int .i64 P.a] 58)
      by_cases hx : 0 ≤ I
      · have hx' : ¬ I < 0 := by omega
        go_wp2_with fail
        go_roundw
        case rel =>
          refine ⟨i + 1, by omega, by go_num, hbA, (Below.heap_alloc _ _ _ hB).trans hblk, fun j hj hji => ?_⟩
          by_cases e : j = i
          · subst e; rw [HP.out, HIX.out]; exact decide_eq_true hx
          · exact HALL.out j hj (by omega)
        case measure => simp [intOf]; omega
      · have hx' : I < 0 := by omega
        have HW : Hid (hfE hd vars = 5 ∧ hfA hd vars = P.a) := by
          have hf : hd.find? (fun p => !decide (0 ≤ ixOf vars p.t)) = some P := by
            rw [List.find?_eq_some_iff_getElem]
            refine ⟨by simp [HIX.out, hx], i, hlt, HP.out, fun j hj => ?_⟩
            simp only [HALL.out j (by omega) hj]; rfl
          unfold Hid hfE hfA; rw [hf]; exact ⟨rfl, rfl⟩
        have z0 : wr.cell? ⟨w.heap.size, 0, none⟩ = some (.int .i64 0) := by simp [World.cell?, hblk]
        have z1 : wr.cell? ⟨w.heap.size, 1, none⟩ = some (.int .i64 0) := by simp [World.cell?, hblk]
        have f0 : wr.frozen? ⟨w.heap.size, 0, none⟩ = false := by simp [World.frozen?, hblk]
        have f1 : wr.frozen? ⟨w.heap.size, 1, none⟩ = false := by simp [World.frozen?, hblk]
        go_wp2_with fail
        refine bodyPost_ret (v := .agg #[.int .i64 5, .int .i64 P.a]) (by simp [results, Try.results16, go_sem, z0, z1, hB]) rfl ⟨?_, ?_⟩
        · rw [HW.out.1, HW.out.2]; rfl
        · exact ((hb.setCell (p := ⟨w.heap.size, 0, none⟩) (Nat.le_refl _) _).setCell (p := ⟨w.heap.size, 1, none⟩) (Nat.le_refl _) _).alloc (by simp [World.setCell]; omega) _
    · have hf : hd.find? (fun p => !decide (0 ≤ ixOf vars p.t)) = none := by
        rw [List.find?_eq_none]
        intro x hx
        obtain ⟨j, hj, rfl⟩ := List.getElem_of_mem hx
        simp only [HALL.out j hj (by omega)]; decide
      have HW : Hid (hfE hd vars = 0 ∧ hfA hd vars = 0) := by
        unfold Hid hfE hfA; rw [hf]; exact ⟨rfl, rfl⟩
      clear hf
      have z0 : wr.cell? ⟨w.heap.size, 0, none⟩ = some (.int .i64 0) := by simp [World.cell?, hblk]
      have z1 : wr.cell? ⟨w.heap.size, 1, none⟩ = some (.int .i64 0) := by simp [World.cell?, hblk]
      have f0 : wr.frozen? ⟨w.heap.size, 0, none⟩ = false := by simp [World.frozen?, hblk]
      have f1 : wr.frozen? ⟨w.heap.size, 1, none⟩ = false := by simp [World.frozen?, hblk]
      go_wp2_with fail
      refine bodyPost_ret (v := .agg #[.int .i64 0, .int .i64 0]) (by simp [results, Try.results16, go_sem, z0, z1]) rfl ⟨?_, ?_⟩
      · rw [HW.out.1, HW.out.2]; rfl
      · exact (hb.setCell (p := ⟨w.heap.size, 0, none⟩) (Nat.le_refl _) _).setCell (p := ⟨w.heap.size, 1, none⟩) (Nat.le_refl _) _

end Go.Proofs.Ytondkinefmjpjaa
