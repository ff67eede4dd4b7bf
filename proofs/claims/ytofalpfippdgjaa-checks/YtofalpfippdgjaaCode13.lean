import Derived.Test.YtofalpfippdgjaaCode11
import Derived.Test.YtofalpfippdgjaaCode12
namespace Go.Proofs.Ytofalpfippdgjaa
open Go.RowKit

theorem Try.info89 : (Try.prog.info? 89).map (fun i => (i.zero, i.size, i.bytes)) = some (some (.int .u8 0), 1, 1) := by kernel_rfl

set_option maxHeartbeats 2000000 in
theorem varSets_any (b base : Nat) (ats : List CA) (av : Value) (w : World) (hc : w.cell? ⟨b, 6, none⟩ = some av) (ho : w.ownsRow base 93 3 av ats.length (ccells ats)) (hl : ats.length ≤ 100) :
    Calls Try.prog 29 #[.pointer (some ⟨b, 4, none⟩)] w fun x w' => ∃ sa cap, x = .returned (.slice sa ats.length cap) ∧ w'.ownsRow w.heap.size 89 1 (.slice sa ats.length cap) ats.length (u8s (ats.map CA.set)) ∧ Below w.heap.size w w' := by
  obtain ⟨aa, acap, rfl⟩ := own_form ho
  obtain ⟨i0, hi, hz0, hz1, hz2⟩ := info_parts Try.info89
  have HI : Hid _ := hi
  have HZ0 : Hid _ := hz0
  have HZ1 : Hid _ := hz1
  have HZ2 : Hid _ := hz2
  clear hi hz0 hz1 hz2
  go_enter Try.func29, Try.ntmps29
  go_wp2_with fail
  go_loopw [3, 5, 11] (fun sv _ jv wr => ∃ j : Nat, j ≤ ats.length ∧ jv = .int .i64 j ∧ wr.ownsRow w.heap.size 89 1 sv j (u8s ((ats.take j).map CA.set)) ∧ Below w.heap.size w wr) (fun _ _ jv _ => ats.length - (intOf jv).toNat)
  case atStart => exact ⟨0, Nat.zero_le _, rfl, World.ownsRow_nil _ _ _ _, Below.refl _ _⟩
  case round =>
    obtain ⟨j, hj, rfl, hrow, hb⟩ := hrel
    have hor := own_below' ho hb
    by_cases hlt : j < ats.length
    · obtain ⟨g, cap', he⟩ := own_some hor (by omega)
      simp only [Value.slice.injEq, true_and] at he
      obtain ⟨rfl, rfl⟩ := he
      obtain ⟨y0, y1, y2⟩ := ccells_at ats j hlt
      have c0 := (hor.cellAt (j * 3) (by omega)).trans y0
      have c1 := (hor.cellAt (j * 3 + 1) (by omega)).trans y1
      have c2 := (hor.cellAt (j * 3 + 2) (by omega)).trans y2
      clear y0 y1 y2
      obtain ⟨sa, scap, hsv⟩ := own_form hrow
      subst hsv
      have HTK : Hid (u8s ((ats.take (j + 1)).map CA.set) = u8s ((ats.take j).map CA.set) ++ [.int .u8 ats[j].set]) := by
        unfold Hid; rw [List.take_succ_eq_append_getElem hlt]; simp only [u8s, List.map_append, List.map_cons, List.map_nil]
      have hws : w.heap.size ≤ wr.heap.size := hb.size
      generalize hZ : ats[j].set = Z at c2 HTK
      generalize hR : ats[j].rel = RL at c0
      generalize hN : ats[j].n = N at c1
      clear hZ hR hN
      go_wp2_with (at_builtin; refine wpList_append_own _ rfl (.tmp 15) (.tmp 18) 80 rfl w.heap.size 89 i0 (.int .u8 0) 1 1 Try.underlying80 HI.out HZ0.out HZ1.out HZ2.out rfl (by decide) (.slice sa j scap) _ _ rfl ((hrow.alloc _).alloc _) ⟨wr.heap.size + 1, 0, none⟩ 1 1 [.int .u8 Z] rfl rfl (by have := one_new (wr.alloc (.cells #[.string RL, .int .i64 N, .int .u8 Z] 93)) (.int .u8 Z) 89; simpa using this) (by intro u hu; simp at hu; subst hu; rfl) (by unfold maxLen; omega) (by omega) (by simp; omega) ?_; intro v6 w6 hown6 hgrow6 _; obtain ⟨sa6, scap6, rfl⟩ := own_form hown6)
      have hb6 : Below w.heap.size w w6 := (((hb.alloc hws _).alloc (by simp; omega) _)).grown hgrow6 (by simp; omega) (fun k hk => by have := (hrow.lt k hk).1; exact this)
      clear hgrow6
      go_roundw
      case rel => exact ⟨j + 1, by omega, by go_num, by rw [HTK.out]; exact hown6, hb6⟩
      case measure => simp [intOf]; omega
    · have hjl : j = ats.length := by omega
      subst hjl
      rw [List.take_length] at hrow
      obtain ⟨sa, scap, hsv⟩ := own_form hrow
      subst hsv
      go_wp2_with fail
      go_ret
      exact ⟨_, _, rfl, hrow, hb⟩

/-- Do atoms make a tree? -/
def mt : Nat → List Int → Bool
  | 0, _ => true
  | n + 1, sets => if fgo sets < 0 then false else mt n (sets.eraseIdx (fgo sets).toNat)
def MakeTreeSaid : Prop := ∀ (base : Nat) (sets : List Int) (sv : Value) (w : World), w.ownsRow base 89 1 sv sets.length (u8s sets) → 1 ≤ sets.length → sets.length ≤ 100 →
    Calls Try.prog 28 #[sv] w fun x w' => x = .returned (.bool (mt (sets.length - 1) sets)) ∧ Below w.heap.size w w'

/-- What shows only in the whole. -/
def wfE (c : CS) : Nat := match c.hd.find? (fun p => !decide (0 ≤ ixOf c.vars p.t)) with
  | some _ => 5
  | none => if mt (c.ats.length - 1) (c.ats.map CA.set) then 0 else 7
def wfA (c : CS) : Nat := match c.hd.find? (fun p => !decide (0 ≤ ixOf c.vars p.t)) with
  | some p => p.a
  | none => 0

set_option maxHeartbeats 4000000 in
set_option maxRecDepth 100000 in
theorem wholeFault_any (hMT : MakeTreeSaid) (b base : Nat) (s : ByteArray) (c : CS) (w : World) (h : CSt w b base s c) (hh : c.hd.length ≤ 100) (hv : c.vars.length ≤ 100) (ha : c.ats.length ≤ 100) (ha1 : 1 ≤ c.ats.length) :
    Calls Try.prog 16 #[.pointer (some ⟨b, 4, none⟩)] w fun x w' => x = .returned (.agg #[.int .i64 (wfE c), .int .i64 (wfA c)]) ∧ Below w.heap.size w w' := by
  obtain ⟨hv0, vv, av, h1, h2, h3, h4⟩ := h.ex
  obtain ⟨hha, hcap, rfl⟩ := own_form h2
  have c4 := h1.c4
  have c5 := h1.c5
  have lb := h1.lt
  go_enter Try.func16, Try.ntmps16
  go_wp2_with fail
  go_loopw [4, 10] (fun _ iv wr => ∃ i : Nat, i ≤ c.hd.length ∧ iv = .int .i64 i ∧ Below w.heap.size w wr ∧ wr.heap[w.heap.size]? = some (.cells #[.int .i64 0, .int .i64 0] 40 (0, 0)) ∧ ∀ j (hj : j < c.hd.length), j < i → decide (0 ≤ ixOf c.vars c.hd[j].t) = true) (fun _ iv _ => c.hd.length - (intOf iv).toNat)
  case atStart => exact ⟨0, Nat.zero_le _, rfl, (Below.refl _ _).alloc (Nat.le_refl _) _, heap_alloc_new _ _, fun _ _ h => absurd h (Nat.not_lt_zero _)⟩
  case round =>
    obtain ⟨i, hi, rfl, hb, hblk, hall⟩ := hrel
    have HALL : Hid (∀ j (hj : j < c.hd.length), j < i → decide (0 ≤ ixOf c.vars c.hd[j].t) = true) := hall
    clear hall
    have hB : w.heap.size < wr.heap.size := lt_of_block hblk
    have r2 := own_below' h2 hb
    have r3 := own_below' h3 hb
    have d5 := (hb.cell (p := ⟨b, 5, none⟩) lb).trans c5
    by_cases hlt : i < c.hd.length
    · obtain ⟨g, cap', he⟩ := own_some r2 (by omega)
      simp only [Value.slice.injEq, true_and] at he
      obtain ⟨rfl, rfl⟩ := he
      obtain ⟨y0, y1, y2⟩ := pcells_at c.hd i hlt
      have e0 := (r2.cellAt (i * 3) (by omega)).trans y0
      have e1 := (r2.cellAt (i * 3 + 1) (by omega)).trans y1
      have e2 := (r2.cellAt (i * 3 + 2) (by omega)).trans y2
      clear y0 y1 y2
      have lbr : b < wr.heap.size := Nat.lt_of_lt_of_le lb hb.size
      obtain ⟨P, hP⟩ : ∃ P, c.hd[i] = P := ⟨_, rfl⟩
      rw [hP] at e0 e1 e2
      have HP : Hid (c.hd[i] = P) := hP
      clear hP
      go_wp2_with fail
      go_quiet ((go_at_call 27; exact Calls.quiet_of_same (Contains_any base c.vars vv P.t _ (by exact (r3.alloc _)) (by omega))))
      cases hx : decide (0 ≤ ixOf c.vars P.t)
      · have HW : Hid (wfE c = 5 ∧ wfA c = P.a) := by
          have hf : c.hd.find? (fun p => !decide (0 ≤ ixOf c.vars p.t)) = some P := by
            rw [List.find?_eq_some_iff_getElem]
            refine ⟨by simp [hx], i, hlt, HP.out, fun j hj => ?_⟩
            simp only [HALL.out j (by omega) hj]; rfl
          unfold Hid wfE wfA; rw [hf]; exact ⟨rfl, rfl⟩
        have z0 : wr.cell? ⟨w.heap.size, 0, none⟩ = some (.int .i64 0) := by simp [World.cell?, hblk]
        have z1 : wr.cell? ⟨w.heap.size, 1, none⟩ = some (.int .i64 0) := by simp [World.cell?, hblk]
        have f0 : wr.frozen? ⟨w.heap.size, 0, none⟩ = false := by simp [World.frozen?, hblk]
        have f1 : wr.frozen? ⟨w.heap.size, 1, none⟩ = false := by simp [World.frozen?, hblk]
        go_wp2_with fail
        refine bodyPost_ret (v := .agg #[.int .i64 5, .int .i64 P.a]) (by simp [results, Try.results16, go_sem, z0, z1, hB]) rfl ⟨?_, ?_⟩
        · rw [HW.out.1, HW.out.2]; rfl
        · have hb1 : Below w.heap.size w ((wr.alloc (.cells #[.int .i64 P.k, .string P.t, .int .i64 P.a] 57)).drewN nq) := by
            have := hb.alloc (by omega) (.cells #[.int .i64 P.k, .string P.t, .int .i64 P.a] 57)
            exact ⟨this.os, this.tape, this.output, this.size, this.block⟩
          exact (hb1.setCell (p := ⟨w.heap.size, 0, none⟩) (Nat.le_refl _) _).setCell (p := ⟨w.heap.size, 1, none⟩) (Nat.le_refl _) _
      · go_wp2_with fail
        go_roundw
        case rel =>
          have hbA := hb.alloc (by omega) (.cells #[.int .i64 P.k, .string P.t, .int .i64 P.a] 57)
          refine ⟨i + 1, by omega, by go_num, ⟨hbA.os, hbA.tape, hbA.output, hbA.size, hbA.block⟩, (Below.heap_alloc _ _ _ hB).trans hblk, fun j hj hji => ?_⟩
          by_cases e : j = i
          · subst e; rw [HP.out]; exact hx
          · exact HALL.out j hj (by omega)
        case measure => simp [intOf]; omega
    · have hf : c.hd.find? (fun p => !decide (0 ≤ ixOf c.vars p.t)) = none := by
        rw [List.find?_eq_none]
        intro x hx
        obtain ⟨j, hj, rfl⟩ := List.getElem_of_mem hx
        simp only [HALL.out j hj (by omega)]; decide
      have HW : Hid (wfE c = (if mt (c.ats.length - 1) (c.ats.map CA.set) then 0 else 7) ∧ wfA c = 0) := by
        unfold Hid wfE wfA; rw [hf]; exact ⟨rfl, rfl⟩
      clear hf
      have r4 := own_below' h4 hb
      have d6 := (hb.cell (p := ⟨b, 6, none⟩) lb).trans h1.c6
      go_wp2_with fail
      refine (varSets_any b base c.ats av _ d6 r4 ha).mono ?_
      rintro x w1 ⟨sa, scap, rfl, hs1, hb1⟩
      go_wp2_with fail
      refine (hMT wr.heap.size (c.ats.map CA.set) _ _ (by simpa using hs1) (by simpa using ha1) (by simpa using ha)).mono ?_
      rintro x w2 ⟨rfl, hb2⟩
      have hb12 : Below wr.heap.size wr w2 := hb1.trans (hb2.mono hb1.size)
      have hb02 : Below w.heap.size w w2 := hb.trans (hb12.mono (by omega))
      have hblk2 := (hb12.block w.heap.size hB).trans hblk
      have z0 : w2.cell? ⟨w.heap.size, 0, none⟩ = some (.int .i64 0) := by simp [World.cell?, hblk2]
      have z1 : w2.cell? ⟨w.heap.size, 1, none⟩ = some (.int .i64 0) := by simp [World.cell?, hblk2]
      have f0 : w2.frozen? ⟨w.heap.size, 0, none⟩ = false := by simp [World.frozen?, hblk2]
      have f1 : w2.frozen? ⟨w.heap.size, 1, none⟩ = false := by simp [World.frozen?, hblk2]
      rw [List.length_map]
      cases hm : mt (c.ats.length - 1) (c.ats.map CA.set)
      · rw [hm] at HW
        clear hm
        go_wp2_with fail
        refine bodyPost_ret (v := .agg #[.int .i64 7, .int .i64 0]) (by simp [results, Try.results16, go_sem, z0, z1]) rfl ⟨?_, ?_⟩
        · rw [HW.out.1, HW.out.2]; rfl
        · exact (hb02.setCell (p := ⟨w.heap.size, 0, none⟩) (Nat.le_refl _) _).setCell (p := ⟨w.heap.size, 1, none⟩) (Nat.le_refl _) _
      · rw [hm] at HW
        clear hm
        go_wp2_with fail
        refine bodyPost_ret (v := .agg #[.int .i64 0, .int .i64 0]) (by simp [results, Try.results16, go_sem, z0, z1]) rfl ⟨?_, ?_⟩
        · rw [HW.out.1, HW.out.2]; rfl
        · exact (hb02.setCell (p := ⟨w.heap.size, 0, none⟩) (Nat.le_refl _) _).setCell (p := ⟨w.heap.size, 1, none⟩) (Nat.le_refl _) _

end Go.Proofs.Ytofalpfippdgjaa
