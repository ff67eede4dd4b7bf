import Derived.Test.YtondkinefmjpjaaRef7
namespace Go.Proofs.Ytondkinefmjpjaa
open Go.RowKit

theorem acells_at' (l : List AD) (k : Nat) (hk : k < l.length) : (acells l)[k * 3]? = some (.string l[k].rel) ∧ (acells l)[k * 3 + 1]? = some l[k].tv ∧ (acells l)[k * 3 + 2]? = some (.int .i64 l[k].at_) := by
  induction l generalizing k with
  | nil => simp at hk
  | cons d l ih =>
    cases k with
    | zero => simp [acells]
    | succ k =>
      have := ih k (by simpa using hk)
      have e : acells (d :: l) = [.string d.rel, d.tv, .int .i64 d.at_] ++ acells l := by simp [acells]
      rw [e]
      have e0 : (k + 1) * 3 = k * 3 + 3 := by omega
      rw [e0, List.getElem?_append_right (by simp), List.getElem?_append_right (by simp), List.getElem?_append_right (by simp)]
      simpa using this
theorem tcells_at (ts : List (Int × Int)) (k : Nat) (hk : k < ts.length) : (tcells ts)[k * 2]? = some (.int .i64 ts[k].1) := by
  induction ts generalizing k with
  | nil => simp at hk
  | cons d l ih =>
    cases k with
    | zero => simp [tcells]
    | succ k =>
      have := ih k (by simpa using hk)
      have e : tcells (d :: l) = [.int .i64 d.1, .int .i64 d.2] ++ tcells l := by simp [tcells]
      rw [e, show (k + 1) * 2 = k * 2 + 2 by omega, List.getElem?_append_right (by simp)]
      simpa using this

/-- A query at rest: so many variables, these atoms. -/
structure QSt (w : World) (qb base nv : Nat) (l : List AD) : Prop where
  ex : ∃ va vcap hv av, w.heap[qb]? = some (.cells #[.slice va nv vcap, hv, av] 47 (0, 0)) ∧ w.ownsRow base 71 3 av l.length (acells l)
  ts : ∀ d, d ∈ l → w.ownsRow base 73 2 d.tv d.ts.length (tcells d.ts)
  vs : ∀ d, d ∈ l → d.ts.length ≤ 100 ∧ ∀ t, t ∈ d.ts → t.1 < nv

theorem own_below {w w' : World} {base : Nat} {e : TypeId} {size : Nat} {v : Value} {n : Nat} {xs : List Value} (h : w.ownsRow base e size v n xs) (hb : Below w.heap.size w w') : w'.ownsRow base e size v n xs := by
  refine ⟨h.1, ?_⟩
  rcases h.2 with hn | ⟨g, cap, cur, rfl, h1, h2, rest⟩
  · exact .inl hn
  · exact .inr ⟨g, cap, cur, rfl, h1, (hb.block g (lt_of_block h2)).trans h2, rest⟩
theorem QSt.below {w w' : World} {qb base nv : Nat} {l : List AD} (h : QSt w qb base nv l) (hb : Below w.heap.size w w') : QSt w' qb base nv l := by
  obtain ⟨va, vcap, hv, av, h1, h2⟩ := h.ex
  exact ⟨⟨va, vcap, hv, av, (hb.block qb (lt_of_block h1)).trans h1, own_below h2 hb⟩, fun d hd => own_below (h.ts d hd) hb, h.vs⟩

/-- Which variables terms have. -/
def bls (nv : Nat) (ts : List (Int × Int)) : List Value := (List.range nv).map fun (v : Nat) => Value.bool (ts.any fun t => t.1 == (v : Int))
theorem bls_len (nv : Nat) (ts : List (Int × Int)) : (bls nv ts).length = nv := by simp [bls]
theorem bls_nil (nv : Nat) : bls nv [] = List.replicate nv (.bool false) := by simp [bls, List.map_const']
theorem bls_neg (nv : Nat) (ts : List (Int × Int)) (t : Int × Int) (h : t.1 < 0) : bls nv (ts ++ [t]) = bls nv ts := by
  unfold bls
  apply List.map_congr_left
  intro v _
  have : (t.1 == (v : Int)) = false := beq_eq_false_iff_ne.2 (by omega)
  simp [this]
theorem bls_pos (nv : Nat) (ts : List (Int × Int)) (t : Int × Int) (v : Nat) (h : t.1 = v) : bls nv (ts ++ [t]) = (bls nv ts).set v (.bool true) := by
  apply List.ext_getElem
  · simp [bls]
  · intro i h1 h2
    simp only [bls, List.getElem_map, List.getElem_range, List.getElem_set, List.any_append, List.any_cons, List.any_nil, Bool.or_false, h]
    split
    · rename_i e; subst e; simp
    · rename_i e
      have : ((v : Int) == (i : Int)) = false := beq_eq_false_iff_ne.2 (by omega)
      simp [this]

theorem Try.info4 : (Try.prog.info? 4).map (fun i => (i.zero, i.size, i.bytes)) = some (some (.bool false), 1, 1) := by kernel_rfl
theorem made_bools (n : Nat) : (madeCells (Value.cells (.bool false)) (n * 1)).toList = List.replicate n (.bool false) := by
  simp [madeCells, Value.cells, Nat.mod_one, List.map_const']

set_option maxHeartbeats 1000000 in
set_option maxRecDepth 100000 in
theorem vars_any (qb base nv i : Nat) (l : List AD) (w : World) (h : QSt w qb base nv l) (hi : i < l.length) (hl : l.length ≤ 100) (hnv : nv ≤ 1000) :
    Calls Try.prog 39 #[.pointer (some ⟨qb, 0, none⟩), .int .i64 i] w fun x w' => ∃ g cap, x = .returned (.slice (some ⟨g, 0, none⟩) nv cap) ∧ w'.ownsRow w.heap.size 4 1 (.slice (some ⟨g, 0, none⟩) nv cap) nv (bls nv l[i].ts) ∧ Below w.heap.size w w' := by
  obtain ⟨⟨va, vcap, hv, av, hq, har⟩, hts, hvs⟩ := h
  have q0 : w.cell? ⟨qb, 0, none⟩ = some (.slice va nv vcap) := by simp [World.cell?, hq]
  have lq : qb < w.heap.size := lt_of_block hq
  obtain ⟨g, acap, rfl⟩ := own_some har (by omega)
  obtain ⟨ta, tcap, htv⟩ := own_form (hts l[i] (List.getElem_mem hi))
  have y1 := (har.cellAt (i * 3 + 1) (by omega)).trans (acells_at' l i hi).2.1
  have lg : g < w.heap.size := (har.lt g rfl).2
  have ht := hts l[i] (List.getElem_mem hi)
  have hv' := hvs l[i] (List.getElem_mem hi)
  rw [htv] at y1 ht
  obtain ⟨i0, hi0, hz0, hz1, hz2⟩ := info_parts Try.info4
  have q2 : w.cell? ⟨qb, 2, none⟩ = some (.slice (some ⟨g, 0, none⟩) l.length acap) := by simp [World.cell?, hq]
  generalize hTS : l[i].ts = ts at ht hv' y1
  clear hTS htv hts hvs
  have HV : Hid _ := hv'
  have hn100 : ts.length ≤ 100 := hv'.1
  clear hv'
  go_enter Try.func39, Try.ntmps39
  go_wp2_with (at_make; refine wpList_make_full _ rfl (.tmp 12) (.tmp 12) 75 rfl w.heap.size 4 i0 (.bool false) 1 Try.underlying75 hi0 hz0 hz1 .i64 .i64 (nv : Int) (nv : Int) nv rfl rfl rfl rfl (by rw [hz2]; omega) (by unfold maxLen; omega) (Nat.le_refl _) ?_; intro w1 hown1 hgrow1)
  rw [made_bools, ← bls_nil] at hown1
  have hb1 : Below w.heap.size w w1 := (Below.refl _ _).grown hgrow1 (Nat.le_refl _) (fun k e => by cases e)
  clear hgrow1 hi0 hz0 hz1 hz2
  have l1 : w.heap.size < w1.heap.size := (hown1.lt _ rfl).2
  go_loopw [6, 7] (fun k _ wr => ∃ j : Nat, j ≤ ts.length ∧ k = .int .i64 j ∧ wr.ownsRow w.heap.size 4 1 (.slice (some ⟨w.heap.size, 0, none⟩) nv nv) nv (bls nv (ts.take j)) ∧ Below w.heap.size w wr) (fun k _ _ => ts.length - (intOf k).toNat)
  case atStart => exact ⟨0, Nat.zero_le _, rfl, hown1, hb1⟩
  case round =>
    obtain ⟨j, hj, rfl, hown, hb⟩ := hrel
    have p2 := (hb.cell (p := ⟨qb, 2, none⟩) lq).trans q2
    have p1 := (hb.cell (p := ⟨g, i * 3 + 1, none⟩) lg).trans y1
    by_cases hlt : j < ts.length
    · obtain ⟨tg, tcap', he⟩ := own_some ht (by omega)
      simp only [Value.slice.injEq, true_and] at he
      obtain ⟨rfl, rfl⟩ := he
      have t0 := (ht.cellAt (j * 2) (by omega)).trans (tcells_at ts j hlt)
      have ltg : tg < w.heap.size := (ht.lt tg rfl).2
      have p3 := (hb.cell (p := ⟨tg, j * 2, none⟩) ltg).trans t0
      have htk : ts.take (j + 1) = ts.take j ++ [ts[j]] := List.take_succ_eq_append_getElem hlt
      have HTK : Hid _ := htk
      clear htk t0
      have hVlt : (ts[j].1 : Int) < nv := HV.out.2 ts[j] (List.getElem_mem hlt)
      by_cases hneg : ts[j].1 < 0
      · go_wp2_with fail
        go_roundw
        case rel => exact ⟨j + 1, by omega, by go_num, by rw [HTK.out, bls_neg _ _ _ hneg]; exact hown, hb⟩
        case measure => simp [intOf]; omega
      · obtain ⟨v, hv⟩ : ∃ v : Nat, ts[j].1 = (v : Int) := ⟨ts[j].1.toNat, by omega⟩
        rw [hv] at p3 hVlt
        have HVE : Hid (ts[j].1 = (v : Int)) := hv
        clear hv hneg
        have hvn : v < nv := by omega
        have st := hown.stored v (.bool true)
        have s0 := hown.cellAt v (by omega)
        have s0' : wr.cell? ⟨w.heap.size, v, none⟩ = some (.bool ((ts.take j).any fun t => t.1 == (v : Int))) := by
          rw [s0]; simp [bls, List.getElem?_map, List.getElem?_range hvn]
        have f0 := hown.frozenAt v
        have ST : Hid _ := st
        clear s0 st
        go_wp2_with fail
        go_roundw
        case rel => exact ⟨j + 1, by omega, by go_num, by rw [HTK.out, bls_pos _ _ _ v HVE.out]; exact ST.out.1, hb.setCell (p := ⟨w.heap.size, v, none⟩) (Nat.le_refl _) _⟩
        case measure => simp [intOf]; omega
    · go_wp2_with fail
      go_ret
      refine ⟨_, _, rfl, ?_, hb⟩
      rw [List.take_of_length_le (by omega)] at hown
      exact hown

end Go.Proofs.Ytondkinefmjpjaa
