import Derived.Deep.CutBlock
import Derived.Test.YtondkinefmjpjaaGreatI04
set_option maxHeartbeats 4000000
set_option maxRecDepth 100000
namespace Go.Proofs.YtondkinefmjpjaaGreat.K
open Go.RowKit
theorem acells_at' (l:List AD) (k:Nat) (hk:k < l.length):(acells l)[k * 3]? = some (.string l[k].rel) /\ (acells l)[k * 3 + 1]? = some l[k].tv /\ (acells l)[k * 3 + 2]? = some (.int .i64 l[k].at_):=by
 induction l generalizing k with
 | nil => simp at hk
 | cons d l ih =>
  cases k with
  | zero => simp [acells]
  | succ k =>
   have:=ih k (by simpa using hk)
   have e:acells (d :: l) = [.string d.rel,d.tv,.int .i64 d.at_] ++ acells l:=by simp [acells]
   rw [e]
   have e0:(k + 1) * 3 = k * 3 + 3:=by omega
   rw [e0,List.getElem?_append_right (by simp),List.getElem?_append_right (by simp),List.getElem?_append_right (by simp)]
   simpa using this
theorem tcells_at (ts:List (Int × Int)) (k:Nat) (hk:k < ts.length):(tcells ts)[k * 2]? = some (.int .i64 ts[k].1):=by
 induction ts generalizing k with
 | nil => simp at hk
 | cons d l ih =>
  cases k with
  | zero => simp [tcells]
  | succ k =>
   have:=ih k (by simpa using hk)
   have e:tcells (d :: l) = [.int .i64 d.1,.int .i64 d.2] ++ tcells l:=by simp [tcells]
   rw [e,show (k + 1) * 2 = k * 2 + 2 by omega,List.getElem?_append_right (by simp)]
   simpa using this
structure QSt (w:World) (qb base nv:Nat) (l:List AD):Prop where
 ex:∃ va vcap hv av,w.heap[qb]? = some (.cells #[.slice va nv vcap,hv,av] 97 (0,0)) /\ w.ownsRow base 138 3 av l.length (acells l)
 ts:∀ d,d ∈ l -> w.ownsRow base 203 2 d.tv d.ts.length (tcells d.ts)
 vs:∀ d,d ∈ l -> d.ts.length <= 100 /\ ∀ t,t ∈ d.ts -> t.1 < nv
theorem own_below {w w':World} {base:Nat} {e:TypeId} {size:Nat} {v:Value} {n:Nat} {xs:List Value} (h:w.ownsRow base e size v n xs) (hb:Below w.heap.size w w'):w'.ownsRow base e size v n xs:=by
 refine ⟨h.1,?_⟩
 rcases h.2 with hn | ⟨g,cap,cur,rfl,h1,h2,rest⟩
 ·exact .inl hn
 ·exact .inr ⟨g,cap,cur,rfl,h1,(hb.block g (lt_of_block h2)).trans h2,rest⟩
theorem QSt.below {w w':World} {qb base nv:Nat} {l:List AD} (h:QSt w qb base nv l) (hb:Below w.heap.size w w'):QSt w' qb base nv l:=by
 obtain ⟨va,vcap,hv,av,h1,h2⟩:=h.ex
 exact ⟨⟨va,vcap,hv,av,(hb.block qb (lt_of_block h1)).trans h1,own_below h2 hb⟩,fun d hd => own_below (h.ts d hd) hb,h.vs⟩
def bls (nv:Nat) (ts:List (Int × Int)):List Value:=(List.range nv).map fun (v:Nat) => Value.bool (ts.any fun t => t.1 == (v:Int))
theorem bls_nil (nv:Nat):bls nv [] = List.replicate nv (.bool false):=by simp [bls,List.map_const']
theorem bls_neg (nv:Nat) (ts:List (Int × Int)) (t:Int × Int) (h:t.1 < 0):bls nv (ts ++ [t]) = bls nv ts:=by
 unfold bls
 apply List.map_congr_left
 intro v _
 have:(t.1 == (v:Int)) = false:=beq_eq_false_iff_ne.2 (by omega)
 simp [this]
theorem bls_pos (nv:Nat) (ts:List (Int × Int)) (t:Int × Int) (v:Nat) (h:t.1 = v):bls nv (ts ++ [t]) = (bls nv ts).set v (.bool true):=by
 apply List.ext_getElem
 ·simp [bls]
 ·intro i h1 h2
  simp only [bls,List.getElem_map,List.getElem_range,List.getElem_set,List.any_append,List.any_cons,List.any_nil,Bool.or_false,h]
  split
  ·rename_i e;subst e;simp
  ·rename_i e
   have:((v:Int) == (i:Int)) = false:=beq_eq_false_iff_ne.2 (by omega)
   simp [this]
theorem Tryz.info4:(Tryz.prog.info? 4).map (fun i => (i.zero,i.size,i.bytes)) = some (some (.bool false),1,1):=by kernel_rfl
theorem made_bools (n:Nat):(madeCells (Value.cells (.bool false)) (n * 1)).toList = List.replicate n (.bool false):=by
 simp [madeCells,Value.cells,Nat.mod_one,List.map_const']
theorem vars_any (qb base nv i:Nat) (l:List AD) (w:World) (h:QSt w qb base nv l) (hi:i < l.length) (hl:l.length <= 100) (hnv:nv <= 1000) :
  Calls Tryz.prog 167 #[.pointer (some ⟨qb,0,none⟩),.int .i64 i] w fun x w' => ∃ g cap,x = .returned (.slice (some ⟨g,0,none⟩) nv cap) /\ w'.ownsRow w.heap.size 4 1 (.slice (some ⟨g,0,none⟩) nv cap) nv (bls nv l[i].ts) /\ Below w.heap.size w w':=by
 obtain ⟨⟨va,vcap,hv,av,hq,har⟩,hts,hvs⟩:=h
 have q0:w.cell? ⟨qb,0,none⟩ = some (.slice va nv vcap):=by simp [World.cell?,hq]
 have lq:qb < w.heap.size:=lt_of_block hq
 obtain ⟨g,acap,rfl⟩:=own_some har (by omega)
 obtain ⟨ta,tcap,htv⟩:=own_form (hts l[i] (List.getElem_mem hi))
 have y1:=(har.cellAt (i * 3 + 1) (by omega)).trans (acells_at' l i hi).2.1
 have lg:g < w.heap.size:=(har.lt g rfl).2
 have ht:=hts l[i] (List.getElem_mem hi)
 have hv':=hvs l[i] (List.getElem_mem hi)
 rw [htv] at y1 ht
 obtain ⟨i0,hi0,hz0,hz1,hz2⟩:=info_parts Tryz.info4
 have q2:w.cell? ⟨qb,2,none⟩ = some (.slice (some ⟨g,0,none⟩) l.length acap):=by simp [World.cell?,hq]
 generalize hTS:l[i].ts = ts at ht hv' y1
 clear hTS htv hts hvs
 have HV:Hid _:=hv'
 have hn100:ts.length <= 100:=hv'.1
 clear hv'
 go_enter Tryz.func167,Tryz.ntmps167
 go_wp2_with (at_make;refine wpList_make_full _ rfl (.tmp 12) (.tmp 12) 228 rfl w.heap.size 4 i0 (.bool false) 1 Tryz.underlying228 hi0 hz0 hz1 .i64 .i64 (nv:Int) (nv:Int) nv rfl rfl rfl rfl (by rw [hz2];omega) (by unfold maxLen;omega) (Nat.le_refl _) ?_;intro w1 hown1 hgrow1)
 rw [made_bools,← bls_nil] at hown1
 have hb1:Below w.heap.size w w1:=(Below.refl _ _).grown hgrow1 (Nat.le_refl _) (fun k e => by cases e)
 clear hgrow1 hi0 hz0 hz1 hz2
 have l1:w.heap.size < w1.heap.size:=(hown1.lt _ rfl).2
 go_loopw [6,7] (fun k _ wr => ∃ j:Nat,j <= ts.length /\ k = .int .i64 j /\ wr.ownsRow w.heap.size 4 1 (.slice (some ⟨w.heap.size,0,none⟩) nv nv) nv (bls nv (ts.take j)) /\ Below w.heap.size w wr) (fun k _ _ => ts.length - (intOf k).toNat)
 case atStart => exact ⟨0,Nat.zero_le _,rfl,hown1,hb1⟩
 case round =>
  obtain ⟨j,hj,rfl,hown,hb⟩:=hrel
  have p2:=(hb.cell (p:=⟨qb,2,none⟩) lq).trans q2
  have p1:=(hb.cell (p:=⟨g,i * 3 + 1,none⟩) lg).trans y1
  by_cases hlt:j < ts.length
  ·obtain ⟨tg,tcap',he⟩:=own_some ht (by omega)
   simp only [Value.slice.injEq,true_and] at he
   obtain ⟨rfl,rfl⟩:=he
   have t0:=(ht.cellAt (j * 2) (by omega)).trans (tcells_at ts j hlt)
   have ltg:tg < w.heap.size:=(ht.lt tg rfl).2
   have p3:=(hb.cell (p:=⟨tg,j * 2,none⟩) ltg).trans t0
   have htk:ts.take (j + 1) = ts.take j ++ [ts[j]]:=List.take_succ_eq_append_getElem hlt
   have HTK:Hid _:=htk
   clear htk t0
   have hVlt:(ts[j].1:Int) < nv:=HV.out.2 ts[j] (List.getElem_mem hlt)
   by_cases hneg:ts[j].1 < 0
   ·go_wp2_with fail
    go_roundw
    case rel => exact ⟨j + 1,by omega,by go_num,by rw [HTK.out,bls_neg _ _ _ hneg];exact hown,hb⟩
    case measure => simp [intOf];omega
   ·obtain ⟨v,hv⟩:∃ v:Nat,ts[j].1 = (v:Int):=⟨ts[j].1.toNat,by omega⟩
    rw [hv] at p3 hVlt
    have HVE:Hid (ts[j].1 = (v:Int)):=hv
    clear hv hneg
    have hvn:v < nv:=by omega
    have st:=hown.stored v (.bool true)
    have s0:=hown.cellAt v (by omega)
    have s0':wr.cell? ⟨w.heap.size,v,none⟩ = some (.bool ((ts.take j).any fun t => t.1 == (v:Int))):=by
     rw [s0];simp [bls,List.getElem?_map,List.getElem?_range hvn]
    have f0:=hown.frozenAt v
    have ST:Hid _:=st
    clear s0 st
    go_wp2_with fail
    go_roundw
    case rel => exact ⟨j + 1,by omega,by go_num,by rw [HTK.out,bls_pos _ _ _ v HVE.out];exact ST.out.1,hb.setCell (p:=⟨w.heap.size,v,none⟩) (Nat.le_refl _) _⟩
    case measure => simp [intOf];omega
  ·go_wp2_with fail
   go_ret
   refine ⟨_,_,rfl,?_,hb⟩
   rw [List.take_of_length_le (by omega)] at hown
   exact hown
def hasV (ts:List (Int × Int)) (v:Nat):Bool:=ts.any fun t => t.1 == (v:Int)
def tsAt (l:List AD) (i:Nat):List (Int × Int):=((l.map AD.ts)[i]?).getD []
theorem tsAt_eq (l:List AD) (i:Nat) (h:i < l.length):tsAt l i = l[i].ts:=by simp [tsAt,h]
def shr (l:List AD) (i j k v:Nat):Bool:=hasV (tsAt l i) v && hasV (tsAt l j) v && !hasV (tsAt l k) v
def earJ (nv:Nat) (l:List AD) (i k j:Nat):Bool:=(List.range nv).all fun v => !shr l i j k v
def earB (nv:Nat) (left:List Bool) (l:List AD) (i k:Nat):Bool:=(List.range l.length).all fun j => !(left.getD j false) || j == i || earJ nv l i k j
theorem all_yes {n:Nat} {p:Nat -> Bool} (h:∀ j,j < n -> p j = true):(List.range n).all p = true:=by
 rw [List.all_eq_true];intro x hx;exact h x (List.mem_range.1 hx)
theorem all_no {n:Nat} {p:Nat -> Bool} (k:Nat) (hk:k < n) (h:p k = false):(List.range n).all p = false:=by
 rw [List.all_eq_false];exact ⟨k,List.mem_range.2 hk,by simp [h]⟩
theorem bls_at {w:World} {base g nv cap:Nat} {ts:List (Int × Int)} (h:w.ownsRow base 4 1 (.slice (some ⟨g,0,none⟩) nv cap) nv (bls nv ts)) (v:Nat) (hv:v < nv):w.cell? ⟨g,v,none⟩ = some (.bool (hasV ts v)):=by
 rw [h.cellAt v (by omega)];simp [bls,List.getElem?_map,List.getElem?_range hv,hasV]
theorem bools_at {w:World} {base g n cap:Nat} {bs:List Bool} (h:w.ownsRow base 4 1 (.slice (some ⟨g,0,none⟩) n cap) n (bs.map Value.bool)) (hl:bs.length = n) (j:Nat) (hj:j < n):w.cell? ⟨g,j,none⟩ = some (.bool (bs.getD j false)):=by
 rw [h.cellAt j (by omega)];simp [List.getElem?_map,List.getElem?_eq_getElem (show j < bs.length by omega)]
theorem ear_any (qb base nv i k lg lcap lb : Nat) (l : List AD) (left : List Bool) (w : World) (h : QSt w qb base nv l) (hi : i < l.length) (hk : k < l.length) (hl : l.length ≤ 100) (hnv : nv ≤ 1000)
    (hleft : w.ownsRow lb 4 1 (.slice (some ⟨lg, 0, none⟩) l.length lcap) l.length (left.map Value.bool)) (hll : left.length = l.length) :
    Calls Tryz.prog 129 #[.pointer (some ⟨qb, 0, none⟩), .slice (some ⟨lg, 0, none⟩) l.length lcap, .int .i64 i, .int .i64 k] w fun x w' => x = .returned (.bool (earB nv left l i k)) ∧ Below w.heap.size w w' := by
  go_enter Tryz.func129, Tryz.ntmps129
  go_wp2_with fail
  refine (vars_any qb base nv i l _ h hi hl hnv).mono ?_
  rintro e w1 ⟨gm, capm, rfl, hm1, hb1⟩
  have h1 := h.below hb1
  go_wp2_with fail
  refine (vars_any qb base nv k l _ h1 hk hl hnv).mono ?_
  rintro e w2 ⟨gk, capk, rfl, hk2, hb2⟩
  have h2 := h1.below hb2
  have hm2 := own_below hm1 hb2
  have hb02 : Below w.heap.size w w2 := hb1.trans (hb2.mono hb1.size)
  have hleft2 := own_below hleft hb02
  rw [← tsAt_eq l i hi] at hm2
  rw [← tsAt_eq l k hk] at hk2
  clear hm1 hb1 hb2 h1 h hleft
  go_wp2_with fail
  go_loopw [11, 12, 13] (fun jv _ _ wr => ∃ j : Nat, j ≤ l.length ∧ jv = .int .i64 j ∧ Below w2.heap.size w2 wr ∧ ∀ j', j' < j → (!(left.getD j' false) || j' == i || earJ nv l i k j') = true) (fun jv _ _ _ => l.length - (intOf jv).toNat)
  case atStart => exact ⟨0, Nat.zero_le _, rfl, Below.refl _ _, fun _ h => absurd h (Nat.not_lt_zero _)⟩
  case round =>
    obtain ⟨j, hj, rfl, hb, hall⟩ := hrel
    have HALL : Hid (∀ j', j' < j → (!(left.getD j' false) || j' == i || earJ nv l i k j') = true) := hall
    clear hall
    have hstep : ∀ (b : Prop), (!(left.getD j false) || j == i || earJ nv l i k j) = true → Hid (∀ j', j' < j + 1 → (!(left.getD j' false) || j' == i || earJ nv l i k j') = true) := by
      intro _ hx j' hj'
      by_cases e : j' = j
      · rw [e]; exact hx
      · exact HALL.out j' (by omega)
    have HSTEP : Hid _ := hstep
    clear hstep
    by_cases hlt : j < l.length
    · have c1 := (hb.cell (p := ⟨lg, j, none⟩) (by have := (hleft2.lt lg rfl).2; exact this)).trans (bools_at hleft2 hll j hlt)
      cases hlf : left.getD j false
      · rw [hlf] at c1
        go_wp2_with fail
        go_roundw
        case rel => exact ⟨j + 1, by omega, by go_num, hb, (HSTEP.out True (by rw [hlf]; rfl)).out⟩
        case measure => simp [intOf]; omega
      · rw [hlf] at c1
        cases hji : ((j : Int) == (i : Int))
        · have h3 := h2.below hb
          go_wp2_with fail
          refine (vars_any qb base nv j l _ h3 hlt hl hnv).mono ?_
          rintro e w3 ⟨go, capo, rfl, ho3, hb3⟩
          rw [← tsAt_eq l j hlt] at ho3
          have hb23 : Below w2.heap.size w2 w3 := hb.trans (hb3.mono hb.size)
          have hm3 := own_below hm2 hb23
          have hk3 := own_below hk2 hb23
          have HJI : Hid (¬ j = i) := by have := beq_eq_false_iff_ne.1 hji; unfold Hid; omega
          go_wp2_with fail
          go_loop [13] (fun v => ∃ u : Nat, u ≤ nv ∧ v = .int .i64 u ∧ ∀ u', u' < u → shr l i j k u' = false) (fun v => nv - (intOf v).toNat)
          case atStart => exact ⟨0, Nat.zero_le _, rfl, fun _ h => absurd h (Nat.not_lt_zero _)⟩
          case round =>
            obtain ⟨u, hu, rfl, hsh⟩ := hrel
            have HSH : Hid (∀ u', u' < u → shr l i j k u' = false) := hsh
            clear hsh
            by_cases hul : u < nv
            · have m1 := bls_at hm3 u hul
              have m2 := bls_at hk3 u hul
              have m3 := bls_at ho3 u hul
              have hdef : Hid (shr l i j k u = (hasV (tsAt l i) u && hasV (tsAt l j) u && !hasV (tsAt l k) u)) := rfl
              cases e1 : hasV (tsAt l i) u
              · rw [e1] at m1
                have hno : Hid (shr l i j k u = false) := by unfold Hid; rw [hdef.out, e1]; rfl
                go_wp2_with fail
                go_round
                case rel => exact ⟨u + 1, by omega, by go_num, fun u' hu' => by
                  by_cases e : u' = u
                  · rw [e]; exact hno.out
                  · exact HSH.out u' (by omega)⟩
                case measure => simp [intOf]; omega
              · cases e2 : hasV (tsAt l j) u
                · rw [e1] at m1
                  rw [e2] at m3
                  have hno : Hid (shr l i j k u = false) := by unfold Hid; rw [hdef.out, e1, e2]; rfl
                  go_wp2_with fail
                  go_round
                  case rel => exact ⟨u + 1, by omega, by go_num, fun u' hu' => by
                    by_cases e : u' = u
                    · rw [e]; exact hno.out
                    · exact HSH.out u' (by omega)⟩
                  case measure => simp [intOf]; omega
                · cases e3 : hasV (tsAt l k) u
                  · rw [e1] at m1
                    rw [e2] at m3
                    rw [e3] at m2
                    have hyes : Hid (shr l i j k u = true) := by unfold Hid; rw [hdef.out, e1, e2, e3]; rfl
                    go_wp2_with fail
                    go_ret
                    refine ⟨ret_bool ?_, hb02.trans (hb23.mono hb02.size)⟩
                    unfold earB
                    rw [all_no j hlt]
                    rw [hlf, beq_eq_false_iff_ne.2 HJI.out]
                    unfold earJ
                    rw [all_no u hul (by rw [hyes.out]; rfl)]; rfl
                  · rw [e1] at m1
                    rw [e2] at m3
                    rw [e3] at m2
                    have hno : Hid (shr l i j k u = false) := by unfold Hid; rw [hdef.out, e1, e2, e3]; rfl
                    go_wp2_with fail
                    go_round
                    case rel => exact ⟨u + 1, by omega, by go_num, fun u' hu' => by
                      by_cases e : u' = u
                      · rw [e]; exact hno.out
                      · exact HSH.out u' (by omega)⟩
                    case measure => simp [intOf]; omega
            · have hej : Hid (earJ nv l i k j = true) := by unfold Hid earJ; exact all_yes (fun u' hu' => by rw [HSH.out u' (by omega)]; rfl)
              go_wp2_with fail
              go_roundw
              case rel => exact ⟨j + 1, by omega, by go_num, hb23, (HSTEP.out True (by rw [hej.out]; simp)).out⟩
              case measure => simp [intOf]; omega
        · go_wp2_with fail
          go_roundw
          case rel => exact ⟨j + 1, by omega, by go_num, hb, (HSTEP.out True (by have : j = i := by have := beq_iff_eq.1 hji; omega
                                                                                 rw [this]; simp)).out⟩
          case measure => simp [intOf]; omega
    · go_wp2_with fail
      go_ret
      exact ⟨ret_bool (by unfold earB; rw [all_yes (fun j' hj' => HALL.out j' (by omega))]), hb02.trans (hb.mono hb02.size)⟩
def pairB (nv:Nat) (left:List Bool) (l:List AD) (i k:Nat):Bool:=left.getD i false && left.getD k false && !(i == k) && earB nv left l i k
def goneB (nv:Nat) (left:List Bool) (l:List AD) (i:Nat):Bool:=(List.range l.length).any fun k => pairB nv left l i k
def gone1 (nv:Nat) (left:List Bool) (l:List AD):Option Nat:=(List.range l.length).find? fun i => goneB nv left l i
def cyc (nv:Nat) (l:List AD):Nat -> List Bool -> Bool
 | 0,_ => false
 | n + 1,left => match gone1 nv left l with
  | none => true
  | some g => cyc nv l n (left.set g false)
theorem find_none {n:Nat} {p:Nat -> Bool} (h:∀ j,j < n -> p j = false):(List.range n).find? p = none:=by
 rw [List.find?_eq_none];intro x hx;simp [h x (List.mem_range.1 hx)]
theorem find_some {n:Nat} {p:Nat -> Bool} (g:Nat) (hg:g < n) (hp:p g = true) (h:∀ j,j < g -> p j = false):(List.range n).find? p = some g:=by
 rw [List.find?_range_eq_some]
 exact ⟨hp,List.mem_range.2 hg,fun j hj => by simp [h j hj]⟩
theorem any_no {n:Nat} {p:Nat -> Bool} (h:∀ j,j < n -> p j = false):(List.range n).any p = false:=by
 rw [List.any_eq_false];intro x hx;simp [h x (List.mem_range.1 hx)]
theorem any_yes {n:Nat} {p:Nat -> Bool} (k:Nat) (hk:k < n) (h:p k = true):(List.range n).any p = true:=by
 rw [List.any_eq_true];exact ⟨k,List.mem_range.2 hk,h⟩
theorem bools_true (n j:Nat) (hj:j < n):(List.replicate j true ++ List.replicate (n - j) false).set j true = List.replicate (j + 1) true ++ List.replicate (n - (j + 1)) false:=by
 rw [show n - j = (n - (j + 1)) + 1 by omega,List.replicate_succ,List.set_append_right _ _ (by simp)]
 simp [List.replicate_succ']
theorem Cyclic_any (qb base nv:Nat) (l:List AD) (w:World) (h:QSt w qb base nv l) (hl:l.length <= 100) (hnv:nv <= 1000) :
  Calls Tryz.prog 97 #[.pointer (some ⟨qb,0,none⟩)] w fun x w' => x = .returned (.bool (cyc nv l (l.length - 1) (List.replicate l.length true))) /\ Below w.heap.size w w':=by
 obtain ⟨va,vcap,hv,av,hq,har⟩:=h.ex
 obtain ⟨aa,acap,rfl⟩:=own_form har
 have q2:w.cell? ⟨qb,2,none⟩ = some (.slice aa l.length acap):=by simp [World.cell?,hq]
 clear hq har
 obtain ⟨i0,hi0,hz0,hz1,hz2⟩:=info_parts Tryz.info4
 go_enter Tryz.func97,Tryz.ntmps97
 go_wp2_with (at_make;refine wpList_make_full _ rfl (.tmp 14) (.tmp 14) 228 rfl w.heap.size 4 i0 (.bool false) 1 Tryz.underlying228 hi0 hz0 hz1 .i64 .i64 (l.length:Int) (l.length:Int) l.length rfl rfl rfl rfl (by rw [hz2];omega) (by unfold maxLen;omega) (Nat.le_refl _) ?_;intro w1 hown1 hgrow1)
 rw [made_bools] at hown1
 have hb1:Below w.heap.size w w1:=(Below.refl _ _).grown hgrow1 (Nat.le_refl _) (fun k e => by cases e)
 clear hgrow1 hi0 hz0 hz1 hz2 q2
 generalize hC:cyc nv l (l.length - 1) (List.replicate l.length true) = C
 have HC:Hid (cyc nv l (l.length - 1) (List.replicate l.length true) = C):=hC
 clear hC
 go_loopw [4] (fun jv wr => ∃ j:Nat,j <= l.length /\ jv = .int .i64 j /\ wr.ownsRow w.heap.size 4 1 (.slice (some ⟨w.heap.size,0,none⟩) l.length l.length) l.length ((List.replicate j true ++ List.replicate (l.length - j) false).map Value.bool) /\ Below w.heap.size w wr) (fun jv _ => l.length - (intOf jv).toNat)
 case atStart => exact ⟨0,Nat.zero_le _,rfl,by simpa using hown1,hb1⟩
 case round =>
  obtain ⟨j,hj,rfl,hown,hb⟩:=hrel
  by_cases hlt:j < l.length
  ·have st:=hown.stored j (.bool true)
   have s0:=bools_at hown (by simp;omega) j hlt
   have f0:=hown.frozenAt j
   have ST:Hid _:=st
   clear st
   go_wp2_with fail
   go_roundw
   case rel =>
    refine ⟨j + 1,by omega,by go_num,?_,hb.setCell (p:=⟨w.heap.size,j,none⟩) (Nat.le_refl _) _⟩
    have:=ST.out.1
    rw [← bools_true l.length j hlt,List.map_set]
    exact this
   case measure => simp [intOf];omega
  ·have hjl:j = l.length:=by omega
   subst hjl
   simp only [Nat.sub_self,List.replicate_zero,List.append_nil] at hown
   obtain ⟨w3,hw3⟩:∃ w3:World,w3 = wr:=⟨_,rfl⟩
   subst hw3
   go_wp2_with fail
   go_loopw [5,6,7,8,9] (fun nn _ _ _ _ wr => ∃ (m:Nat) (left:List Bool),m <= l.length /\ nn = .int .i64 m /\ left.length = l.length /\ wr.ownsRow w.heap.size 4 1 (.slice (some ⟨w.heap.size,0,none⟩) l.length l.length) l.length (left.map Value.bool) /\ Below w.heap.size w wr /\ cyc nv l (m - 1) left = C) (fun nn _ _ _ _ _ => (intOf nn).toNat)
   case atStart => exact ⟨l.length,_,Nat.le_refl _,rfl,by simp,hown,hb,HC.out⟩
   case round =>
    obtain ⟨m,left,hm,rfl,hleft,hown5,hb5,hc⟩:=hrel
    have HCC:Hid (cyc nv l (m - 1) left = C):=hc
    clear hc
    by_cases hm1:1 < m
    ·obtain ⟨w5,hw5⟩:∃ w5:World,w5 = wr:=⟨_,rfl⟩
     subst hw5
     have lB:w.heap.size < w5.heap.size:=(hown5.lt _ rfl).2
     have hm1d:decide ((1:Int) < (m:Int)) = true:=decide_eq_true (by omega)
     go_upto_block 4 with fail
     go_cut [6,7,8,9] (fun γ _ _ _ wx => Below w5.heap.size w5 wx /\ ((γ = .int .i64 (-1) /\ gone1 nv left l = none) ∨ ∃ g:Nat,g < l.length /\ γ = .int .i64 g /\ gone1 nv left l = some g))
     case first =>
      go_wp2_with fail
      go_loopw [6,7,8,9] (fun γ iv _ _ wr => ∃ i:Nat,i <= l.length /\ iv = .int .i64 i /\ Below w5.heap.size w5 wr /\ ((γ = .int .i64 (-1) /\ ∀ i',i' < i -> goneB nv left l i' = false) ∨ ∃ g:Nat,g < l.length /\ γ = .int .i64 g /\ gone1 nv left l = some g)) (fun _ iv _ _ _ => l.length - (intOf iv).toNat)
      case atStart => exact ⟨0,Nat.zero_le _,rfl,Below.refl _ _,Or.inl ⟨rfl,fun _ h => absurd h (Nat.not_lt_zero _)⟩⟩
      case round =>
       obtain ⟨i,hi,rfl,hb6,hcase⟩:=hrel
       rcases hcase with ⟨rfl,hno⟩ | ⟨g,hg,rfl,hgone⟩
       ·have HNO:Hid (∀ i',i' < i -> goneB nv left l i' = false):=hno
        clear hno
        by_cases hil:i < l.length
        ·obtain ⟨w6,hw6⟩:∃ w6:World,w6 = wr:=⟨_,rfl⟩
         subst hw6
         go_wp2_with fail
         go_loopw [6,8,9] (fun γ kv _ wr => ∃ k:Nat,k <= l.length /\ kv = .int .i64 k /\ Below w5.heap.size w5 wr /\ ((γ = .int .i64 (-1) /\ ∀ k',k' < k -> pairB nv left l i k' = false) ∨ (γ = .int .i64 i /\ goneB nv left l i = true))) (fun _ kv _ _ => l.length - (intOf kv).toNat)
         case atStart => exact ⟨0,Nat.zero_le _,rfl,hb6,Or.inl ⟨rfl,fun _ h => absurd h (Nat.not_lt_zero _)⟩⟩
         case round =>
          obtain ⟨k,hk,rfl,hb7,hcase⟩:=hrel
          have hown7:=own_below hown5 hb7
          have h7:QSt wr qb base nv l:=(h.below hb5).below hb7
          rcases hcase with ⟨rfl,hnok⟩ | ⟨rfl,hyes⟩
          ·have HNK:Hid (∀ k',k' < k -> pairB nv left l i k' = false):=hnok
           clear hnok
           by_cases hkl:k < l.length
           ·have ci:=bools_at hown7 hleft i hil
            have ck:=bools_at hown7 hleft k hkl
            have hstep:pairB nv left l i k = false -> ∀ k',k' < k + 1 -> pairB nv left l i k' = false:=by
             intro hx k' hk'
             by_cases e:k' = k
             ·rw [e];exact hx
             ·exact HNK.out k' (by omega)
            have HST:Hid _:=hstep
            clear hstep
            have hdef:Hid (pairB nv left l i k = (left.getD i false && left.getD k false && !(i == k) && earB nv left l i k)):=rfl
            cases e1:left.getD i false
            ·rw [e1] at ci
             have hno:Hid (pairB nv left l i k = false):=by unfold Hid;rw [hdef.out,e1];rfl
             go_wp2_with fail
             go_roundw
             case rel => exact ⟨k + 1,by omega,by go_num,hb7,Or.inl ⟨rfl,HST.out hno.out⟩⟩
             case measure => simp [intOf];omega
            ·rw [e1] at ci
             cases e2:left.getD k false
             ·rw [e2] at ck
              have hno:Hid (pairB nv left l i k = false):=by unfold Hid;rw [hdef.out,e2];simp
              go_wp2_with fail
              go_roundw
              case rel => exact ⟨k + 1,by omega,by go_num,hb7,Or.inl ⟨rfl,HST.out hno.out⟩⟩
              case measure => simp [intOf];omega
             ·rw [e2] at ck
              cases e3:((i:Int) != (k:Int))
              ·have hno:Hid (pairB nv left l i k = false):=by
                have:i = k:=by have:=(bne_eq_false_iff_eq.1 e3);omega
                unfold Hid;rw [hdef.out,this];simp
               go_wp2_with fail
               go_roundw
               case rel => exact ⟨k + 1,by omega,by go_num,hb7,Or.inl ⟨rfl,HST.out hno.out⟩⟩
               case measure => simp [intOf];omega
              ·have hne:Hid ((i == k) = false):=by have:=bne_iff_ne.1 e3;exact beq_eq_false_iff_ne.2 (by omega)
               have hdef2:Hid (pairB nv left l i k = earB nv left l i k):=by unfold Hid;rw [hdef.out,e1,e2,hne.out];simp
               go_wp2_with fail
               refine (ear_any qb base nv i k w.heap.size l.length w.heap.size l left _ h7 hil hkl hl hnv hown7 hleft).mono ?_
               rintro e w8 ⟨rfl,hb8⟩
               have hb78:Below w5.heap.size w5 w8:=hb7.trans (hb8.mono hb7.size)
               cases e4:earB nv left l i k
               ·go_wp2_with fail
                go_roundw
                case rel => first | exact ⟨k + 1,by omega,by go_num,hb78,Or.inl ⟨rfl,HST.out (by rw [hdef2.out];exact e4)⟩⟩ | ((repeat apply Exists.intro);exact ⟨⟨k + 1,by omega,by go_num,hb78,Or.inl ⟨rfl,HST.out (by rw [hdef2.out];exact e4)⟩⟩,rfl⟩)
                case measure => simp [intOf];omega
               ·go_wp2_with fail
                go_roundw
                case rel => first | exact ⟨k + 1,by omega,by go_num,hb78,Or.inr ⟨rfl,any_yes k hkl (by rw [hdef2.out];exact e4)⟩⟩ | ((repeat apply Exists.intro);exact ⟨⟨k + 1,by omega,by go_num,hb78,Or.inr ⟨rfl,any_yes k hkl (by rw [hdef2.out];exact e4)⟩⟩,rfl⟩)
                case measure => simp [intOf];omega
           ·have hgi:Hid (goneB nv left l i = false):=by unfold Hid goneB;exact any_no (fun k' hk' => HNK.out k' (by omega))
            go_wp2_with fail
            go_roundw
            case rel => exact ⟨i + 1,by omega,by go_num,hb7,Or.inl ⟨rfl,fun i' hi' => by
             by_cases e:i' = i
             ·rw [e];exact hgi.out
             ·exact HNO.out i' (by omega)⟩⟩
            case measure => simp [intOf];omega
          ·have hgg:Hid (gone1 nv left l = some i):=by unfold Hid gone1;exact find_some i hil hyes (fun j hj => HNO.out j hj)
           by_cases hkl:k < l.length
           all_goals
            go_wp2_with fail
            go_roundw
            case rel => exact ⟨i + 1,by omega,by go_num,hb7,Or.inr ⟨i,hil,rfl,hgg.out⟩⟩
            case measure => simp [intOf];omega
        ·go_wp2_with fail
         go_meet
         exact ⟨hb6,Or.inl ⟨rfl,find_none (fun j hj => HNO.out j (by omega))⟩⟩
       ·have HG:Hid (gone1 nv left l = some g):=hgone
        clear hgone
        by_cases hil:i < l.length
        all_goals
         go_wp2_with fail
         go_meet
         exact ⟨hb6,Or.inr ⟨g,hg,rfl,HG.out⟩⟩
     case rest =>
      obtain ⟨hb9,hcase⟩:=hcut
      have hown9:=own_below hown5 hb9
      have hb09:Below w.heap.size w wc:=hb5.trans (hb9.mono (by omega))
      rcases hcase with ⟨rfl,hgone⟩ | ⟨g,hg,rfl,hgone⟩
      ·have HR:Hid (true = cyc nv l (l.length - 1) (List.replicate l.length true)):=by
        unfold Hid;rw [HC.out,← HCC.out,show m - 1 = (m - 2) + 1 by omega,cyc,hgone]
       clear hgone
       go_wp2_with fail
       go_ret
       exact ⟨ret_bool HR.out,hb09⟩
      ·have HR:Hid (cyc nv l (m - 1 - 1) (left.set g false) = C):=by
        unfold Hid;rw [← HCC.out,show m - 1 = (m - 2) + 1 by omega,cyc,hgone];rfl
       clear hgone
       have st:=hown9.stored g (.bool false)
       have s0:=bools_at hown9 hleft g hg
       have f0:=hown9.frozenAt g
       have ST:Hid _:=st
       clear st
       go_wp2_with fail
       go_roundw
       case rel =>
        refine ⟨m - 1,left.set g false,by omega,?_,by simpa using hleft,?_,hb09.setCell (p:=⟨w.heap.size,g,none⟩) (Nat.le_refl _) _,HR.out⟩
        ·have:((m - 1:Nat):Int) = (m:Int) - 1:=by omega
         rw [this]
        ·rw [List.map_set];exact ST.out.1
       case measure => simp [intOf];omega
    ·go_wp2_with fail
     go_ret
     refine ⟨ret_bool ?_,hb5⟩
     rw [HC.out,← HCC.out,show m - 1 = 0 by omega];rfl
end Go.Proofs.YtondkinefmjpjaaGreat.K
