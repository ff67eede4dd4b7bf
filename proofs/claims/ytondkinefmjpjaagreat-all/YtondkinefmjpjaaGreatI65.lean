import Derived.BigQuiet
import Derived.Test.YtondkinefmjpjaaGreatI22
import Derived.Test.YtondkinefmjpjaaGreatI31
import Derived.Test.YtondkinefmjpjaaGreatI32
import Derived.Test.YtondkinefmjpjaaGreatI37
import Derived.Test.YtondkinefmjpjaaGreatI50
import Derived.Test.YtondkinefmjpjaaGreatI54
import Derived.Test.YtondkinefmjpjaaGreatI59
set_option maxHeartbeats 8000000
set_option maxRecDepth 100000
namespace Go.Proofs.YtondkinefmjpjaaGreat
open Go.RowKit
theorem cloneI_any (g n cap:Nat) (xs:List Int) (w:World) (hl:xs.length = n) (hn:n <= 100) (hc:∀ j,j < n -> w.cell? ⟨g,j,none⟩ = some (.int .i64 (xs.getD j 0))) :
  Calls Tryz.prog 60 #[.slice (some ⟨g,0,none⟩) n cap] w fun e w' => ∃ v,e = .returned v /\ ∃ ua uc,v = .slice ua n uc /\ w'.ownsRow w.heap.size 3 1 (.slice ua n uc) n (i64s xs) /\ Below w.heap.size w w':=by
 obtain ⟨i0,hi,hz0,hz1,hz2⟩:=info_parts Tryz.info3
 have HI:Hid _:=hi
 have HZ0:Hid _:=hz0
 have HZ1:Hid _:=hz1
 have HZ2:Hid _:=hz2
 have HC:Hid (∀ j u,(i64s xs)[j]? = some u -> (w.alloc (.cells #[] 3)).cell? ((⟨g,0,none⟩:Addr).add j) = some u):=fun j u hj => by
  have hjl:j < xs.length:=by
   have:=(List.getElem?_eq_some_iff.1 hj).1
   simpa [i64s] using this
  rw [i64s_at xs j hjl] at hj
  cases hj
  have h1:=hc j (by omega)
  have h2:(w.alloc (.cells #[] 3)).cell? ⟨g,j,none⟩ = some (.int .i64 (xs.getD j 0)):=cell_of_block h1 (Below.heap_alloc _ _ _ (World.block_lt_of_cell? _ _ h1))
  by_cases hj0:j = 0
  ·subst hj0;simpa [Addr.add] using h2
  ·simpa [Addr.add,hj0] using h2
 have HL:Hid (xs.length = n):=hl
 have HO:Hid ((w.alloc (.cells #[] 3)).ownsRow w.heap.size 3 1 (.slice (some ⟨w.heap.size,0,none⟩) 0 0) 0 []):=⟨rfl,.inr ⟨w.heap.size,0,#[],rfl,Nat.le_refl _,vheap_alloc_new _ _,Nat.le_refl _,by unfold maxLen;omega,rfl,rfl⟩⟩
 have heq:∀ u:World,(binOp .eql 28 (.slice (some ⟨g,0,none⟩) n cap) (.slice none 0 0)).run Tryz.prog u = .ok (.bool false) u:=fun u => by
  have h1:∀ d:Nat,(Op.equalIn (d + 1) 28 (.slice (some ⟨g,0,none⟩) n cap) (.slice none 0 0)).run Tryz.prog u = .ok false u:=fun d => by simp [Op.equalIn,run_underlying Tryz.underlying28]
  have h2:(Op.equal 28 (.slice (some ⟨g,0,none⟩) n cap) (.slice none 0 0)).run Tryz.prog u = .ok false u:=h1 9999
  simp [binOp,h2]
 clear hi hz0 hz1 hz2 hc hl
 go_enter Tryz.func60,Tryz.ntmps60
 go_wp2_with (at_builtin;refine wpList_append_own _ rfl (.tmp 5) (.tmp 6) 28 rfl w.heap.size 3 i0 (.int .i64 0) 1 8 Tryz.underlying28 HI.out HZ0.out HZ1.out HZ2.out rfl (by decide) (.slice (some ⟨w.heap.size,0,none⟩) 0 0) 0 [] rfl HO.out ⟨g,0,none⟩ n cap (i64s xs) rfl (by rw [show (i64s xs).length = xs.length from List.length_map _,HL.out];omega) HC.out (by intro u hu;obtain ⟨y,_,rfl⟩:=List.mem_map.1 hu;rfl) (by unfold maxLen;omega) (by omega) (by simp) ?_;intro v6 w6 hown6 hgrow6 hx6;clear hx6;obtain ⟨ua,uc,rfl⟩:=vown_form hown6)
 go_ret
 refine ⟨_,rfl,ua,uc,rfl,by simpa using hown6,((Below.refl _ _).alloc (Nat.le_refl _) _).grown hgrow6 (by simp) (fun k hk => ?_)⟩
 simp [Value.ownBlock] at hk
 omega
theorem enter60:∀ vs u,(callFunc 60 vs).run Tryz.prog u = .ok (.enter 60 vs) u:=enters_of Tryz.func60 (by kernel_rfl) rfl
theorem rel1_any (VB RB vb:Nat) (P:PlanD) (r:Nat) (hr:r < P.rels.length) (h3:(P.rel r).2.1 <= 3) (t:List Int) (ht:t.length = 3) (w:World) (hP:PlanSt w vb P) (c1:w.cell? ⟨VB,0,none⟩ = some (.pointer (some ⟨vb,0,none⟩))) (c2:w.cell? ⟨RB,0,none⟩ = some (.int .i64 r)) :
  Calls Tryz.prog 59 #[.agg (i64s t).toArray,.pointer (some ⟨VB,0,none⟩),.pointer (some ⟨RB,0,none⟩)] w fun e w' => ∃ ua uc,e = .returned (.slice ua (P.rel r).2.1 uc) /\ w'.ownsRow (w.heap.size + 1) 3 1 (.slice ua (P.rel r).2.1 uc) (P.rel r).2.1 (i64s (t.take (P.rel r).2.1)) /\ Below w.heap.size w w':=by
 obtain ⟨lg,lcap,aa,ac,bat,c4,c4t,_,_⟩:=hP.relat hr
 obtain ⟨N,hN⟩:∃ N,(P.rel r).2.1 = N:=⟨_,rfl⟩
 rw [hN] at c4t h3 ⊢
 obtain ⟨a0,a1,a2,hae⟩:=three t ht
 have hA:(i64s t).toArray = #[.int .i64 a0,.int .i64 a1,.int .i64 a2]:=by rw [hae];rfl
 rw [hA]
 have l1:=World.block_lt_of_cell? _ _ c1
 have l2:=World.block_lt_of_cell? _ _ c2
 have l3:=World.block_lt_of_cell? _ _ c4
 have l4:=World.block_lt_of_cell? _ _ c4t
 have brl:(r:Int) < (P.rels.length:Int):=by omega
 have bN:(N:Int) <= 3:=by omega
 have hba:Below w.heap.size w (w.alloc (.cells #[.int .i64 a0,.int .i64 a1,.int .i64 a2] 110)).drew:=((Below.refl _ _).alloc (Nat.le_refl _) _).drew
 have CL:=cloneI_any w.heap.size N 3 (t.take N) (w.alloc (.cells #[.int .i64 a0,.int .i64 a1,.int .i64 a2] 110)).drew (by rw [List.length_take];omega) (by omega) (fun j hj => by
  have hb:(w.alloc (.cells #[.int .i64 a0,.int .i64 a1,.int .i64 a2] 110)).drew.heap[w.heap.size]? = some (.cells #[.int .i64 a0,.int .i64 a1,.int .i64 a2] 110 (0,0)):=vheap_alloc_new _ _
  have e:(t.take N).getD j 0 = t.getD j 0:=by rw [List.getD_eq_getElem?_getD,List.getD_eq_getElem?_getD,List.getElem?_take,if_pos hj]
  rw [e,hae]
  match j,hj with
  | 0,_ => (unfold World.cell?;rw [hb];rfl)
  | 1,_ => (unfold World.cell?;rw [hb];rfl)
  | 2,_ => (unfold World.cell?;rw [hb];rfl)
  | j + 3,hj => omega)
 have HBA:Hid _:=hba
 clear hP hN hae hA hba
 go_enter Tryz.func59,Tryz.ntmps59
 go_wp2_with fail
 go_region_law (refine step_call rfl 60 #[.tmp 14] #[28] rfl enter60 #[.slice (some ⟨w.heap.size,0,none⟩) N 3] (by kernel_rfl) _ CL ?_;rintro v1 w2 ⟨ua,uc,rfl,ho,hb⟩)
 all_goals go_wp2_with fail
 all_goals go_ret
 all_goals exact ⟨ua,uc,rfl,by simpa using ho,HBA.out.trans (hb.mono HBA.out.size)⟩
end Go.Proofs.YtondkinefmjpjaaGreat
namespace Go.Proofs.YtondkinefmjpjaaGreat
open Go.RowKit Go.WideMaps Go.WideElems Go.Maps
theorem key3_inv {P:Program} {k e:TypeId} (A:ArrKey P k e 3) (he:P.underlying e = some (.int .i64)) (hsz:∃ m,P.types.size = m + 1) {key:Value} {kl:Lit} (h:keyOf P k key = some kl) :
  ∃ a:List Int,a.length = 3 /\ wfA a /\ key = .agg (i64s a).toArray /\ kl = klOf a:=by
 obtain ⟨m,hm⟩:=hsz
 unfold keyOf at h
 simp only [A.hu] at h
 rw [hm] at h
 split at h
 ·rename_i hf
  obtain ⟨ls,h1,h2⟩:=Option.map_eq_some_iff.1 h
  unfold Program.keyLits at h1
  simp only [A.hu] at h1
  split at h1
  ·rename_i hlen
   rw [A.size] at hlen
   obtain ⟨lss,h3,h4⟩:=Option.map_eq_some_iff.1 h1
   have hform:∃ cs,key = .agg cs:=by
    rw [Bool.and_eq_true] at hf
    have:=hf.2
    cases key <;> simp [Value.formed,A.hu] at this
    exact ⟨_,rfl⟩
   obtain ⟨cs,rfl⟩:=hform
   simp only [Value.cells] at hlen h3
   obtain ⟨l⟩:=cs
   simp only at hlen h3
   match l,hlen,h3 with
   | [v0,v1,v2],_,h3 =>
    rw [show List.range 3 = [0,1,2] from rfl] at h3
    simp only [List.mapM_cons,List.mapM_nil,A.one,Option.bind_eq_bind,Option.pure_def,Option.bind_eq_some_iff,Option.some.injEq] at h3
    obtain ⟨l0,e0,_,⟨l1,e1,_,⟨l2,e2,_,rfl,rfl⟩,rfl⟩,rfl⟩:=h3
    obtain ⟨x0,c0,rfl,w0⟩:=lit_int he e0
    obtain ⟨x1,c1,rfl,w1⟩:=lit_int he e1
    obtain ⟨x2,c2,rfl,w2⟩:=lit_int he e2
    simp at c0 c1 c2
    subst c0 c1 c2
    refine ⟨[x0,x1,x2],rfl,?_,rfl,?_⟩
    ·intro x hx
     simp at hx
     rcases hx with rfl | rfl | rfl <;> assumption
    ·rw [← h2,← h4];simp [klOf]
  ·cases h1
 ·cases h
theorem keyT_inv {key:Value} {kl:Lit} (h:keyOf Tryz.prog 110 key = some kl):∃ a:List Int,a.length = 3 /\ wfA a /\ key = .agg (i64s a).toArray /\ kl = klOf a :=
 key3_inv arrT Tryz.underlying3 typesSize h
theorem wpList_next_T (w:World) {ops:Array Oper} {rest:List Oper} {o:Oper} {a:Act} {Q:Exit -> Act -> World -> Prop} (hg:o.guard = none) (it:Operand) (hop:o.op = Op.next it false) (b r n:Nat) (D:DataW Unit) (left:Lit -> Bool) (cnt:Nat) (hit:a.eval it = .pointer (some ⟨r,0,none⟩)) (h:w.ranges Tryz.prog 110 (plainElem Tryz.prog 3) b r n D left cnt)
  (hDone:(∀ kl,left kl = false) -> wpList Tryz.prog ops Q rest (a.put o.dst (.tuple #[.bool false])) w)
  (hMore:∀ (x0 x1 x2 c:Int) (w':World) (cnt':Nat),left (klOf [x0,x1,x2]) = true -> (∀ zd,D.atKey (klOf [x0,x1,x2]) zd = i64d c) -> wfA [x0,x1,x2] -> w'.ranges Tryz.prog 110 (plainElem Tryz.prog 3) b r n D (fun z => left z && !z.sameKey (klOf [x0,x1,x2])) cnt' -> cnt' < cnt ->
   w.grownBy w' (some r) -> w'.heap.size = w.heap.size -> (Instr.entry (.pointer (some ⟨r,0,none⟩))).run Tryz.prog w' = .ok (.tuple #[.agg #[.int .i64 x0,.int .i64 x1,.int .i64 x2],.int .i64 c]) w' -> wpList Tryz.prog ops Q rest (a.put o.dst (.tuple #[.bool true,.agg #[.int .i64 x0,.int .i64 x1,.int .i64 x2],.int .i64 c])) w') :
  wpList Tryz.prog ops Q (o :: rest) a w:=by
 refine wpList_next_ranges (α:=Int × Int × Int) (β:=Int) w hg it hop 110 (Keyed.of_law lawT) (plainElem Tryz.prog 3) (fun x => .agg #[.int .i64 x.1,.int .i64 x.2.1,.int .i64 x.2.2]) (fun c => .int .i64 c) (fun key kl hk => ?_) (fun v y hv => ?_) b r n D left cnt hit h (fun _ hl => hDone hl) ?_
 ·obtain ⟨l,hl,_,rfl,_⟩:=keyT_inv hk
  obtain ⟨a0,a1,a2,rfl⟩:=three l hl
  exact ⟨(a0,a1,a2),rfl⟩
 ·obtain ⟨c,rfl,_⟩:=plainElem_int_inv Tryz.underlying3 hv
  exact ⟨c,rfl⟩
 ·rintro ⟨x0,x1,x2⟩ c kl y w' cnt' hk hlk hv hat hrg hlt hgr hsz hen
  obtain ⟨l,hl,hw,he,rfl⟩:=keyT_inv hk
  obtain ⟨a0,a1,a2,rfl⟩:=three l hl
  simp [i64s] at he
  obtain ⟨rfl,rfl,rfl⟩:=he
  obtain ⟨c',ec,rfl,_⟩:=plainElem_int_inv Tryz.underlying3 hv
  cases ec
  exact hMore _ _ _ c w' cnt' hlk hat hw hrg hlt hgr hsz hen
theorem tellT_loop (VB RB vb:Nat) (P:PlanD) (r:Nat) (hr:r < P.rels.length) (h3:(P.rel r).2.1 <= 3) (b:Nat) (f:List Int -> Int) (w:World) (hP:PlanSt w vb P) (hc:w.cell? ⟨VB,0,none⟩ = some (.pointer (some ⟨vb,0,none⟩))) (hc2:w.cell? ⟨RB,0,none⟩ = some (.int .i64 r)) (hCF:CF 110 3 w b f) (hsm:(live 3 f).length <= 1000000)
  (Q:Ending -> World -> Prop) (hQ0:∀ w',live 3 f = [] -> Below w.heap.size w w' -> Calls Tryz.prog 68 #[.slice none 0 0,.func (.func 91) #[] #[]] w' fun e w2 => e = .returned (.tuple #[]) /\ Q (.returned (.slice none 0 0)) w2)
  (hQ:∀ w' us l a cap,RNew 55 w.heap.size w' (.slice (some a) l.length cap) us l -> 0 < l.length -> l.Perm (rowsL (fun t => t.take (P.rel r).2.1) f (live 3 f)) -> Below w.heap.size w w' -> Calls Tryz.prog 68 #[.slice (some a) l.length cap,.func (.func 91) #[] #[]] w' fun e w2 => e = .returned (.tuple #[]) /\ Q (.returned (.slice (some a) l.length cap)) w2) :
  Calls Tryz.prog 58 #[.map (some b),.func (.func 59) #[] #[.pointer (some ⟨VB,0,none⟩),.pointer (some ⟨RB,0,none⟩)]] w Q:=by
 obtain ⟨D,hown,hrep,hsz⟩:=hCF.tight (Or.inr ⟨rfl,rfl⟩)
 obtain ⟨n,hn⟩:∃ n,(live 3 f).length = n:=⟨_,rfl⟩
 rw [hn] at hown hsz
 have HN:Hid ((live 3 f).length = n):=hn
 rw [hn] at hsm
 obtain ⟨i0,hi,hz0,hz1,hz2⟩:=info_parts Tryz.info55
 have HI:Hid _:=hi
 have HZ0:Hid _:=hz0
 have HZ1:Hid _:=hz1
 have HZ2:Hid _:=hz2
 have HREP:Hid _:=hrep
 have HQ0:Hid _:=hQ0
 have HQ:Hid _:=hQ
 have HPS:Hid _:=hP
 have lb:=hown.lt
 clear hi hz0 hz1 hz2 hrep hn hQ0 hQ hP
 go_enter Tryz.func58,Tryz.ntmps58
 go_wp2_with (first | (at_range;refine wpList_range_own _ rfl _ 130 rfl 110 3 (Keyed.of_law lawT) Tryz.underlying130 (plainElem Tryz.prog 3) b n D rfl hown ?_;intro w0 hrg0 hg0 hs0) | go_in)
 go_frame
 have T0:Hid (TL 3 110 w w0 b w.heap.size n D (fun t => t.take (P.rel r).2.1) f (.slice none 0 0)) :=
  ⟨_,_,[],[],hrg0,fun _ h => h,⟨rfl,World.ownsRow_nil _ _ _ _,fun j hj => absurd hj (by simp)⟩,by rw [doneL_start (fun a ha => by rw [HREP.out.2.1 a (mem_live.1 ha).1];simpa using (mem_live.1 ha).2)];exact List.Perm.refl _,(Below.refl _ _).grown hg0 (Nat.le_refl _) (fun j hj => by cases hj),fun _ => rfl⟩
 clear hrg0 hg0 hs0
 go_loopw [5,6,7] (fun rv _ _ wr => TL 3 110 w wr b w.heap.size n D (fun t => t.take (P.rel r).2.1) f rv) (fun _ _ _ wr => wr.rangeLeft b w.heap.size)
 case atStart => exact T0.out
 case round =>
  obtain ⟨left,cnt,us,l,hrg,hleft,hrw,hperm,hb,hnl⟩:=hrel
  have ho:=hrw.2.1
  obtain ⟨ra,rcap,hrv⟩:=vown_form ho
  subst hrv
  have HRW:Hid (RNew 55 w.heap.size wr (.slice ra l.length rcap) us l):=hrw
  have HP:Hid _:=hperm
  have HLF:Hid _:=hleft
  have HB:Hid (Below w.heap.size w wr):=hb
  have hll:l.length <= n:=by
   have h1:=hperm.length_eq
   rw [rowsL,List.length_map] at h1
   have h2:=doneL_len (N:=3) (f:=f) (left:=left)
   have:=HN.out
   omega
  have hws:=hb.size
  have hc1:=(hb.cell (World.block_lt_of_cell? _ _ hc)).trans hc
  have hc3:=(hb.cell (World.block_lt_of_cell? _ _ hc2)).trans hc2
  clear hrw hperm hleft hb
  go_wp2_with (first | (at_next;refine wpList_next_T _ rfl _ rfl b w.heap.size n D _ _ rfl hrg ?_ ?_) | go_in)
  ·intro hl0
   have hp:=HP.out
   rw [doneL_end hl0] at hp
   have HP2:Hid _:=hp
   clear hl0 hp
   by_cases h0:l = []
   ·subst h0
    have hnil:live 3 f = []:=by
     have:=HP2.out.length_eq
     rw [rowsL,List.length_map] at this
     exact List.eq_nil_of_length_eq_zero this.symm
    have hrn:=hnl rfl
    simp only [Value.slice.injEq] at hrn
    obtain ⟨rfl,_,rfl⟩:=hrn
    have CALL:=HQ0.out wr hnil HB.out
    clear hnil hnl ho hc3 hc1
    go_wp2_with (go_at_call 68;refine CALL.mono ?_;rintro e w2 ⟨rfl,hq⟩)
    exact hq
   ·have hpos:0 < l.length:=List.length_pos_iff.2 h0
    obtain ⟨g,cap',he⟩:=vown_some ho hpos
    simp only [Value.slice.injEq,true_and] at he
    obtain ⟨rfl,rfl⟩:=he
    have CALL:=HQ.out wr us l _ _ HRW.out hpos HP2.out HB.out
    clear hnl ho hc3 hc1 h0
    go_wp2_with (go_at_call 68;refine CALL.mono ?_;rintro e w2 ⟨rfl,hq⟩)
    exact hq
  ·intro x0 x1 x2 cc w1 cnt1 hlx hat hwx hrg1 hlt hg1 hs1 hen
   obtain ⟨hxl,rfl⟩:=key_live (x:=[x0,x1,x2]) HREP.out (fun y hy e => klT_inj rfl (box_length hy) hwx (box_wf hy) e) (HLF.out _ hlx) hat
   obtain ⟨X,hX⟩:∃ X:List Int,[x0,x1,x2] = X:=⟨_,rfl⟩
   have hX6:(i64s X).toArray = #[.int .i64 x0,.int .i64 x1,.int .i64 x2]:=by rw [← hX];rfl
   have hXl:X.length = 3:=by rw [← hX];rfl
   rw [hX] at hxl hlx hrg1 hen ⊢
   obtain ⟨Y,hY⟩:∃ Y,Go.Proofs.YtondkinefmjpjaaGreat.wr (f X) = Y:=⟨_,rfl⟩
   rw [hY] at hen ⊢
   have nbr:b ≠ w.heap.size:=by omega
   have hb1:Below w.heap.size w w1:=HB.out.grown hg1 hws (fun j hj => by cases hj;exact Nat.le_refl _)
   have d1:=(hb1.cell (World.block_lt_of_cell? _ _ hc)).trans hc
   have d2:=(hb1.cell (World.block_lt_of_cell? _ _ hc2)).trans hc2
   have hP1:=HPS.out.fr (Fr.of_below (M:=fun _ => False) hb1) (mps_none _)
   have HV:=fun (u:World) (h:Fr (fun _ => False) w1 u) => rel1_any VB RB vb P r hr h3 X hXl u (hP1.fr h (mps_none _)) (h.cell (mps_none _) d1) (h.cell (mps_none _) d2)
   rw [hX6] at HV
   have lw1:w.heap.size < w1.heap.size:=by rw [hs1];exact hrg.lt
   have hrw1:RNew 55 w.heap.size w1 (.slice ra l.length rcap) us l:=rnew_turn HRW.out hg1 (ranges_iter hrg)
   have ho1:=hrw1.2.1
   have HRW1:Hid _:=hrw1
   have HRG1:Hid _:=hrg1
   have HB1:Hid (Below w.heap.size w w1):=hb1
   have HP1:Hid _:=hP1
   have HXL:Hid (X.length = 3):=hXl
   obtain ⟨T,hT⟩:∃ T,(P.rel r).2.1 = T:=⟨_,rfl⟩
   rw [hT] at HV h3
   have HT:Hid _:=hT
   clear hX hX6 hXl hc3 hc1 hrw1 hrg1 ho hnl hs1 hP1 d1 d2 hT
   go_wp2_with (first | (go_at_call 59;refine (HV _ (Fr.alloc _ _)).mono ?_;rintro e w2 ⟨ug,uc,rfl,ou,bu⟩) | (at_builtin;refine wpList_append_own _ rfl (.tmp 15) (.tmp 21) 31 rfl w.heap.size 55 i0 (.agg #[.slice none 0 0,.int .i64 0]) 2 32 Tryz.underlying31 HI.out HZ0.out HZ1.out HZ2.out rfl (by decide) (.slice ra l.length rcap) _ _ rfl ((vown_below (vown_below ho1 ((Below.refl _ _).alloc (Nat.le_refl _) _)) bu).alloc _) ⟨w2.heap.size,0,none⟩ 1 1 [.slice ug T uc,.int .i64 Y] rfl rfl (vtwo_new _ _ _ _) (by intro u hu;simp at hu;rcases hu with rfl | rfl <;> rfl) (by unfold maxLen;omega) (by omega) (by have:=bu.size;simp at this ⊢;omega) ?_;intro v6 w6 hown6 hgrow6 _;obtain ⟨ra6,rcap6,rfl⟩:=vown_form hown6) | go_in)
   rw [← hY] at hown6 hgrow6
   obtain ⟨t1,t2⟩:=TL.next (Or.inr rfl) hlx hxl HLF.out HRG1.out HRW1.out HP.out HB1.out (hl:=T) (by rw [List.length_take,HXL.out,HT.out];omega) bu (by rw [HT.out];exact ou) hown6 hgrow6
   exact ⟨t1,by rw [t2,hrg.left_eq];exact hlt⟩
open Go.WideMaps Go.WideElems Go.Maps in
theorem tellT_any (VB RB vb:Nat) (P:PlanD) (r:Nat) (hr:r < P.rels.length) (h3:(P.rel r).2.1 <= 3) (b:Nat) (f:List Int -> Int) (w:World) (hP:PlanSt w vb P) (hc:w.cell? ⟨VB,0,none⟩ = some (.pointer (some ⟨vb,0,none⟩))) (hc2:w.cell? ⟨RB,0,none⟩ = some (.int .i64 r)) (hCF:CF 110 3 w b f) (hsm:(live 3 f).length <= 1000000) :
  Calls Tryz.prog 58 #[.map (some b),.func (.func 59) #[] #[.pointer (some ⟨VB,0,none⟩),.pointer (some ⟨RB,0,none⟩)]] w fun e w' => ∃ v us l,e = .returned v /\ RNew 55 w.heap.size w' v us l /\ l.Perm (rowsL (fun t => t.take (P.rel r).2.1) f (live 3 f)) /\ RiseL l /\ Below w.heap.size w w':=by
 refine tellT_loop VB RB vb P r hr h3 b f w hP hc hc2 hCF hsm _ (fun w' h0 hb => ?_) (fun w' us l a cap h hpos hp hb => ?_)
 ·refine (sort_nil _ w').mono ?_
  rintro e w2 ⟨rfl,rfl⟩
  exact ⟨rfl,_,[],[],rfl,⟨rfl,World.ownsRow_nil _ _ _ _,fun j hj => absurd hj (by simp)⟩,by rw [h0];exact List.Perm.refl _,List.Pairwise.nil,hb⟩
 ·have hll:l.length <= 1000000:=by
   have:=hp.length_eq
   rw [rowsL,List.length_map] at this
   omega
  refine (sortT_new w.heap.size w' a cap us l h hpos (fun r hr => ?_) (by omega)).mono ?_
  ·have:=hp.mem_iff.1 hr
   rw [rowsL,List.mem_map] at this
   obtain ⟨x,_,rfl⟩:=this
   show (List.take _ x).length <= 6
   rw [List.length_take];omega
  ·rintro e w2 ⟨rfl,us',l',hl,hn,hp',hr,hf⟩
   refine ⟨rfl,_,us',l',rfl,by rw [← hl] at hn;rw [← hl];exact hn,hp'.trans hp,hr,?_⟩
   have hs:=hb.size
   exact ⟨hf.os.trans hb.os,hf.tape.trans hb.tape,hf.output.trans hb.output,Nat.le_trans hs hf.size,fun i hi => (hf.block i (by omega) (by omega)).trans (hb.block i hi)⟩
end Go.Proofs.YtondkinefmjpjaaGreat
namespace Go.Proofs.YtondkinefmjpjaaGreat
open Go.RowKit Go.WideMaps Go.WideElems Go.Maps Go.Shelf Go.MuLone
theorem enter58:∀ vs u,(callFunc 58 vs).run Tryz.prog u = .ok (.enter 58 vs) u:=enters_of Tryz.func58 (by kernel_rfl) rfl
theorem reads_nil (w:World):Reads w (.slice none 0 0) []:=⟨none,0,rfl,fun h => absurd h (by simp)⟩
theorem Relation_no {w:World} {vb:Nat} {P:PlanD} {rb ib:List Nat} {wb:Nat} {R:Nat -> List Int -> Int} {g:Nat -> List Int -> Option Nat} {own:Nat -> Option (Nat × List Int)} (h:VSt w vb P rb ib wb R g own) (name:ByteArray) (hI:rixOf P.rels name = -1) :
  Calls Tryz.prog 31 #[.pointer (some ⟨vb,0,none⟩),.string name] w fun e w' => e = .returned (.tuple #[.slice none 0 0,.int .i64 5]) /\ Below w.heap.size w w':=by
 obtain ⟨W,hW⟩:∃ W,(w.alloc (.cells #[.pointer (some ⟨vb,0,none⟩)] 23)).setCell ⟨vb,0,none⟩ (.int .i32 1) = W:=⟨_,rfl⟩
 obtain ⟨p1,_,_,_,p5,_,p7,_,p9⟩:=upd_lock h (reads_nil w) hW
 have RN:=relNum_at h.ok p1 name hI
 have hA:=h.fr (Fr.alloc w (.cells #[.pointer (some ⟨vb,0,none⟩)] 23))
 obtain ⟨cA,hbA⟩:=hA.hb
 have f0:=blk_free hbA 0
 have h0:=hA.h0
 have HW:Hid _:=hW
 have H9:Hid _:=p9
 have H7:Hid _:=p7
 obtain ⟨c,hb⟩:=h.hb
 have lv:=vlt_of_block hb
 clear h hA p1 hbA hW p9 p7 hb hI
 go_enter_defers Tryz.func31,Tryz.ntmps31
 go_wp2_with (first | (go_at_call 39;refine (lock_free Tryz.muLib ⟨vb,0,none⟩ _ h0 f0).mono ?_;rintro e w' ⟨rfl,rfl⟩;rw [HW.out]) | (go_at_call 44;refine RN.mono ?_;rintro e w2 ⟨rfl,hb2⟩))
 refine leaves_cons (f:=40) (args:=#[.pointer (some ⟨vb,0,none⟩)]) (by simp) (by simp [go_sem]) ?_
 obtain ⟨⟨k1,k2⟩,k3⟩:=H9.out (w2.alloc (.cells #[.int .i64 (-1)] 3)) ((hb2.alloc hb2.size _).mono (by rw [H7.out];omega))
 refine (unlock_deferred Tryz.muLib ⟨vb,0,none⟩ .returning _ k1 k2).mono ?_
 rintro e u' w3 ⟨rfl,rfl,rfl⟩
 exact ⟨_,results_tmp2 rfl _ _ _,rfl,k3⟩
theorem tellT_step (VB RB vb:Nat) (P:PlanD) (r:Nat) (hr:r < P.rels.length) (h3:(P.rel r).2.1 <= 3) (b:Nat) (f:List Int -> Int) (w:World) (hP:PlanSt w vb P) (hc:w.cell? ⟨VB,0,none⟩ = some (.pointer (some ⟨vb,0,none⟩))) (hc2:w.cell? ⟨RB,0,none⟩ = some (.int .i64 r)) (hCF:CF 110 3 w b f) (hsm:(live 3 f).length <= 1000000) :
  Calls Tryz.prog 58 #[.map (some b),.func (.func 59) #[] #[.pointer (some ⟨VB,0,none⟩),.pointer (some ⟨RB,0,none⟩)]] w fun e w' => ∃ v,e = .returned v /\ ∃ us l,RNew 55 w.heap.size w' v us l /\ l.Perm (rowsL (fun t => t.take (P.rel r).2.1) f (live 3 f)) /\ Hid (RiseL l) /\ Below w.heap.size w w':=by
 refine (tellT_any VB RB vb P r hr h3 b f w hP hc hc2 hCF hsm).mono ?_
 rintro e w' ⟨v,us,l,rfl,h⟩
 exact ⟨v,rfl,us,l,h⟩
def RelP (w w':World) (P:PlanD) (R:Nat -> List Int -> Int) (r:Nat) (e:Ending):Prop :=
 ∃ vv us l,e = .returned (.tuple #[vv,.int .i64 0]) /\ RNew 55 w.heap.size w' vv us l /\ l.Perm (rowsL (fun t => t.take (P.rel r).2.1) (R r) (live 3 (R r))) /\ RiseL l /\ Below w.heap.size w w'
theorem Relation_ok {w:World} {vb:Nat} {P:PlanD} {rb ib:List Nat} {wb:Nat} {R:Nat -> List Int -> Int} {g:Nat -> List Int -> Option Nat} {own:Nat -> Option (Nat × List Int)} (h:VSt w vb P rb ib wb R g own) (name:ByteArray) {r:Nat} (hrl:r < P.rels.length) (hI:rixOf P.rels name = (r:Int)) (h3:(P.rel r).2.1 <= 3) :
  Calls Tryz.prog 31 #[.pointer (some ⟨vb,0,none⟩),.string name] w fun e w' => RelP w w' P R r e:=by
 obtain ⟨W,hW⟩:∃ W,(w.alloc (.cells #[.pointer (some ⟨vb,0,none⟩)] 23)).setCell ⟨vb,0,none⟩ (.int .i32 1) = W:=⟨_,rfl⟩
 obtain ⟨p1,p2,_,_,p5,_,p7,p8,p9⟩:=upd_lock h (reads_nil w) hW
 have RN:=relNum_at h.ok p1 name hI
 have hA:=h.fr (Fr.alloc w (.cells #[.pointer (some ⟨vb,0,none⟩)] 23))
 obtain ⟨cA,hbA⟩:=hA.hb
 have f0:=blk_free hbA 0
 have h0:=hA.h0
 have HW:Hid _:=hW
 have H9:Hid _:=p9
 have H7:Hid (W.heap.size = w.heap.size + 1):=p7
 obtain ⟨c,hb⟩:=h.hb
 have lv:=vlt_of_block hb
 obtain ⟨cr1,_⟩:=h.cr r hrl
 have hcrW:CF 110 3 W (rb.getD r 0) (R r):=cr1.fr p8 (fun e => by obtain ⟨es,k,hm⟩:=cr1.isMap;rw [e,hb] at hm;cases hm)
 have hfew:=h.rok.few r hrl
 obtain ⟨rv,b1,r1,r2⟩:=p2
 have hrb:=h.hrb
 obtain ⟨rg,rcap,rfl⟩:=vown_some r2 (by omega)
 have r7:W.cell? ⟨rg,r,none⟩ = some (.map (some (rb.getD r 0))):=(r2.cellAt r (by omega)).trans (mapVs_at rb r (by omega))
 obtain ⟨RBB,hRBB⟩:∃ x,rb.getD r 0 = x:=⟨_,rfl⟩
 rw [hRBB] at r7 hcrW
 have HTL:Hid (∀ w2,Below W.heap.size W w2 -> Calls Tryz.prog 58 #[.map (some RBB),.func (.func 59) #[] #[.pointer (some ⟨w.heap.size,0,none⟩),.pointer (some ⟨w2.heap.size,0,none⟩)]] (w2.alloc (.cells #[.int .i64 (r:Int)] 3)).drew fun e w' => ∃ v,e = .returned v /\ ∃ us l,RNew 55 (w2.alloc (.cells #[.int .i64 (r:Int)] 3)).drew.heap.size w' v us l /\ l.Perm (rowsL (fun t => t.take (P.rel r).2.1) (R r) (live 3 (R r))) /\ Hid (RiseL l) /\ Below (w2.alloc (.cells #[.int .i64 (r:Int)] 3)).drew.heap.size (w2.alloc (.cells #[.int .i64 (r:Int)] 3)).drew w'):=fun w2 hb2 => by
  have hf:Fr (fun _ => False) W (w2.alloc (.cells #[.int .i64 (r:Int)] 3)).drew:=((fr_below hb2).trans (Fr.alloc _ _) (fun _ _ h => h)).trans (Fr.drew _) (fun _ _ h => h)
  refine tellT_step w.heap.size w2.heap.size vb P r hrl h3 RBB (R r) _ (p1.fr hf (mps_none _)) (hf.cell (mps_none _) p5) ?_ (hcrW.fr hf (fun h => h)) (by omega)
  have hnew:(w2.alloc (.cells #[.int .i64 (r:Int)] 3)).drew.heap[w2.heap.size]? = some (.cells #[.int .i64 (r:Int)] 3 (0,0)):=vheap_alloc_new _ _
  unfold World.cell?;rw [hnew];rfl
 have brl:(r:Int) < (rb.length:Int):=by omega
 have brn:¬ ((r:Int) < 0):=by omega
 clear h hA p1 hbA hW p9 p7 hb hI p8 cr1 hcrW r2 hRBB
 go_enter_defers Tryz.func31,Tryz.ntmps31
 go_upto_region 6 with (first | (go_at_call 39;refine (lock_free Tryz.muLib ⟨vb,0,none⟩ _ h0 f0).mono ?_;rintro e w' ⟨rfl,rfl⟩;rw [HW.out]) | (go_at_call 44;refine RN.mono ?_;rintro e w2 ⟨rfl,hb2⟩))
 have hf2:=fr_below hb2
 have e5:=hf2.cell (mps_none _) p5
 have e1:=hf2.cell (mps_none _) r1
 have e7:=hf2.cell (mps_none _) r7
 have l5:=World.block_lt_of_cell? _ _ e5
 have l1:=World.block_lt_of_cell? _ _ e1
 have l7:=World.block_lt_of_cell? _ _ e7
 have TELL:=HTL.out w2 hb2
 have HFIN:Hid (∀ w6 vv us l,RNew 55 (w2.alloc (.cells #[.int .i64 (r:Int)] 3)).drew.heap.size w6 vv us l -> Below (w2.alloc (.cells #[.int .i64 (r:Int)] 3)).drew.heap.size (w2.alloc (.cells #[.int .i64 (r:Int)] 3)).drew w6 -> (w6.cell? ⟨vb,0,none⟩ = some (.int .i32 1) /\ w6.frozen? ⟨vb,0,none⟩ = false) /\ RNew 55 w.heap.size (w6.setCell ⟨vb,0,none⟩ (.int .i32 0)) vv us l /\ Below w.heap.size w (w6.setCell ⟨vb,0,none⟩ (.int .i32 0))):=by
  intro w6 vv us l hn6 hb6
  have hsz:(w2.alloc (.cells #[.int .i64 (r:Int)] 3)).drew.heap.size = w2.heap.size + 1:=by simp
  have hs2:=hb2.size
  have h7:=H7.out
  have hbW:Below W.heap.size W w6:=((hb2.alloc hs2 _).drew).trans (hb6.mono (by rw [hsz];omega))
  obtain ⟨q1,q2⟩:=H9.out w6 (hbW.mono (by omega))
  exact ⟨q1,(hn6.set (p:=⟨vb,0,none⟩) (by rw [hsz];show vb < _;omega) _).weak (by rw [hsz];omega),q2⟩
 clear hf2 HTL hb2
 first | go_region_law (refine step_call rfl 58 #[.tmp 28,.tmp 29] #[130,131] rfl enter58 #[.map (some RBB),.func (.func 59) #[] #[.pointer (some ⟨w.heap.size,0,none⟩),.pointer (some ⟨w2.heap.size,0,none⟩)]] (by kernel_rfl) _ TELL ?_;rintro v1 w6 ⟨us,l,r1,r2,r3,r4⟩;obtain ⟨va6,vc6,rfl⟩:=vown_form r1.2.1) | fail
 all_goals go_wp2_with fail
 all_goals refine leaves_cons (f:=40) (args:=#[.pointer (some ⟨vb,0,none⟩)]) (by simp) (by simp [go_sem]) ?_
 all_goals obtain ⟨⟨m1,m2⟩,m3,m4⟩:=HFIN.out w6 _ us l r1 r4
 all_goals refine (unlock_deferred Tryz.muLib ⟨vb,0,none⟩ .returning _ m1 m2).mono ?_
 all_goals rintro e u' w7 ⟨rfl,rfl,rfl⟩
 all_goals exact ⟨_,results_tmp2 rfl _ _ _,.slice va6 l.length vc6,us,l,rfl,m3,r2,r3,m4⟩
end Go.Proofs.YtondkinefmjpjaaGreat
namespace Go.Proofs.YtondkinefmjpjaaGreat
open Go.RowKit
theorem alike_any (v1 v2:Value) (l:Rws) (w:World) (h1:RRead w v1 l) (h2:RRead w v2 l) (hl:SmallV l) (hn:l.length < 4611686018427387904) :
  Calls Tryz.prog 14 #[v1,v2] w fun e w' => e = .returned (.bool true) /\ Below w.heap.size w w':=by
 obtain ⟨a1,p1,rfl,r1⟩:=h1
 obtain ⟨a2,p2,rfl,r2⟩:=h2
 have R1:Hid _:=r1
 have R2:Hid _:=r2
 have HL:Hid _:=hl
 clear r1 r2 hl
 go_enter Tryz.func14,Tryz.ntmps14
 go_wp2_with fail
 go_loopw [5,6] (fun iv _ wx => ∃ i:Nat,i <= l.length /\ iv = .int .i64 i /\ Below w.heap.size w wx) (fun iv _ _ => l.length - (intOf iv).toNat)
 case atStart => exact ⟨0,Nat.zero_le _,rfl,Below.refl _ _⟩
 case round =>
  obtain ⟨i,hi,rfl,hb⟩:=hrel
  by_cases hil:i < l.length
  ·have hil':(i:Int) < (l.length:Int):=by omega
   obtain ⟨g1,o1,rfl,q1⟩:=R1.out (by omega)
   obtain ⟨g2,o2,rfl,q2⟩:=R2.out (by omega)
   obtain ⟨⟨u1,c1,c2⟩,c3⟩:=q1 i hil
   obtain ⟨⟨u2,d1,d2⟩,d3⟩:=q2 i hil
   have hsm:=HL.out i hil
   have k1:=(hb.cell (World.block_lt_of_cell? _ _ c1)).trans c1
   have k3:=(hb.cell (World.block_lt_of_cell? _ _ c3)).trans c3
   have n1:=(hb.cell (World.block_lt_of_cell? _ _ d1)).trans d1
   have n3:=(hb.cell (World.block_lt_of_cell? _ _ d3)).trans d3
   have s1:=c2.below hb
   have s2:=d2.below hb
   obtain ⟨V,X,hVX⟩:∃ V X,rAt l i = (V,X):=⟨_,_,rfl⟩
   rw [hVX] at s1 s2 hsm k3 n3
   have HC:Calls Tryz.prog 35 #[u1,u2] wr.drew fun e w' => ∃ v,e = .returned v /\ v = .bool true /\ Below wr.heap.size wr w':=by
    refine (same_any _ _ V V wr.drew s1 s2 (by simp only at hsm;omega)).mono ?_
    rintro e w' ⟨rfl,hb'⟩
    exact ⟨_,rfl,by rw [decide_eq_true rfl],⟨hb'.os,hb'.tape,hb'.output,hb'.size,hb'.block⟩⟩
   obtain ⟨xa,xc,hx,_⟩:=s1
   obtain ⟨ya,yc,hy,_⟩:=s2
   subst hx hy
   have HCC:Hid _:=HC
   have HB:Hid _:=hb
   have lk:=World.block_lt_of_cell? _ _ k1
   have ln:=World.block_lt_of_cell? _ _ n1
   have HKB:Hid (∀ w1,Below wr.heap.size wr w1 -> w1.cell? ⟨g1,o1 + i * 2 + 1,none⟩ = some (.int .i64 X) /\ w1.cell? ⟨g2,o2 + i * 2 + 1,none⟩ = some (.int .i64 X)):=fun w1 hb1 => ⟨(hb1.cell (World.block_lt_of_cell? _ _ k3)).trans k3,(hb1.cell (World.block_lt_of_cell? _ _ n3)).trans n3⟩
   obtain ⟨w0,hw0⟩:∃ w0:World,w0 = wr:=⟨_,rfl⟩
   subst hw0
   clear q1 q2 c1 c2 c3 d1 d2 d3 HC hb k3 n3 hVX hsm R1 R2 HL
   go_upto_region 6 with fail
   go_cut [6] (fun bv wx => bv = .bool true /\ Below w0.heap.size w0 wx)
   case first =>
    go_region_law (refine step_call rfl 35 #[.tmp 22,.tmp 27] #[28,28] rfl enter35 #[.slice xa V.length xc,.slice ya V.length yc] (by kernel_rfl) _ HCC.out ?_;rintro v1 w1 ⟨rfl,b1⟩)
    all_goals (go_wp2;go_meet)
    all_goals exact ⟨rfl,b1⟩
   case rest =>
    obtain ⟨rfl,b1⟩:=hcut
    obtain ⟨k3,n3⟩:=HKB.out _ b1
    have HB1:Hid (Below w.heap.size w wc):=HB.out.trans (b1.mono HB.out.size)
    clear k1 n1 lk ln HKB HCC HB b1
    go_upto_region 7 with fail
    go_quiet (fail)
    go_wp2_with fail
    go_roundw
    case rel => exact ⟨i + 1,by omega,by go_num,⟨HB1.out.os,HB1.out.tape,HB1.out.output,HB1.out.size,HB1.out.block⟩⟩
    case measure => simp [intOf];omega
  ·have hil':¬ (i:Int) < (l.length:Int):=by omega
   go_wp2_with fail
   go_ret
   exact ⟨rfl,hb⟩
def EndI (B:Nat) (I:World -> Prop) (w2:World) (vv:Value) (c:Int) (e:Ending) (w3:World):Prop :=
 ∃ a n k,e = .returned (.tuple #[.slice a n k,.int .i64 c]) /\ (∃ L,RRead w3 vv L /\ RRead w3 (.slice a n k) L /\ SmallV L /\ L.length < 4611686018427387904) /\ I w3 /\ ∀ p y,B <= p.block -> w2.cell? p = some y -> w3.cell? p = some y
theorem reads_kept {w w':World} {v:Value} {xs:List Int} (h:Reads w v xs) (hc:∀ p y,w.cell? p = some y -> w'.cell? p = some y):Reads w' v xs:=by
 obtain ⟨a,cap,rfl,h2⟩:=h
 refine ⟨a,cap,rfl,fun hl => ?_⟩
 obtain ⟨g,off,rfl,h3⟩:=h2 hl
 exact ⟨g,off,rfl,fun j hj => hc _ _ (h3 j hj)⟩
theorem reads_keptB {B:Nat} {w w':World} {v:Value} {xs:List Int} (h:Reads w v xs) (hu:UB B v) (hc:∀ p y,B <= p.block -> w.cell? p = some y -> w'.cell? p = some y):Reads w' v xs:=by
 obtain ⟨a,cap,rfl,h2⟩:=h
 refine ⟨a,cap,rfl,fun hl => ?_⟩
 obtain ⟨g,off,rfl,h3⟩:=h2 hl
 exact ⟨g,off,rfl,fun j hj => hc _ _ (show B <= (⟨g,off + j,none⟩:Addr).block from hu ⟨g,off,none⟩ _ _ rfl hl) (h3 j hj)⟩
theorem own_ubv {B N:Nat} {w:World} {v:Value} {n:Nat} {e z:Nat} {xs:List Value} (h:w.ownsRow N e z v n xs) (hB:B <= N):UB B v:=by
 intro a m c e hm
 subst e
 have h1:=(vown_form h)
 obtain ⟨a',c',he⟩:=h1
 simp only [Value.slice.injEq] at he
 obtain ⟨_,rfl,_⟩:=he
 obtain ⟨g,cap,he⟩:=vown_some h hm
 simp only [Value.slice.injEq,Option.some.injEq] at he
 rw [he.1]
 exact Nat.le_trans hB (h.lt g (by rw [he.1];rfl)).1
structure IOk (B:Nat) (I:World -> Prop):Prop where
 blw:∀ w w2,I w -> Below w.heap.size w w2 -> I w2
 sz:∀ w,I w -> B <= w.heap.size
theorem step_upd {B:Nat} {I:World -> Prop} (hOk:IOk B I) (vb rvb:Nat) (am:Int) (S T:ByteArray) (la:Option Addr) (lc:Nat) (xs:List Int) (hl:xs.length * 8 <= 140737488355328) (hr:∀ wx,I wx -> Reads wx (.slice la xs.length lc) xs)
  (hU:∀ u v,I u -> Reads u v xs -> Calls Tryz.prog 16 #[.pointer (some ⟨vb,0,none⟩),.string S,.int .i64 am,v] u fun e w1 => ∃ a n k c,e = .returned (.tuple #[.slice a n k,.int .i64 c]) /\ (∀ (w2:World) (xv:Value),Below w1.heap.size w1 w2 -> Reads w2 xv xs -> Calls Tryz.prog 34 #[.pointer (some ⟨rvb,0,none⟩),.string S,.int .i64 am,xv] w2 (EndI B I w2 (.slice a n k) c)) /\ ∀ p y,u.cell? p = some y -> w1.cell? p = some y)
  (w:World) (hI:I w) :
  Calls Tryz.prog 11 #[.pointer (some ⟨vb,0,none⟩),.pointer (some ⟨rvb,0,none⟩),.agg #[.int .i64 2,.int .i64 am,.string S,.string T,.slice la xs.length lc]] w fun e w' => e = .returned (.bool true) /\ I w':=by
 have hba:Below w.heap.size w (w.alloc (.cells #[.int .i64 2,.int .i64 am,.string S,.string T,.slice la xs.length lc] 30)):=(Below.refl _ _).alloc (Nat.le_refl _) _
 have hIa:=hOk.blw _ _ hI hba
 have hBw:=hOk.sz _ hI
 have hra:=hr _ hIa
 obtain ⟨wa,hwa⟩:∃ wa,w.alloc (.cells #[.int .i64 2,.int .i64 am,.string S,.string T,.slice la xs.length lc] 30) = wa:=⟨_,rfl⟩
 have e0:wa.cell? ⟨w.heap.size,0,none⟩ = some (.int .i64 2):=by rw [← hwa];simp
 have e1:wa.cell? ⟨w.heap.size,1,none⟩ = some (.int .i64 am):=by rw [← hwa];simp
 have e2:wa.cell? ⟨w.heap.size,2,none⟩ = some (.string S):=by rw [← hwa];simp
 have e3:wa.cell? ⟨w.heap.size,3,none⟩ = some (.string T):=by rw [← hwa];simp
 have e4:wa.cell? ⟨w.heap.size,4,none⟩ = some (.slice la xs.length lc):=by rw [← hwa];simp
 have hsa:w.heap.size <= wa.heap.size:=by rw [← hwa];simp
 rw [hwa] at hIa hra
 have CP:=copied_any (.slice la xs.length lc) xs wa hra hl
 have HR:Hid (∀ wx,I wx -> Reads wx (.slice la xs.length lc) xs):=hr
 have HU:Hid _:=hU
 have HOK:Hid (IOk B I):=hOk
 have HIA:Hid (I wa):=hIa
 have HRA:Hid (Reads wa (.slice la xs.length lc) xs):=hra
 obtain ⟨N,hN⟩:∃ N,xs.length = N:=⟨_,rfl⟩
 have HN:Hid (xs.length = N):=hN
 have HL:Hid (xs.length * 8 <= 140737488355328):=hl
 have HWA:Hid (w.alloc (.cells #[.int .i64 2,.int .i64 am,.string S,.string T,.slice la xs.length lc] 30) = wa):=hwa
 rw [hN] at HWA e4 CP HR HRA ⊢
 clear hba hwa hr hU hOk hIa hra hN hl hI
 go_enter Tryz.func11,Tryz.ntmps11
 go_upto_region 1 with fail
 rw [HWA.out]
 go_wp2_with fail
 refine CP.mono ?_
 rintro e w1 ⟨a1,p1,rfl,hown,hb1⟩
 have l0:=World.block_lt_of_cell? _ _ e0
 have d0:w1.cell? ⟨w.heap.size,0,none⟩ = some (.int .i64 2):=(hb1.cell (p:=⟨w.heap.size,0,none⟩) l0).trans e0
 have d1:w1.cell? ⟨w.heap.size,1,none⟩ = some (.int .i64 am):=(hb1.cell (p:=⟨w.heap.size,1,none⟩) l0).trans e1
 have d2:w1.cell? ⟨w.heap.size,2,none⟩ = some (.string S):=(hb1.cell (p:=⟨w.heap.size,2,none⟩) l0).trans e2
 have d3:w1.cell? ⟨w.heap.size,3,none⟩ = some (.string T):=(hb1.cell (p:=⟨w.heap.size,3,none⟩) l0).trans e3
 have d4:w1.cell? ⟨w.heap.size,4,none⟩ = some (.slice la N lc):=(hb1.cell (p:=⟨w.heap.size,4,none⟩) l0).trans e4
 have hu1:UB B (.slice a1 N p1):=own_ubv hown (Nat.le_trans hBw hsa)
 have hr1:Reads w1 (.slice a1 N p1) xs:=reads_own hown HN.out
 have hI1:=HOK.out.blw _ _ HIA.out hb1
 have UP:=HU.out w1 (.slice a1 N p1) hI1 hr1
 have hro:=HR.out w1 hI1
 have HU1:Hid _:=hu1
 have HR1:Hid _:=hr1
 have HRO:Hid _:=hro
 clear CP hown hb1 e0 e1 e2 e3 e4 d3 l0 hu1 hr1 hI1 hro HIA HRA HU hsa HWA
 go_wp2_with fail
 refine UP.mono ?_
 rintro e w2 ⟨a2,n2,k2,c,rfl,hM,hk⟩
 have f1:=hk _ _ d1
 have f2:=hk _ _ d2
 have f4:=hk _ _ d4
 have UP2:=hM w2 (.slice la N lc) (Below.refl _ _) (reads_kept HRO.out hk)
 have HR2:Hid _:=reads_kept HR1.out hk
 clear UP hM hk d0 d1 d2 d4 HRO HR1
 go_wp2_with fail
 refine UP2.mono ?_
 rintro e w3 ⟨a3,n3,k3,rfl,⟨L,q1,q2,q3,q4⟩,hI3,hk3⟩
 have g4:=hk3 ⟨w.heap.size,4,none⟩ _ hBw f4
 have HR3:Hid _:=reads_keptB HR2.out HU1.out hk3
 have AL:=alike_any _ _ L w3 q1 q2 q3 q4
 clear UP2 hk3 f1 f2 f4 HR2 q1 q2 q3 q4
 go_wp2_with fail
 refine AL.mono ?_
 rintro e w4 ⟨rfl,hb4⟩
 have hI4:=HOK.out.blw _ _ hI3 hb4
 have r4:=(hb4.cell (World.block_lt_of_cell? _ _ g4)).trans g4
 have SM:=same_any _ _ xs xs w4 (Reads.below HR3.out hb4) (HR.out w4 hI4) (by have:=HL.out;omega)
 rw [decide_eq_true rfl] at SM
 clear AL g4 hI3 hb4
 go_wp2_with fail
 refine SM.mono ?_
 rintro e w5 ⟨rfl,hb5⟩
 have hI5:=HOK.out.blw _ _ hI4 hb5
 have HI5:Hid (I w5):=hI5
 clear SM hI4 hI5 r4 hb5
 go_wp2_with fail
 refine (num_any c w5).mono ?_
 rintro e w6 ⟨rfl,hw6⟩
 rw [hw6]
 clear hw6
 go_wp2_with fail
 go_ret
 exact ⟨by simp,HI5.out⟩
theorem step_tot {B:Nat} {I:World -> Prop} (hOk:IOk B I) (vb rvb:Nat) (am:Int) (S T:ByteArray) (la:Option Addr) (lc:Nat) (xs:List Int) (hl:xs.length * 8 <= 140737488355328) (hr:∀ wx,I wx -> Reads wx (.slice la xs.length lc) xs)
  (hU:∀ u v,I u -> Reads u v xs -> Calls Tryz.prog 29 #[.pointer (some ⟨vb,0,none⟩),v] u fun e w1 => ∃ n c,e = .returned (.tuple #[.int .i64 n,.int .i64 c]) /\ Below u.heap.size u w1 /\ ∀ (w2:World) (xv:Value),Below w1.heap.size w1 w2 -> Reads w2 xv xs -> Calls Tryz.prog 36 #[.pointer (some ⟨rvb,0,none⟩),xv] w2 fun e w3 => e = .returned (.tuple #[.int .i64 n,.int .i64 c]) /\ Below w2.heap.size w2 w3)
  (w:World) (hI:I w) :
  Calls Tryz.prog 11 #[.pointer (some ⟨vb,0,none⟩),.pointer (some ⟨rvb,0,none⟩),.agg #[.int .i64 3,.int .i64 am,.string S,.string T,.slice la xs.length lc]] w fun e w' => e = .returned (.bool true) /\ I w':=by
 have hba:Below w.heap.size w (w.alloc (.cells #[.int .i64 3,.int .i64 am,.string S,.string T,.slice la xs.length lc] 30)):=(Below.refl _ _).alloc (Nat.le_refl _) _
 have hIa:=hOk.blw _ _ hI hba
 have hBw:=hOk.sz _ hI
 have hra:=hr _ hIa
 obtain ⟨wa,hwa⟩:∃ wa,w.alloc (.cells #[.int .i64 3,.int .i64 am,.string S,.string T,.slice la xs.length lc] 30) = wa:=⟨_,rfl⟩
 have e0:wa.cell? ⟨w.heap.size,0,none⟩ = some (.int .i64 3):=by rw [← hwa];simp
 have e1:wa.cell? ⟨w.heap.size,1,none⟩ = some (.int .i64 am):=by rw [← hwa];simp
 have e2:wa.cell? ⟨w.heap.size,2,none⟩ = some (.string S):=by rw [← hwa];simp
 have e3:wa.cell? ⟨w.heap.size,3,none⟩ = some (.string T):=by rw [← hwa];simp
 have e4:wa.cell? ⟨w.heap.size,4,none⟩ = some (.slice la xs.length lc):=by rw [← hwa];simp
 have hsa:w.heap.size <= wa.heap.size:=by rw [← hwa];simp
 rw [hwa] at hIa hra
 have CP:=copied_any (.slice la xs.length lc) xs wa hra hl
 have HR:Hid (∀ wx,I wx -> Reads wx (.slice la xs.length lc) xs):=hr
 have HU:Hid _:=hU
 have HOK:Hid (IOk B I):=hOk
 have HIA:Hid (I wa):=hIa
 have HRA:Hid (Reads wa (.slice la xs.length lc) xs):=hra
 obtain ⟨N,hN⟩:∃ N,xs.length = N:=⟨_,rfl⟩
 have HN:Hid (xs.length = N):=hN
 have HL:Hid (xs.length * 8 <= 140737488355328):=hl
 have HWA:Hid (w.alloc (.cells #[.int .i64 3,.int .i64 am,.string S,.string T,.slice la xs.length lc] 30) = wa):=hwa
 rw [hN] at HWA e4 CP HR HRA ⊢
 clear hba hwa hr hU hOk hIa hra hN hl hI
 go_enter Tryz.func11,Tryz.ntmps11
 go_upto_region 1 with fail
 rw [HWA.out]
 go_wp2_with fail
 refine CP.mono ?_
 rintro e w1 ⟨a1,p1,rfl,hown,hb1⟩
 have l0:=World.block_lt_of_cell? _ _ e0
 have d0:w1.cell? ⟨w.heap.size,0,none⟩ = some (.int .i64 3):=(hb1.cell (p:=⟨w.heap.size,0,none⟩) l0).trans e0
 have d1:w1.cell? ⟨w.heap.size,1,none⟩ = some (.int .i64 am):=(hb1.cell (p:=⟨w.heap.size,1,none⟩) l0).trans e1
 have d2:w1.cell? ⟨w.heap.size,2,none⟩ = some (.string S):=(hb1.cell (p:=⟨w.heap.size,2,none⟩) l0).trans e2
 have d3:w1.cell? ⟨w.heap.size,3,none⟩ = some (.string T):=(hb1.cell (p:=⟨w.heap.size,3,none⟩) l0).trans e3
 have d4:w1.cell? ⟨w.heap.size,4,none⟩ = some (.slice la N lc):=(hb1.cell (p:=⟨w.heap.size,4,none⟩) l0).trans e4
 have hu1:UB B (.slice a1 N p1):=own_ubv hown (Nat.le_trans hBw hsa)
 have hr1:Reads w1 (.slice a1 N p1) xs:=reads_own hown HN.out
 have hI1:=HOK.out.blw _ _ HIA.out hb1
 have UP:=HU.out w1 (.slice a1 N p1) hI1 hr1
 have HI1:Hid (I w1):=hI1
 have HR1:Hid (Reads w1 (.slice a1 N p1) xs):=hr1
 clear CP hown hb1 e0 e1 e2 e3 e4 d1 d2 d3 l0 hu1 hr1 hI1 HIA HRA HU hsa HWA
 go_wp2_with fail
 refine UP.mono ?_
 rintro e w2 ⟨n,c,rfl,hb2,hM⟩
 have f4:=(hb2.cell (World.block_lt_of_cell? _ _ d4)).trans d4
 have hI2:=HOK.out.blw _ _ HI1.out hb2
 have UP2:=hM w2 (.slice la N lc) (Below.refl _ _) (HR.out w2 hI2)
 have HI2:Hid (I w2):=hI2
 have HR2:Hid (Reads w2 (.slice a1 N p1) xs):=Reads.below HR1.out hb2
 clear UP hM d0 d4 HR1 HI1 hI2 hb2
 go_wp2_with fail
 refine UP2.mono ?_
 rintro e w3 ⟨rfl,hb3⟩
 have g4:=(hb3.cell (World.block_lt_of_cell? _ _ f4)).trans f4
 have hI3:=HOK.out.blw _ _ HI2.out hb3
 have SM:=same_any _ _ xs xs w3 (Reads.below HR2.out hb3) (HR.out w3 hI3) (by have:=HL.out;omega)
 rw [decide_eq_true rfl] at SM
 have HI3:Hid (I w3):=hI3
 clear UP2 f4 HR2 hI3 hb3 HI2
 go_wp2_with fail
 refine SM.mono ?_
 rintro e w5 ⟨rfl,hb5⟩
 have HI5:Hid (I w5):=HOK.out.blw _ _ HI3.out hb5
 clear SM HI3 hb5 g4
 go_wp2_with fail
 refine (num_any c w5).mono ?_
 rintro e w6 ⟨rfl,hw6⟩
 rw [hw6]
 clear hw6
 go_wp2_with fail
 go_ret
 exact ⟨by simp,HI5.out⟩
theorem step_rel {B:Nat} {I:World -> Prop} (hOk:IOk B I) (vb rvb:Nat) (am:Int) (S T:ByteArray) (la:Option Addr) (lc:Nat) (xs:List Int) (hl:xs.length * 8 <= 140737488355328) (hr:∀ wx,I wx -> Reads wx (.slice la xs.length lc) xs)
  (hU:∀ u,I u -> Calls Tryz.prog 31 #[.pointer (some ⟨vb,0,none⟩),.string S] u fun e w1 => ∃ a n k c,e = .returned (.tuple #[.slice a n k,.int .i64 c]) /\ (∀ (w2:World),Below w1.heap.size w1 w2 -> Calls Tryz.prog 37 #[.pointer (some ⟨rvb,0,none⟩),.string S] w2 (EndI B I w2 (.slice a n k) c)) /\ Below u.heap.size u w1)
  (w:World) (hI:I w) :
  Calls Tryz.prog 11 #[.pointer (some ⟨vb,0,none⟩),.pointer (some ⟨rvb,0,none⟩),.agg #[.int .i64 4,.int .i64 am,.string S,.string T,.slice la xs.length lc]] w fun e w' => e = .returned (.bool true) /\ I w':=by
 have hba:Below w.heap.size w (w.alloc (.cells #[.int .i64 4,.int .i64 am,.string S,.string T,.slice la xs.length lc] 30)):=(Below.refl _ _).alloc (Nat.le_refl _) _
 have hIa:=hOk.blw _ _ hI hba
 have hBw:=hOk.sz _ hI
 have hra:=hr _ hIa
 obtain ⟨wa,hwa⟩:∃ wa,w.alloc (.cells #[.int .i64 4,.int .i64 am,.string S,.string T,.slice la xs.length lc] 30) = wa:=⟨_,rfl⟩
 have e0:wa.cell? ⟨w.heap.size,0,none⟩ = some (.int .i64 4):=by rw [← hwa];simp
 have e1:wa.cell? ⟨w.heap.size,1,none⟩ = some (.int .i64 am):=by rw [← hwa];simp
 have e2:wa.cell? ⟨w.heap.size,2,none⟩ = some (.string S):=by rw [← hwa];simp
 have e3:wa.cell? ⟨w.heap.size,3,none⟩ = some (.string T):=by rw [← hwa];simp
 have e4:wa.cell? ⟨w.heap.size,4,none⟩ = some (.slice la xs.length lc):=by rw [← hwa];simp
 have hsa:w.heap.size <= wa.heap.size:=by rw [← hwa];simp
 rw [hwa] at hIa hra
 have CP:=copied_any (.slice la xs.length lc) xs wa hra hl
 have HR:Hid (∀ wx,I wx -> Reads wx (.slice la xs.length lc) xs):=hr
 have HU:Hid _:=hU
 have HOK:Hid (IOk B I):=hOk
 have HIA:Hid (I wa):=hIa
 have HRA:Hid (Reads wa (.slice la xs.length lc) xs):=hra
 obtain ⟨N,hN⟩:∃ N,xs.length = N:=⟨_,rfl⟩
 have HN:Hid (xs.length = N):=hN
 have HL:Hid (xs.length * 8 <= 140737488355328):=hl
 have HWA:Hid (w.alloc (.cells #[.int .i64 4,.int .i64 am,.string S,.string T,.slice la xs.length lc] 30) = wa):=hwa
 rw [hN] at HWA e4 CP HR HRA ⊢
 clear hba hwa hr hU hOk hIa hra hN hl hI
 go_enter Tryz.func11,Tryz.ntmps11
 go_upto_region 1 with fail
 rw [HWA.out]
 go_wp2_with fail
 refine CP.mono ?_
 rintro e w1 ⟨a1,p1,rfl,hown,hb1⟩
 have l0:=World.block_lt_of_cell? _ _ e0
 have d0:w1.cell? ⟨w.heap.size,0,none⟩ = some (.int .i64 4):=(hb1.cell (p:=⟨w.heap.size,0,none⟩) l0).trans e0
 have d1:w1.cell? ⟨w.heap.size,1,none⟩ = some (.int .i64 am):=(hb1.cell (p:=⟨w.heap.size,1,none⟩) l0).trans e1
 have d2:w1.cell? ⟨w.heap.size,2,none⟩ = some (.string S):=(hb1.cell (p:=⟨w.heap.size,2,none⟩) l0).trans e2
 have d3:w1.cell? ⟨w.heap.size,3,none⟩ = some (.string T):=(hb1.cell (p:=⟨w.heap.size,3,none⟩) l0).trans e3
 have d4:w1.cell? ⟨w.heap.size,4,none⟩ = some (.slice la N lc):=(hb1.cell (p:=⟨w.heap.size,4,none⟩) l0).trans e4
 have hu1:UB B (.slice a1 N p1):=own_ubv hown (Nat.le_trans hBw hsa)
 have hr1:Reads w1 (.slice a1 N p1) xs:=reads_own hown HN.out
 have hI1:=HOK.out.blw _ _ HIA.out hb1
 have UP:=HU.out w1 hI1
 clear CP hown hb1 e0 e1 e2 e3 e4 d1 d3 d4 l0 hu1 hr1 hI1 HIA HRA HU hsa HWA HR
 go_wp2_with fail
 refine UP.mono ?_
 rintro e w2 ⟨a2,n2,k2,c,rfl,hM,hb2⟩
 have f2:=(hb2.cell (World.block_lt_of_cell? _ _ d2)).trans d2
 have UP2:=hM w2 (Below.refl _ _)
 clear UP hM d0 d2 hb2
 go_wp2_with fail
 refine UP2.mono ?_
 rintro e w3 ⟨a3,n3,k3,rfl,⟨L,q1,q2,q3,q4⟩,hI3,_⟩
 have AL:=alike_any _ _ L w3 q1 q2 q3 q4
 clear UP2 f2 q1 q2 q3 q4
 go_wp2_with fail
 refine AL.mono ?_
 rintro e w4 ⟨rfl,hb4⟩
 have HI5:Hid (I w4):=HOK.out.blw _ _ hI3 hb4
 clear AL hI3 hb4
 go_wp2_with fail
 refine (num_any c w4).mono ?_
 rintro e w6 ⟨rfl,hw6⟩
 rw [hw6]
 clear hw6
 go_wp2_with fail
 go_ret
 exact ⟨by simp,HI5.out⟩
theorem step_non {B:Nat} {I:World -> Prop} (hOk:IOk B I) (vb rvb:Nat) (kd:Int) (h2:(kd == 2) = false) (h3:(kd == 3) = false) (h4:(kd == 4) = false) (h5:(kd == 5) = false) (am:Int) (S T:ByteArray) (la:Option Addr) (lc:Nat) (xs:List Int) (hl:xs.length * 8 <= 140737488355328) (hr:∀ wx,I wx -> Reads wx (.slice la xs.length lc) xs)
  (w:World) (hI:I w) :
  Calls Tryz.prog 11 #[.pointer (some ⟨vb,0,none⟩),.pointer (some ⟨rvb,0,none⟩),.agg #[.int .i64 kd,.int .i64 am,.string S,.string T,.slice la xs.length lc]] w fun e w' => e = .returned (.bool true) /\ I w':=by
 have hba:Below w.heap.size w (w.alloc (.cells #[.int .i64 kd,.int .i64 am,.string S,.string T,.slice la xs.length lc] 30)):=(Below.refl _ _).alloc (Nat.le_refl _) _
 have hIa:=hOk.blw _ _ hI hba
 have hBw:=hOk.sz _ hI
 have hra:=hr _ hIa
 obtain ⟨wa,hwa⟩:∃ wa,w.alloc (.cells #[.int .i64 kd,.int .i64 am,.string S,.string T,.slice la xs.length lc] 30) = wa:=⟨_,rfl⟩
 have e0:wa.cell? ⟨w.heap.size,0,none⟩ = some (.int .i64 kd):=by rw [← hwa];simp
 have e1:wa.cell? ⟨w.heap.size,1,none⟩ = some (.int .i64 am):=by rw [← hwa];simp
 have e2:wa.cell? ⟨w.heap.size,2,none⟩ = some (.string S):=by rw [← hwa];simp
 have e3:wa.cell? ⟨w.heap.size,3,none⟩ = some (.string T):=by rw [← hwa];simp
 have e4:wa.cell? ⟨w.heap.size,4,none⟩ = some (.slice la xs.length lc):=by rw [← hwa];simp
 have hsa:w.heap.size <= wa.heap.size:=by rw [← hwa];simp
 rw [hwa] at hIa hra
 have CP:=copied_any (.slice la xs.length lc) xs wa hra hl
 have HR:Hid (∀ wx,I wx -> Reads wx (.slice la xs.length lc) xs):=hr
 have HOK:Hid (IOk B I):=hOk
 have HIA:Hid (I wa):=hIa
 have HRA:Hid (Reads wa (.slice la xs.length lc) xs):=hra
 obtain ⟨N,hN⟩:∃ N,xs.length = N:=⟨_,rfl⟩
 have HN:Hid (xs.length = N):=hN
 have HL:Hid (xs.length * 8 <= 140737488355328):=hl
 have HWA:Hid (w.alloc (.cells #[.int .i64 kd,.int .i64 am,.string S,.string T,.slice la xs.length lc] 30) = wa):=hwa
 rw [hN] at HWA e4 CP HR HRA ⊢
 clear hba hwa hr hOk hIa hra hN hl hI
 go_enter Tryz.func11,Tryz.ntmps11
 go_upto_region 1 with fail
 rw [HWA.out]
 go_wp2_with fail
 refine CP.mono ?_
 rintro e w1 ⟨a1,p1,rfl,hown,hb1⟩
 have l0:=World.block_lt_of_cell? _ _ e0
 have d0:w1.cell? ⟨w.heap.size,0,none⟩ = some (.int .i64 kd):=(hb1.cell (p:=⟨w.heap.size,0,none⟩) l0).trans e0
 have d1:w1.cell? ⟨w.heap.size,1,none⟩ = some (.int .i64 am):=(hb1.cell (p:=⟨w.heap.size,1,none⟩) l0).trans e1
 have d2:w1.cell? ⟨w.heap.size,2,none⟩ = some (.string S):=(hb1.cell (p:=⟨w.heap.size,2,none⟩) l0).trans e2
 have d3:w1.cell? ⟨w.heap.size,3,none⟩ = some (.string T):=(hb1.cell (p:=⟨w.heap.size,3,none⟩) l0).trans e3
 have d4:w1.cell? ⟨w.heap.size,4,none⟩ = some (.slice la N lc):=(hb1.cell (p:=⟨w.heap.size,4,none⟩) l0).trans e4
 have hu1:UB B (.slice a1 N p1):=own_ubv hown (Nat.le_trans hBw hsa)
 have hr1:Reads w1 (.slice a1 N p1) xs:=reads_own hown HN.out
 have hI1:=HOK.out.blw _ _ HIA.out hb1
 have HI1:Hid (I w1):=hI1
 clear CP hown hb1 e0 e1 e2 e3 e4 d1 d2 d3 d4 l0 hu1 hr1 hI1 HIA HRA hsa HWA HR
 go_wp2_with fail
 go_ret
 exact ⟨rfl,HI1.out⟩
theorem step_clr {B:Nat} {I:World -> Prop} (hOk:IOk B I) (vb rvb:Nat) (am:Int) (S T:ByteArray) (la:Option Addr) (lc:Nat) (xs:List Int) (hl:xs.length * 8 <= 140737488355328) (hr:∀ wx,I wx -> Reads wx (.slice la xs.length lc) xs)
  (names:List ByteArray) (hNm:∀ (u:World),Calls Tryz.prog 19 #[.agg #[.int .i64 5,.int .i64 am,.string S,.string T,.slice la xs.length lc]] u fun e w' => ∃ v,e = .returned v /\ SReads w' v names /\ UB u.heap.size v /\ Below u.heap.size u w')
  (hU:∀ u v,I u -> SReads u v names -> Calls Tryz.prog 18 #[.pointer (some ⟨vb,0,none⟩),v] u fun e w1 => ∃ a n k c,e = .returned (.tuple #[.slice a n k,.int .i64 c]) /\ (∀ (w2:World) (sv:Value),Below w1.heap.size w1 w2 -> SReads w2 sv names -> UB B sv -> Calls Tryz.prog 38 #[.pointer (some ⟨rvb,0,none⟩),sv] w2 (EndI B I w2 (.slice a n k) c)) /\ B <= w1.heap.size /\ ∀ p y,u.cell? p = some y -> w1.cell? p = some y)
  (w:World) (hI:I w) :
  Calls Tryz.prog 11 #[.pointer (some ⟨vb,0,none⟩),.pointer (some ⟨rvb,0,none⟩),.agg #[.int .i64 5,.int .i64 am,.string S,.string T,.slice la xs.length lc]] w fun e w' => e = .returned (.bool true) /\ I w':=by
 have hba:Below w.heap.size w (w.alloc (.cells #[.int .i64 5,.int .i64 am,.string S,.string T,.slice la xs.length lc] 30)):=(Below.refl _ _).alloc (Nat.le_refl _) _
 have hIa:=hOk.blw _ _ hI hba
 have hBw:=hOk.sz _ hI
 have hra:=hr _ hIa
 obtain ⟨wa,hwa⟩:∃ wa,w.alloc (.cells #[.int .i64 5,.int .i64 am,.string S,.string T,.slice la xs.length lc] 30) = wa:=⟨_,rfl⟩
 have e0:wa.cell? ⟨w.heap.size,0,none⟩ = some (.int .i64 5):=by rw [← hwa];simp
 have e1:wa.cell? ⟨w.heap.size,1,none⟩ = some (.int .i64 am):=by rw [← hwa];simp
 have e2:wa.cell? ⟨w.heap.size,2,none⟩ = some (.string S):=by rw [← hwa];simp
 have e3:wa.cell? ⟨w.heap.size,3,none⟩ = some (.string T):=by rw [← hwa];simp
 have e4:wa.cell? ⟨w.heap.size,4,none⟩ = some (.slice la xs.length lc):=by rw [← hwa];simp
 have hsa:w.heap.size <= wa.heap.size:=by rw [← hwa];simp
 rw [hwa] at hIa hra
 have CP:=copied_any (.slice la xs.length lc) xs wa hra hl
 have HR:Hid (∀ wx,I wx -> Reads wx (.slice la xs.length lc) xs):=hr
 have HU:Hid _:=hU
 have HNM:Hid _:=hNm
 have HOK:Hid (IOk B I):=hOk
 have HIA:Hid (I wa):=hIa
 have HRA:Hid (Reads wa (.slice la xs.length lc) xs):=hra
 obtain ⟨N,hN⟩:∃ N,xs.length = N:=⟨_,rfl⟩
 have HN:Hid (xs.length = N):=hN
 have HL:Hid (xs.length * 8 <= 140737488355328):=hl
 have HWA:Hid (w.alloc (.cells #[.int .i64 5,.int .i64 am,.string S,.string T,.slice la xs.length lc] 30) = wa):=hwa
 rw [hN] at HWA e4 CP HR HRA HNM ⊢
 clear hba hwa hr hU hNm hOk hIa hra hN hl hI
 go_enter Tryz.func11,Tryz.ntmps11
 go_upto_region 1 with fail
 rw [HWA.out]
 go_wp2_with fail
 refine CP.mono ?_
 rintro e w1 ⟨a1,p1,rfl,hown,hb1⟩
 have l0:=World.block_lt_of_cell? _ _ e0
 have d0:w1.cell? ⟨w.heap.size,0,none⟩ = some (.int .i64 5):=(hb1.cell (p:=⟨w.heap.size,0,none⟩) l0).trans e0
 have d1:w1.cell? ⟨w.heap.size,1,none⟩ = some (.int .i64 am):=(hb1.cell (p:=⟨w.heap.size,1,none⟩) l0).trans e1
 have d2:w1.cell? ⟨w.heap.size,2,none⟩ = some (.string S):=(hb1.cell (p:=⟨w.heap.size,2,none⟩) l0).trans e2
 have d3:w1.cell? ⟨w.heap.size,3,none⟩ = some (.string T):=(hb1.cell (p:=⟨w.heap.size,3,none⟩) l0).trans e3
 have d4:w1.cell? ⟨w.heap.size,4,none⟩ = some (.slice la N lc):=(hb1.cell (p:=⟨w.heap.size,4,none⟩) l0).trans e4
 have hu1:UB B (.slice a1 N p1):=own_ubv hown (Nat.le_trans hBw hsa)
 have hr1:Reads w1 (.slice a1 N p1) xs:=reads_own hown HN.out
 have hI1:=HOK.out.blw _ _ HIA.out hb1
 have NM:=HNM.out w1
 have HI1:Hid (I w1):=hI1
 clear CP hown hb1 e0 e1 e2 e3 e4 l0 hu1 hr1 hI1 HIA HRA hsa HWA HR
 go_wp2_with fail
 refine NM.mono ?_
 rintro e w2 ⟨nv,rfl,hsr,_,hb2⟩
 have UP:=HU.out w2 nv (HOK.out.blw _ _ HI1.out hb2) hsr
 have f0:=(hb2.cell (World.block_lt_of_cell? _ _ d0)).trans d0
 have f1:=(hb2.cell (World.block_lt_of_cell? _ _ d1)).trans d1
 have f2:=(hb2.cell (World.block_lt_of_cell? _ _ d2)).trans d2
 have f3:=(hb2.cell (World.block_lt_of_cell? _ _ d3)).trans d3
 have f4:=(hb2.cell (World.block_lt_of_cell? _ _ d4)).trans d4
 obtain ⟨na,nc,rfl,_⟩:=hsr
 clear NM HI1 hb2 d0 d1 d2 d3 d4
 go_wp2_with fail
 refine UP.mono ?_
 rintro e w3 ⟨a2,n2,k2,c,rfl,hM,hB3,hk⟩
 have g0:=hk _ _ f0
 have g1:=hk _ _ f1
 have g2:=hk _ _ f2
 have g3:=hk _ _ f3
 have g4:=hk _ _ f4
 have NM2:=HNM.out w3
 have HM:Hid _:=hM
 clear UP hM hk f0 f1 f2 f3 f4
 go_wp2_with fail
 refine NM2.mono ?_
 rintro e w4 ⟨nv2,rfl,hsr2,hub2,hb4⟩
 have UP2:=HM.out w4 nv2 hb4 hsr2 (fun a n c e hn => Nat.le_trans hB3 (hub2 a n c e hn))
 obtain ⟨na2,nc2,rfl,_⟩:=hsr2
 clear NM2 hub2 hb4 g0 g1 g2 g3 g4 HM HNM HU
 go_wp2_with fail
 refine UP2.mono ?_
 rintro e w5 ⟨a3,n3,k3,rfl,⟨L,q1,q2,q3,q4⟩,hI5,_⟩
 have AL:=alike_any _ _ L w5 q1 q2 q3 q4
 clear UP2 q1 q2 q3 q4
 go_wp2_with fail
 refine AL.mono ?_
 rintro e w6 ⟨rfl,hb6⟩
 have HI6:Hid (I w6):=HOK.out.blw _ _ hI5 hb6
 clear AL hI5 hb6
 go_wp2_with fail
 refine (num_any c w6).mono ?_
 rintro e w7 ⟨rfl,hw7⟩
 rw [hw7]
 clear hw7
 go_wp2_with fail
 go_ret
 exact ⟨by simp,HI6.out⟩
end Go.Proofs.YtondkinefmjpjaaGreat
