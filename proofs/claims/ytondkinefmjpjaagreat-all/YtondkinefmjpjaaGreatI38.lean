import Derived.Test.YtondkinefmjpjaaGreatI26
import Derived.Test.YtondkinefmjpjaaGreatI27
set_option maxHeartbeats 8000000
set_option maxRecDepth 100000
namespace Go.Proofs.YtondkinefmjpjaaGreat
open Go.RowKit
def u8s (l:List Nat):List Value:=l.map fun (n:Nat) => Value.int .u8 n
theorem bv8 {a:Nat} (h:a < 256):(BitVec.ofInt 8 (a:Int)).toNat = a:=by
 rw [BitVec.ofInt_natCast,BitVec.toNat_ofNat];exact Nat.mod_eq_of_lt (by omega)
theorem and_nat {a b:Nat} (ha:a < 256) (hb:b < 256):bits BinOp.and IntKind.u8 (a:Int) (b:Int) = ((a &&& b:Nat):Int):=by
 show IntKind.u8.wrap ((BitVec.ofInt 8 (a:Int) &&& BitVec.ofInt 8 (b:Int)).toNat:Int) = _
 rw [BitVec.toNat_and,bv8 ha,bv8 hb,IntKind.wrap_u8]
 have:a &&& b <= a:=Nat.and_le_left
 omega
theorem andNot_nat {a b:Nat} (ha:a < 256) (hb:b < 256):bits BinOp.andNot IntKind.u8 (a:Int) (b:Int) = ((a &&& (255 ^^^ b):Nat):Int):=by
 show IntKind.u8.wrap ((BitVec.ofInt 8 (a:Int) &&& ~~~ BitVec.ofInt 8 (b:Int)).toNat:Int) = _
 rw [BitVec.toNat_and,BitVec.toNat_not,bv8 ha,bv8 hb,IntKind.wrap_u8]
 have e:2 ^ 8 - 1 - b = 255 ^^^ b:=by
  apply Nat.eq_of_testBit_eq
  intro j
  by_cases hj:j < 8
  ·rw [testBit_not hb hj]
   have h1:=Nat.testBit_two_pow_sub_succ (x:=b) (n:=8) (by omega) j
   rw [show 2 ^ 8 - 1 - b = 2 ^ 8 - (b + 1) by omega,h1]
   simp [hj]
  ·have h2:(255 ^^^ b) < 2 ^ 8:=Nat.xor_lt_two_pow (by decide) (by omega)
   rw [Nat.testBit_lt_two_pow (Nat.lt_of_lt_of_le h2 (Nat.pow_le_pow_right (by decide) (by omega))),Nat.testBit_lt_two_pow (Nat.lt_of_lt_of_le (show 2 ^ 8 - 1 - b < 2 ^ 8 by omega) (Nat.pow_le_pow_right (by decide) (by omega)))]
 rw [e]
 have:a &&& (255 ^^^ b) <= a:=Nat.and_le_left
 omega
theorem u8s_at {w:World} {base g n cap:Nat} {l:List Nat} (h:w.ownsRow base 77 1 (.slice (some ⟨g,0,none⟩) n cap) n (u8s l)) (hl:l.length = n) (j:Nat) (hj:j < n):w.cell? ⟨g,j,none⟩ = some (.int .u8 ((l.getD j 0:Nat):Int)):=by
 rw [h.cellAt j (by omega)];simp [u8s,List.getElem?_map,List.getElem?_eq_getElem (show j < l.length by omega)]
theorem makeLink_any (base p q:Nat) (ms:List Nat) (sv:Value) (w:World) (hs:w.ownsRow base 77 1 sv ms.length (u8s ms)) (hp:p < ms.length) (hq:q < ms.length) (hl:ms.length <= 100) (hm:∀ m,m ∈ ms -> m < 256) :
  Calls Tryz.prog 125 #[.int .i64 p,.int .i64 q,sv] w fun e w' => e = .returned (.agg #[.int .i64 p,.int .i64 q,.int .u8 ((ms.getD q 0 &&& ms.getD p 0:Nat):Int),.int .u8 ((ms.getD q 0 &&& (255 ^^^ ms.getD p 0):Nat):Int)]) /\ Below w.heap.size w w':=by
 obtain ⟨g,cap,rfl⟩:=vown_some hs (by omega)
 have c1:=u8s_at hs rfl p hp
 have c2:=u8s_at hs rfl q hq
 have m1:ms.getD p 0 < 256:=by rw [List.getD_eq_getElem?_getD,List.getElem?_eq_getElem hp];exact hm _ (List.getElem_mem hp)
 have m2:ms.getD q 0 < 256:=by rw [List.getD_eq_getElem?_getD,List.getElem?_eq_getElem hq];exact hm _ (List.getElem_mem hq)
 obtain ⟨A,hA⟩:∃ A,ms.getD p 0 = A:=⟨_,rfl⟩
 obtain ⟨B,hB⟩:∃ B,ms.getD q 0 = B:=⟨_,rfl⟩
 rw [hA] at c1 m1 ⊢
 rw [hB] at c2 m2 ⊢
 have b1:=and_nat m2 m1
 have b2:=andNot_nat m2 m1
 have lg:=World.block_lt_of_cell? _ _ c1
 have bp:(p:Int) < (ms.length:Int):=by omega
 have bq:(q:Int) < (ms.length:Int):=by omega
 clear hm hs hA hB
 go_enter Tryz.func125,Tryz.ntmps125
 go_wp2_with fail
 go_region
 all_goals go_wp2_with fail
 all_goals refine bodyPost_ret (v:=.agg #[.int .i64 p,.int .i64 q,.int .u8 ((B &&& A:Nat):Int),.int .u8 ((B &&& (255 ^^^ A):Nat):Int)]) (by simp [results,Tryz.results125,go_sem]) rfl ⟨rfl,?_⟩
 all_goals exact ⟨rfl,rfl,rfl,by simp,fun i hi => Below.heap_alloc _ _ _ hi⟩
theorem run_append_none {P:Program} (w:World) (t ty e:TypeId) (i:TypeInfo) (ht:P.underlying t = some (.slice e)) (hi:P.info? e = some i) (a:Addr) (n cap:Nat) (h:n <= cap) :
  (Builtin.append_ #[t,t] ty #[.slice (some a) n cap,.slice none 0 0]).run P w = .ok (.slice (some a) n cap) w:=by
 simp [Builtin.append_,run_underlying ht,sizeOf,typeInfo,hi,Builtin.lenOf,Builtin.firstCells,loadCells,h,storeCells]
theorem wpList_append_none {P:Program} {w:World} {ops:Array Oper} {rest:List Oper} {o:Oper} {a:Act} {Q:Exit -> Act -> World -> Prop} (hg:o.guard = none) (s x:Operand) (t:TypeId) (hop:o.op = Op.call { callee:=Callee.builtin Builtin.append,args:=#[s,x],argTypes:=#[t,t] })
  (e:TypeId) (i:TypeInfo) (ht:P.underlying t = some (.slice e)) (hi:P.info? e = some i) (ad:Addr) (n cap:Nat) (hs:a.eval s = .slice (some ad) n cap) (hx:a.eval x = .slice none 0 0) (h:n <= cap) (hK:wpList P ops Q rest (a.put o.dst (.slice (some ad) n cap)) w):wpList P ops Q (o :: rest) a w:=by
 refine wpList_plain hg fun K' hK' => ?_
 have hrun:=run_append_none (P:=P) w t o.type e i ht hi ad n cap h
 unfold Oper.wp
 simp [execOp,hop,resolve,invoke,builtin,hs,hx,hrun,Result.andThen]
 exact hK' _ _ hK
theorem wpList_append_row {w:World} {ops:Array Oper} {rest:List Oper} {o:Oper} {a:Act} {Q:Exit -> Act -> World -> Prop} (hg:o.guard = none) (s x:Operand) (hop:o.op = Op.call { callee:=Callee.builtin Builtin.append,args:=#[s,x],argTypes:=#[28,28] })
  (B B':Nat) (ad:Addr) (n cap m:Nat) (xs:List Value) (v2:Value) (ys:List Nat) (hs:a.eval s = .slice (some ad) n cap) (hx:a.eval x = v2) (hown:w.ownsRow B 3 1 (.slice (some ad) n cap) n xs) (ho2:w.ownsRow B' 3 1 v2 m (nats ys)) (hm:ys.length = m) (hn:n + m <= 100000) (hB:B <= w.heap.size)
  (hK:∀ v' w',w'.ownsRow B 3 1 v' (n + m) (xs ++ nats ys) -> w.grownBy w' (Value.slice (some ad) n cap).ownBlock -> wpList Tryz.prog ops Q rest (a.put o.dst v') w'):wpList Tryz.prog ops Q (o :: rest) a w:=by
 obtain ⟨i0,hi,hz0,hz1,hz2⟩:=info_parts Tryz.info3
 rcases ho2.2 with ⟨rfl,hm0⟩ | ⟨g,c2,cur,rfl,h1,h2,_⟩
 ·have hcap:n <= cap:=by
   rcases hown.2 with ⟨h,_⟩ | ⟨g,cap',cur,h,_,_,h3,_⟩
   ·cases h
   ·simp only [Value.slice.injEq,true_and] at h
    obtain ⟨_,rfl⟩:=h;exact h3
  have hy:ys = []:=List.eq_nil_of_length_eq_zero (by omega)
  subst hy
  refine wpList_append_none hg s x 28 hop 3 i0 Tryz.underlying28 hi ad n cap hs hx hcap (hK _ _ ?_ ⟨rfl,rfl,rfl,Nat.le_refl _,fun _ _ _ => rfl⟩)
  rw [hm0];simpa [nats] using hown
 ·refine wpList_append_own _ hg s x 28 hop B 3 i0 (.int .i64 0) 1 8 Tryz.underlying28 hi hz0 hz1 hz2 rfl (by decide) _ n xs hs hown ⟨g,0,none⟩ m c2 (nats ys) hx (by simp [nats,hm]) (fun j u hj => ?_) (fun u hu => ?_) (by unfold maxLen;omega) (by omega) hB (fun v' w' q1 q2 _ => hK v' w' q1 q2)
  ·have hjl:j < ys.length:=by
    have:=(List.getElem?_eq_some_iff.1 hj).1
    simpa [nats] using this
   have e:=ho2.cellAt j (by omega)
   rw [hj] at e
   by_cases hj0:j = 0
   ·subst hj0;simpa [Addr.add] using e
   ·simpa [Addr.add,hj0] using e
  ·obtain ⟨y,_,rfl⟩:=List.mem_map.1 hu
   rfl
def dpL:Nat -> List (Nat × Nat) -> Nat -> Nat -> Bool
 | 0,lk,at',came => (List.range lk.length).all fun i => !(decide ((lk.getD i (0,0)).1 = at') && decide ((lk.getD i (0,0)).2 ≠ came))
 | k + 1,lk,at',came => (List.range lk.length).all fun i => !(decide ((lk.getD i (0,0)).1 = at') && decide ((lk.getD i (0,0)).2 ≠ came)) || dpL k lk (lk.getD i (0,0)).2 at'
def deepE (n:Nat) (es:List (Nat × Nat)):Bool:=(List.range n).all fun i => dpL 3 (lkE es) i 9
theorem deep1:(allE 3 (List.range 1)).all (deepE 1) = true:=by decide
theorem deep2:(allE 3 (List.range 2)).all (deepE 2) = true:=by decide +kernel
theorem deep3:(allE 3 (List.range 3)).all (deepE 3) = true:=by decide +kernel
theorem deep4:(allE 3 (List.range 4)).all (deepE 4) = true:=by decide +kernel
theorem Ears.deep {ms:List Nat} {es:List (Nat × Nat)} (h1:1 <= ms.length) (h4:ms.length <= 4) (h:Ears ms (List.range ms.length) es) {i:Nat} (hi:i < ms.length):dpL 3 (lkE es) i 9 = true:=by
 have hm:=h.all 3 (by rw [List.length_range];exact h4)
 have hg:∀ n,n = ms.length -> (allE 3 (List.range n)).all (deepE n) = true:=by
  intro n hn
  match n,hn with
  | 0,hn => omega
  | 1,_ => exact deep1
  | 2,_ => exact deep2
  | 3,_ => exact deep3
  | 4,_ => exact deep4
  | n + 5,hn => omega
 exact List.all_eq_true.1 (List.all_eq_true.1 (hg _ rfl) es hm) i (List.mem_range.2 hi)
def wfS (k:Nat) (lk:List (Nat × Nat)) (at' came:Nat) (i:Nat):List Nat:=if (lk.getD i (0,0)).1 = at' /\ (lk.getD i (0,0)).2 ≠ came then i :: wfL k lk (lk.getD i (0,0)).2 at' else []
def wfP (k:Nat) (lk:List (Nat × Nat)) (at' came:Nat) (j:Nat):List Nat:=(List.range j).flatMap (wfS k lk at' came)
theorem wfP_succ (k:Nat) (lk:List (Nat × Nat)) (at' came:Nat) (j:Nat):wfP k lk at' came (j + 1) = wfP k lk at' came j ++ wfS k lk at' came j:=by
 simp [wfP,List.range_succ,List.flatMap_append]
theorem wfP_all (k:Nat) (lk:List (Nat × Nat)) (at' came:Nat):wfP k lk at' came lk.length = wfL (k + 1) lk at' came:=rfl
theorem nats_append (a b:List Nat):nats (a ++ b) = nats a ++ nats b:=by simp [nats]
theorem walkFrom_step (k base:Nat) (ms:List Nat) (lk:List (Nat × Nat)) (lv:Value) (at' came:Nat) (cv:Int) (hcv:∀ i,i < lk.length -> (((lk.getD i (0,0)).2:Int) = cv ↔ (lk.getD i (0,0)).2 = came)) (hlk:lk.length < 100) (hbig:∀ j,j <= lk.length -> (wfP k lk at' came j).length <= 10000) (hbs:∀ j,j < lk.length -> (wfS k lk at' came j).length <= 10000) (w:World) (hl:w.ownsRow base 163 4 lv lk.length (lkcells ms lk))
  (IH:∀ i,i < lk.length -> (lk.getD i (0,0)).1 = at' -> (lk.getD i (0,0)).2 ≠ came -> ∀ u:World,Fr (fun _ => False) w u -> Calls Tryz.prog 90 #[lv,.int .i64 (lk.getD i (0,0)).2,.int .i64 at'] u fun e w' => ∃ a c,e = .returned (.slice a (wfL k lk (lk.getD i (0,0)).2 at').length c) /\ w'.ownsRow u.heap.size 3 1 (.slice a (wfL k lk (lk.getD i (0,0)).2 at').length c) (wfL k lk (lk.getD i (0,0)).2 at').length (nats (wfL k lk (lk.getD i (0,0)).2 at')) /\ Below u.heap.size u w') :
  Calls Tryz.prog 90 #[lv,.int .i64 at',.int .i64 cv] w fun e w' => ∃ a c,e = .returned (.slice a (wfL (k + 1) lk at' came).length c) /\ w'.ownsRow w.heap.size 3 1 (.slice a (wfL (k + 1) lk at' came).length c) (wfL (k + 1) lk at' came).length (nats (wfL (k + 1) lk at' came)) /\ Below w.heap.size w w':=by
 obtain ⟨la,lcap,rfl⟩:=vown_form hl
 have HIH:Hid _:=IH
 obtain ⟨i0,hi,hz0,hz1,hz2⟩:=info_parts Tryz.info3
 have HI:Hid _:=hi
 have HZ0:Hid _:=hz0
 have HZ1:Hid _:=hz1
 have HZ2:Hid _:=hz2
 clear hi hz0 hz1 hz2
 have HCV:Hid _:=hcv
 have HBIG:Hid _:=hbig
 have HBS:Hid _:=hbs
 have HEND:Hid _:=wfP_all k lk at' came
 clear IH hcv hbig hbs
 go_enter Tryz.func90,Tryz.ntmps90
 go_wp2_with fail
 go_loopw [7,8,9,12] (fun rv _ _ iv wr => ∃ j:Nat,j <= lk.length /\ iv = .int .i64 j /\ wr.ownsRow w.heap.size 3 1 rv (wfP k lk at' came j).length (nats (wfP k lk at' came j)) /\ Below w.heap.size w wr) (fun _ _ _ iv _ => lk.length - (intOf iv).toNat)
 case atStart => exact ⟨0,Nat.zero_le _,rfl,World.ownsRow_nil _ _ _ _,Below.refl _ _⟩
 case round =>
  obtain ⟨j,hj,rfl,ho,hb⟩:=hrel
  obtain ⟨ra,rcap,hrv⟩:=vown_form ho
  subst hrv
  by_cases hlt:j < lk.length
  ·have hor:=vown_below hl hb
   obtain ⟨g,cap',he⟩:=vown_some hor (by omega)
   simp only [Value.slice.injEq,true_and] at he
   obtain ⟨rfl,rfl⟩:=he
   obtain ⟨x0,x1,x2,x3⟩:=lkcells_at ms lk j hlt
   have y0:=(hor.cellAt (j * 4) (by omega)).trans x0
   have y1:=(hor.cellAt (j * 4 + 1) (by omega)).trans x1
   have y2:=(hor.cellAt (j * 4 + 2) (by omega)).trans x2
   have y3:=(hor.cellAt (j * 4 + 3) (by omega)).trans x3
   have HSU:Hid _:=wfP_succ k lk at' came j
   have HB1:=HBIG.out (j + 1) (by omega)
   have HIHj:=HIH.out j hlt
   have HCJ:=HCV.out j hlt
   have hws:Hid (wfS k lk at' came j = if (lk.getD j (0,0)).1 = at' /\ (lk.getD j (0,0)).2 ≠ came then j :: wfL k lk (lk.getD j (0,0)).2 at' else []):=rfl
   obtain ⟨s,hsE⟩:∃ s,ms.getD (lk.getD j (0,0)).2 0 &&& ms.getD (lk.getD j (0,0)).1 0 = s:=⟨_,rfl⟩
   obtain ⟨fr,hfE⟩:∃ fr,ms.getD (lk.getD j (0,0)).2 0 &&& (255 ^^^ ms.getD (lk.getD j (0,0)).1 0) = fr:=⟨_,rfl⟩
   rw [hsE] at y2
   rw [hfE] at y3
   obtain ⟨p,hp⟩:∃ p,(lk.getD j (0,0)).1 = p:=⟨_,rfl⟩
   obtain ⟨q,hq⟩:∃ q,(lk.getD j (0,0)).2 = q:=⟨_,rfl⟩
   rw [hp] at y0 hws HIHj
   rw [hq] at y1 hws HIHj HCJ
   have lg:=World.block_lt_of_cell? _ _ y0
   have bj:(j:Int) < (lk.length:Int):=by omega
   have hws':=hb.size
   by_cases hc:p = at' /\ q ≠ came
   ·have hw0:Hid (wfS k lk at' came j = j :: wfL k lk q at'):=by rw [Hid,hws.out,if_pos hc]
    have hlen:=HBS.out j hlt
    rw [hw0.out] at hlen
    have e1:((p:Int) == (at':Int)) = true:=by simp [hc.1]
    have e2:((q:Int) != cv) = true:=by simp;exact fun h => hc.2 (HCJ.1 h)
    have CALL:=HIHj hc.1 hc.2
    obtain ⟨L,hL⟩:∃ L,wfL k lk q at' = L:=⟨_,rfl⟩
    obtain ⟨Pj,hPj⟩:∃ Pj,wfP k lk at' came j = Pj:=⟨_,rfl⟩
    rw [hL] at CALL hlen
    have HSU2:Hid (wfP k lk at' came (j + 1) = Pj ++ [j] ++ L):=by rw [Hid,HSU.out,hw0.out,hL,hPj];simp
    rw [hPj] at ho ⊢
    have hPl:=HBIG.out j (by omega)
    rw [hPj] at hPl
    rw [HSU2.out] at HB1
    simp only [List.length_append,List.length_cons,List.length_nil] at HB1 hlen
    have HCALL:Hid _:=CALL
    clear hor x0 x1 x2 x3 HIHj HCJ hws hc HSU hsE hfE hp hq hw0 hL hPj CALL
    have HV1:Hid (∀ j' u,[Value.int .i64 (j:Int)][j']? = some u -> ((wr.alloc (.cells #[.int .i64 p,.int .i64 q,.int .u8 s,.int .u8 fr] 163)).alloc (.cells #[.int .i64 (j:Int)] 3)).cell? ((⟨wr.heap.size + 1,0,none⟩:Addr).add j') = some u):=by
     have:=vone_new (wr.alloc (.cells #[.int .i64 p,.int .i64 q,.int .u8 s,.int .u8 fr] 163)) (.int .i64 (j:Int)) 3
     rw [World.size_alloc] at this
     exact this
    go_upto_region 7 with (at_builtin;refine wpList_append_own _ rfl (.tmp 27) (.tmp 29) 28 rfl w.heap.size 3 i0 (.int .i64 0) 1 8 Tryz.underlying28 HI.out HZ0.out HZ1.out HZ2.out rfl (by decide) (.slice ra Pj.length rcap) _ _ rfl ((ho.alloc _).alloc _) ⟨wr.heap.size + 1,0,none⟩ 1 1 [.int .i64 j] rfl rfl HV1.out (by intro u hu;simp at hu;subst hu;rfl) (by unfold maxLen;omega) (by omega) (by simp;omega) ?_;intro v6 w6 hown6 hgrow6 _)
    have hb6:Below w.heap.size w w6:=((hb.alloc hws' _).alloc (by simp;omega) _).grown hgrow6 (by simp;omega) (fun i hi => (ho.lt i hi).1)
    have zb:w6.heap[wr.heap.size]? = some (.cells #[.int .i64 p,.int .i64 q,.int .u8 s,.int .u8 fr] 163 (0,0)):=by
     rw [hgrow6.block wr.heap.size (by simp;omega) (fun e => by have:=(ho.lt _ e.symm).2;omega)]
     exact (Below.heap_alloc _ _ _ (by simp)).trans (vheap_alloc_new wr _)
    have zq:w6.cell? ⟨wr.heap.size,1,none⟩ = some (.int .i64 q):=by simp [World.cell?,zb]
    obtain ⟨g6,cap6,hv6⟩:=vown_some hown6 (by omega)
    subst hv6
    have CALL:=HCALL.out w6 ⟨hb6.size,hb6.os,hb6.tape,hb6.output,fun i hi _ => hb6.block i hi⟩
    have HB6:Hid (Below w.heap.size w w6):=hb6
    clear hgrow6 zb hb6 HCALL HV1
    go_wp2_with (first | (go_at_call 90;refine CALL.mono ?_;rintro e w7 ⟨a2,c2,rfl,o2,b2⟩) | (at_builtin;refine wpList_append_row rfl (.tmp 31) (.tmp 36) rfl w.heap.size _ ⟨g6,0,none⟩ (Pj.length + 1) cap6 L.length _ _ L rfl rfl (vown_below hown6 b2) o2 rfl (by omega) (by have:=HB6.out.size;have:=b2.size;omega) ?_;intro v8 w8 hown8 hgrow8;obtain ⟨a8,c8,rfl⟩:=vown_form hown8))
    have hsz6:=HB6.out.size
    have hsz7:=b2.size
    refine ⟨⟨j + 1,by omega,by go_num,?_,(HB6.out.trans (b2.mono hsz6)).grown hgrow8 (by omega) (fun i hi => (hown6.lt i hi).1)⟩,by simp [intOf];omega⟩
    rw [HSU2.out,nats_append,nats_append,List.length_append,List.length_append]
    exact hown8
   ·have hw0:Hid (wfS k lk at' came j = []):=by rw [Hid,hws.out,if_neg hc]
    have NX:Hid ((wr.alloc (.cells #[.int .i64 p,.int .i64 q,.int .u8 s,.int .u8 fr] 163)).ownsRow w.heap.size 3 1 (.slice ra (wfP k lk at' came j).length rcap) (wfP k lk at' came (j + 1)).length (nats (wfP k lk at' came (j + 1)))):=by
     rw [Hid,HSU.out,hw0.out,List.append_nil];exact ho.alloc _
    have HLN:Hid ((wfP k lk at' came (j + 1)).length = (wfP k lk at' came j).length):=by rw [Hid,HSU.out,hw0.out,List.append_nil]
    have e1:((p:Int) == (at':Int)) = false ∨ (((p:Int) == (at':Int)) = true /\ ((q:Int) != cv) = false):=by
     by_cases hpa:p = at'
     ·right
      refine ⟨by simp [hpa],?_⟩
      have hqc:q = came:=Classical.byContradiction fun h => hc ⟨hpa,h⟩
      simp [HCJ.2 hqc]
     ·left;simp;omega
    clear hor x0 x1 x2 x3 HIHj HCJ hws hc HSU hsE hfE hp hq hw0
    rcases e1 with e1 | ⟨e1,e2⟩
    ·go_wp2_with fail
     go_roundw
     case rel => exact ⟨j + 1,by omega,by go_num,NX.out,hb.alloc hws' _⟩
     case measure => simp [intOf];omega
    ·go_wp2_with fail
     go_roundw
     case rel => exact ⟨j + 1,by omega,by go_num,NX.out,hb.alloc hws' _⟩
     case measure => simp [intOf];omega
  ·have hjj:j = lk.length:=by omega
   subst hjj
   go_wp2_with fail
   go_ret
   rw [HEND.out] at ho
   rw [HEND.out]
   exact ⟨ra,rcap,rfl,ho,hb⟩
theorem walkFrom_any (base:Nat) (ms:List Nat) (lk:List (Nat × Nat)) (lv:Value) (hlk:lk.length < 100) (hsm:∀ k at' came,k <= 4 -> (∀ j,j <= lk.length -> (wfP k lk at' came j).length <= 10000) /\ ∀ j,j < lk.length -> (wfS k lk at' came j).length <= 10000) (k:Nat) (hk:k <= 4) (at' came:Nat) (cv:Int) (hcv:∀ i,i < lk.length -> (((lk.getD i (0,0)).2:Int) = cv ↔ (lk.getD i (0,0)).2 = came)) (hd:dpL k lk at' came = true) (w:World) (hl:w.ownsRow base 163 4 lv lk.length (lkcells ms lk)) :
  Calls Tryz.prog 90 #[lv,.int .i64 at',.int .i64 cv] w fun e w' => ∃ a c,e = .returned (.slice a (wfL (k + 1) lk at' came).length c) /\ w'.ownsRow w.heap.size 3 1 (.slice a (wfL (k + 1) lk at' came).length c) (wfL (k + 1) lk at' came).length (nats (wfL (k + 1) lk at' came)) /\ Below w.heap.size w w':=by
 induction k generalizing at' came cv w with
 | zero =>
  refine walkFrom_step 0 base ms lk lv at' came cv hcv hlk (hsm 0 at' came (by omega)).1 (hsm 0 at' came (by omega)).2 w hl (fun i hi h1 h2 => ?_)
  have:=List.all_eq_true.1 hd i (List.mem_range.2 hi)
  have h1':decide ((lk.getD i (0,0)).1 = at') = true:=decide_eq_true h1
  have h2':decide ((lk.getD i (0,0)).2 ≠ came) = true:=decide_eq_true h2
  rw [h1',h2'] at this
  simp only [Bool.and_self,Bool.not_true,Bool.false_eq_true] at this
 | succ k ih =>
  refine walkFrom_step (k + 1) base ms lk lv at' came cv hcv hlk (hsm (k + 1) at' came hk).1 (hsm (k + 1) at' came hk).2 w hl (fun i hi h1 h2 u hf => ?_)
  have:=List.all_eq_true.1 hd i (List.mem_range.2 hi)
  refine ih (by omega) (lk.getD i (0,0)).2 at' (at':Int) (fun q _ => by omega) ?_ u (hf.own (mps_none _) hl)
  have h1':decide ((lk.getD i (0,0)).1 = at') = true:=decide_eq_true h1
  have h2':decide ((lk.getD i (0,0)).2 ≠ came) = true:=decide_eq_true h2
  rw [h1',h2'] at this
  simpa only [Bool.and_self,Bool.not_true,Bool.false_or] using this
end Go.Proofs.YtondkinefmjpjaaGreat
namespace Go.Proofs.YtondkinefmjpjaaGreat
def wfB:Nat -> Nat
 | 0 => 0
 | k + 1 => 6 * (1 + wfB k)
theorem wfL_len (lk:List (Nat × Nat)) (h:lk.length <= 6) (k:Nat):∀ at' came,(wfL k lk at' came).length <= wfB k:=by
 induction k with
 | zero => intro at' came;simp [wfL,wfB]
 | succ k ih =>
  intro at' came
  refine Nat.le_trans (flatMap_len_le (List.range lk.length) _ (1 + wfB k) (fun i _ => ?_)) ?_
  ·show (if (lk.getD i (0,0)).1 = at' /\ (lk.getD i (0,0)).2 ≠ came then i :: wfL k lk (lk.getD i (0,0)).2 at' else []).length <= _
   split
   ·have:=ih (lk.getD i (0,0)).2 at'
    simp only [List.length_cons];omega
   ·simp
  ·rw [List.length_range,wfB]
   exact Nat.mul_le_mul_right _ h
theorem wfS_len (lk:List (Nat × Nat)) (h:lk.length <= 6) (k at' came j:Nat):(wfS k lk at' came j).length <= 1 + wfB k:=by
 unfold wfS
 split
 ·have:=wfL_len lk h k (lk.getD j (0,0)).2 at'
  simp only [List.length_cons];omega
 ·simp
theorem wfP_len (lk:List (Nat × Nat)) (h:lk.length <= 6) (k at' came j:Nat) (hj:j <= lk.length):(wfP k lk at' came j).length <= 6 * (1 + wfB k):=by
 refine Nat.le_trans (flatMap_len_le (List.range j) _ (1 + wfB k) (fun i _ => wfS_len lk h k at' came i)) ?_
 rw [List.length_range]
 exact Nat.mul_le_mul_right _ (by omega)
theorem wf_small {lk:List (Nat × Nat)} (h:lk.length <= 6):∀ k at' came,k <= 4 -> (∀ j,j <= lk.length -> (wfP k lk at' came j).length <= 10000) /\ ∀ j,j < lk.length -> (wfS k lk at' came j).length <= 10000:=by
 intro k at' came hk
 have hB:wfB k <= 1554:=by
  match k,hk with
  | 0,_ => decide
  | 1,_ => decide
  | 2,_ => decide
  | 3,_ => decide
  | 4,_ => decide
 exact ⟨fun j hj => by have:=wfP_len lk h k at' came j hj;omega,fun j _ => by have:=wfS_len lk h k at' came j;omega⟩
end Go.Proofs.YtondkinefmjpjaaGreat
