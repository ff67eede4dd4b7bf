import Derived.Test.YtondkinefmjpjaaGreatI30
set_option maxHeartbeats 16000000
set_option maxRecDepth 100000
namespace Go.Proofs.YtondkinefmjpjaaGreat
open Go.RowKit Go.WideMaps Go.WideElems Go.Maps Go.Shelf
theorem join_step {f:FuncId} {args:Array Value} {u:World} {ob wb:Nat} {O W J:List Int -> Int} (h:Calls Tryz.prog f args u (JP ob wb O W J u)):Calls Tryz.prog f args u fun e w' => ∃ v,e = .returned v /\ (v = .tuple #[] /\ JP ob wb O W J u (.returned (.tuple #[])) w'):=by
 refine h.mono ?_
 rintro e w' ⟨rfl,h⟩
 exact ⟨_,rfl,rfl,rfl,h⟩
structure Bx3 (wr:World) (n vb OB VB2:Nat) (T:Array Value):Prop where
 b0:wr.heap[n]? = some (.cells #[.pointer (some ⟨vb,0,none⟩)] 23 (0,0))
 b1:wr.heap[n + 1]? = some (.cells T 110 (0,0))
 b2:wr.heap[n + 2]? = some (.cells #[.func (.func 49) #[] #[.pointer (some ⟨OB,0,none⟩),.pointer (some ⟨VB2,0,none⟩)]] 114 (0,0))
theorem Bx3.fr {M:Nat -> Prop} {wr wr':World} {n vb OB VB2:Nat} {T:Array Value} (h:Bx3 wr n vb OB VB2 T) (hf:Fr M wr wr') (hm:Mps wr M):Bx3 wr' n vb OB VB2 T:=by
 have k:∀ (i:Nat) c t z,wr.heap[i]? = some (Obj.cells c t z) -> wr'.heap[i]? = some (Obj.cells c t z):=fun i c t z hi => (hf.block i (vlt_of_block hi) (fun hM => by
  obtain ⟨es,c',e⟩:=hm i (vlt_of_block hi) hM
  rw [hi] at e;cases e)).trans hi
 exact ⟨k _ _ _ _ h.b0,k _ _ _ _ h.b1,k _ _ _ _ h.b2⟩
def ChL (w wr:World) (vb ob wb OB VB2:Nat) (P:PlanD) (ib:List Nat) (f:Nat -> List Int -> Int) (O:List Int -> Int) (own:Nat -> Option (Nat × List Int)) (rB r:Nat) (R:List Int -> Int) (t:List Int) (x:Int) (T:Array Value) (k:Nat):Prop :=
 ∃ g' own',ChS w wr vb ob wb OB w.heap.size (w.heap.size + 2) VB2 P ib f (fK P f (P.rel r).2.2 t x k) O own g' own' /\ CF 110 3 wr rB (bump R t x) /\ own' rB = some (1,[(r:Int)]) /\ Bx3 wr w.heap.size vb OB VB2 T /\ ∀ (i:Nat) q,own i = some q -> q.1 = 1 -> i ≠ rB -> wr.heap[i]? = w.heap[i]?
theorem PlanSt.atom {w:World} {vb:Nat} {P:PlanD} (hP:PlanOk P) (h:PlanSt w vb P) {i:Nat} (hi:i < P.ms.length):∃ ag acap pa pcap bp wg wcap wa wc bw,w.cell? ⟨vb,5,none⟩ = some (.slice (some ⟨ag,0,none⟩) P.ms.length acap) /\ w.cell? ⟨ag,i,none⟩ = some (.slice pa (P.pat i).length pcap) /\ w.ownsRow bp 205 2 (.slice pa (P.pat i).length pcap) (P.pat i).length (tmcells (P.pat i)) /\
  w.cell? ⟨vb,7,none⟩ = some (.slice (some ⟨wg,0,none⟩) P.ms.length wcap) /\ w.cell? ⟨wg,i,none⟩ = some (.slice wa (P.walk i).length wc) /\ w.ownsRow bw 3 1 (.slice wa (P.walk i).length wc) (P.walk i).length (nats (P.walk i)):=by
 obtain ⟨av,b3,pvs,h8,h9,h10,h11⟩:=h.pats
 obtain ⟨wv,b5,wvs,h14,h15,h16,h17⟩:=h.walks
 have hp:=hP.np
 obtain ⟨ag,acap,rfl⟩:=vown_some h9 (by omega)
 obtain ⟨wg,wcap,rfl⟩:=vown_some h15 (by omega)
 obtain ⟨bp,o1⟩:=h11 i (by omega)
 obtain ⟨bw,o2⟩:=h17 i hi
 have e1:=h9.cellAt i (by omega)
 have e2:=h15.cellAt i (by omega)
 rw [List.getD_eq_getElem?_getD,List.getElem?_eq_getElem (by omega),Option.getD_some] at o1 o2
 rw [List.getElem?_eq_getElem (by omega)] at e1 e2
 obtain ⟨pa,pcap,hpa⟩:=vown_form o1
 obtain ⟨wa,wc,hwa⟩:=vown_form o2
 rw [hpa] at e1 o1
 rw [hwa] at e2 o2
 rw [hp] at h8
 exact ⟨ag,acap,pa,pcap,bp,wg,wcap,wa,wc,bw,h8,e1,o1,h14,e2,o2⟩
theorem PlanSt.relat {w:World} {vb:Nat} {P:PlanD} (h:PlanSt w vb P) {r:Nat} (hr:r < P.rels.length):∃ lg lcap aa ac b',w.cell? ⟨vb,4,none⟩ = some (.slice (some ⟨lg,0,none⟩) P.rels.length lcap) /\ w.cell? ⟨lg,r * 3 + 1,none⟩ = some (.int .i64 (P.rel r).2.1) /\ w.cell? ⟨lg,r * 3 + 2,none⟩ = some (.slice aa (P.rel r).2.2.length ac) /\ w.ownsRow b' 3 1 (.slice aa (P.rel r).2.2.length ac) (P.rel r).2.2.length (nats (P.rel r).2.2):=by
 obtain ⟨rv,b2,rvs,h4,h5,h6,h7⟩:=h.rels
 obtain ⟨lg,lcap,rfl⟩:=vown_some h5 (by omega)
 obtain ⟨b',o1⟩:=h7 r hr
 obtain ⟨_,x1,x2⟩:=relcells_at P.rels rvs h6 r hr
 have e1:=(h5.cellAt (r * 3 + 1) (by omega)).trans x1
 have e2:=(h5.cellAt (r * 3 + 2) (by omega)).trans x2
 rw [List.getD_eq_getElem?_getD,List.getElem?_eq_getElem (by omega),Option.getD_some] at o1
 obtain ⟨aa,ac,haa⟩:=vown_form o1
 rw [haa] at e2 o1
 have hrel:P.rels[r] = P.rel r:=by unfold PlanD.rel;rw [List.getD_eq_getElem?_getD,List.getElem?_eq_getElem hr,Option.getD_some]
 rw [hrel] at e1
 exact ⟨lg,lcap,aa,ac,b',h4,e1,e2,o1⟩
theorem ChL.next {w wx wy w3:World} {vb ob wb OB VB2:Nat} {P:PlanD} {ib:List Nat} {f:Nat -> List Int -> Int} {O:List Int -> Int} {own own1 own3:Nat -> Option (Nat × List Int)} {g1 g3:Nat -> List Int -> Option Nat} {rB r:Nat} {R:List Int -> Int} {t:List Int} {x:Int} {T:Array Value} {k i:Nat} {a:List Int} {O' W' J:List Int -> Int} {e:Ending}
  (hS:ChS w wx vb ob wb OB w.heap.size (w.heap.size + 2) VB2 P ib f (fK P f (P.rel r).2.2 t x k) O own g1 own1) (hcr:CF 110 3 wx rB (bump R t x)) (hor:own1 rB = some (1,[(r:Int)])) (hB:Bx3 wx w.heap.size vb OB VB2 T) (hJ:JP ob wb O' W' J wx e wy)
  (h3:ChS w w3 vb ob wb OB w.heap.size (w.heap.size + 2) VB2 P ib f (updF (fK P f (P.rel r).2.2 t x k) i a x) O own g3 own3) (hk1:∀ (i:Nat) q,own i = some q -> q.1 = 1 -> i ≠ rB -> wx.heap[i]? = w.heap[i]?) (hlo:∀ i q,own i = some q -> i < w.heap.size) (hU:OwnUp wy w3 own1 own3) (hy:fK P f (P.rel r).2.2 t x (k + 1) = updF (fK P f (P.rel r).2.2 t x k) i a x) :
  ChL w w3 vb ob wb OB VB2 P ib f O own rB r R t x T (k + 1):=by
 have hF:Fr (fun i => (i = ob ∨ i = wb) ∨ IxB own1 i) wx w3:=(hJ.2.2.2.mono (fun _ _ h => Or.inl h)).trans (hU.fr.mono (fun _ _ h => Or.inr h)) (fun _ _ h => h)
 have hm:Mps wx (fun i => (i = ob ∨ i = wb) ∨ IxB own1 i):=by
  rintro i hi (h | h)
  ·exact mps_two hS.co hS.cw i hi h
  ·exact mps_own hS.W i hi h
 have hn:¬ ((rB = ob ∨ rB = wb) ∨ IxB own1 rB):=by
  rintro ((rfl | rfl) | ⟨q,hq,hk⟩)
  ·rw [hS.ow.2] at hor;simp at hor
  ·rw [hS.ow.1] at hor;simp at hor
  ·rw [hor] at hq;simp at hq;subst hq;simp at hk
 have hlt:rB < wy.heap.size:=Nat.lt_of_lt_of_le hcr.lt hJ.2.2.2.size
 refine ⟨g3,own3,by rw [hy];exact h3,hcr.fr hF hn,(hU.old rB hlt).trans hor,hB.fr hF hm,fun i q hq hq1 hi => ?_⟩
 have hil:=hlo i q hq
 have hox:own1 i = some q:=(hS.up.old i hil).trans hq
 refine (hF.block i (Nat.lt_of_lt_of_le hil hS.up.fr.size) ?_).trans (hk1 i q hq hq1 hi)
 rintro ((rfl | rfl) | ⟨q',hq',hk⟩)
 ·rw [hS.ow.2] at hox;simp at hox;subst hox;simp at hq1
 ·rw [hS.ow.1] at hox;simp at hox;subst hox;simp at hq1
 ·rw [hox] at hq';simp at hq';subst hq';omega
theorem ChL.fr {w wx wr:World} {vb ob wb OB VB2:Nat} {P:PlanD} {ib:List Nat} {f:Nat -> List Int -> Int} {O:List Int -> Int} {own:Nat -> Option (Nat × List Int)} {rB r:Nat} {R:List Int -> Int} {t:List Int} {x:Int} {T:Array Value} {k:Nat} (hlo:∀ i q,own i = some q -> i < w.heap.size) (h:ChL w wr vb ob wb OB VB2 P ib f O own rB r R t x T k) (hf:Fr (fun _ => False) wr wx):ChL w wx vb ob wb OB VB2 P ib f O own rB r R t x T k:=by
 obtain ⟨g',own',h1,h2,h3,h4,h5⟩:=h
 refine ⟨g',own',h1.fr hf,h2.fr hf (fun h => h),h3,h4.fr hf (mps_none _),fun i q hq hq1 hi => ?_⟩
 have e:=h5 i q hq hq1 hi
 refine (hf.block i ?_ (fun h => h)).trans e
 have hlt:=hlo i q hq
 exact Nat.lt_of_lt_of_le hlt h1.up.fr.size
theorem set6 {w5:World} {n:Nat} {z0 z1 z2 z3 z4 z5:Value} (h:w5.heap[n]? = some (.cells #[z0,z1,z2,z3,z4,z5] 93 (0,0))) (m0 m1 m2 m3 m4 m5:Value) :
  ((((((w5.setCell ⟨n,0,none⟩ m0).setCell ⟨n,1,none⟩ m1).setCell ⟨n,2,none⟩ m2).setCell ⟨n,3,none⟩ m3).setCell ⟨n,4,none⟩ m4).setCell ⟨n,5,none⟩ m5).heap[n]? = some (.cells #[m0,m1,m2,m3,m4,m5] 93 (0,0)) /\ Fr (fun i => i = n) w5 ((((((w5.setCell ⟨n,0,none⟩ m0).setCell ⟨n,1,none⟩ m1).setCell ⟨n,2,none⟩ m2).setCell ⟨n,3,none⟩ m3).setCell ⟨n,4,none⟩ m4).setCell ⟨n,5,none⟩ m5):=by
 have h0:=blk_setCell h 0 m0
 have h1:=blk_setCell h0 1 m1
 have h2:=blk_setCell h1 2 m2
 have h3:=blk_setCell h2 3 m3
 have h4:=blk_setCell h3 4 m4
 have h5:=blk_setCell h4 5 m5
 refine ⟨h5,?_⟩
 exact ((((((Fr.setCell (M:=fun i => i = n) ⟨n,0,none⟩ m0 (fun _ => rfl)).trans (Fr.setCell (M:=fun i => i = n) ⟨n,1,none⟩ m1 (fun _ => rfl)) (fun _ _ h => h)).trans (Fr.setCell (M:=fun i => i = n) ⟨n,2,none⟩ m2 (fun _ => rfl)) (fun _ _ h => h)).trans (Fr.setCell (M:=fun i => i = n) ⟨n,3,none⟩ m3 (fun _ => rfl)) (fun _ _ h => h)).trans (Fr.setCell (M:=fun i => i = n) ⟨n,4,none⟩ m4 (fun _ => rfl)) (fun _ _ h => h)).trans (Fr.setCell (M:=fun i => i = n) ⟨n,5,none⟩ m5 (fun _ => rfl)) (fun _ _ h => h))
theorem change_any (vb ob wb OB VB2 r:Nat) (P:PlanD) (hP:PlanOk P) (ib rb:List Nat) (f:Nat -> List Int -> Int) (hf:Tame P f) (R O:List Int -> Int) (own:Nat -> Option (Nat × List Int)) (g:Nat -> List Int -> Option Nat) (t:List Int) (ht:t ∈ boxN 3) (x:Int) (hx:-9 <= x /\ x <= 9) (w:World)
  (hpl:PlanSt w vb P) (hixs:∃ iv base,w.cell? ⟨vb,9,none⟩ = some iv /\ w.ownsRow base 166 1 iv ib.length (mapVs ib)) (hil:ib.length = P.lk.length) (hrows:∃ rv base,w.cell? ⟨vb,8,none⟩ = some rv /\ w.ownsRow base 130 1 rv rb.length (mapVs rb)) (hrb:rb.length = P.rels.length) (hr:r < P.rels.length) (hR:CF 110 3 w (rb.getD r 0) R)
  (ho:w.cell? ⟨OB,0,none⟩ = some (.map (some ob))) (hv2:w.cell? ⟨VB2,0,none⟩ = some (.pointer (some ⟨vb,0,none⟩))) (hwo:w.cell? ⟨vb,10,none⟩ = some (.map (some wb)))
  (hA:IxAll w P.ms P.lk ib (fun l => f (P.lk.getD l (0,0)).2) g) (hW:Own w ib P.lk.length g own) (how:own wb = some (0,[]) /\ own ob = some (4,[]) /\ own (rb.getD r 0) = some (1,[(r:Int)])) (hcw:CF 93 6 w wb (P.wor f)) (hco:CF 93 6 w ob O) :
  Calls Tryz.prog 48 #[.pointer (some ⟨vb,0,none⟩),.int .i64 r,.agg (i64s t).toArray,.int .i64 x,.func (.func 49) #[] #[.pointer (some ⟨OB,0,none⟩),.pointer (some ⟨VB2,0,none⟩)]] w
   fun e w' => e = .returned (.tuple #[]) /\ ∃ g' own',ChP w w' vb ob wb P ib (rb.getD r 0) r R f (fK P f (P.rel r).2.2 t x (P.rel r).2.2.length) O t x own g' own':=by
 have hxw:wr x = x:=wr_small (by omega) (by omega)
 obtain ⟨rB,hrB⟩:∃ rB,rb.getD r 0 = rB:=⟨_,rfl⟩
 rw [hrB] at hR how ⊢
 obtain ⟨rv,rbs,c8,o8⟩:=hrows
 obtain ⟨rg,rcap,rfl⟩:=vown_some o8 (by omega)
 have r8:=(o8.cellAt r (by omega)).trans (mapVs_at rb r (by omega))
 rw [hrB] at r8
 have l8:=World.block_lt_of_cell? _ _ c8
 have lr8:=World.block_lt_of_cell? _ _ r8
 have lrB:=hR.lt
 have brl:(r:Int) < (rb.length:Int):=by omega
 obtain ⟨t0,t1,t2,hte⟩:=three t (box_length ht)
 have hTT:(i64s t).toArray = #[.int .i64 t0,.int .i64 t1,.int .i64 t2]:=by rw [hte];rfl
 have ADD:=fun (u:World) (h:CF 110 3 u rB R) => addT_step rB R t x u h ht
 rw [hTT,hxw] at ADD
 rw [hTT]
 obtain ⟨ats,hats⟩:∃ ats,(P.rel r).2.2 = ats:=⟨_,rfl⟩
 have hal:ats.length <= 4:=by
  have h1:=nodup_le (m:=List.range P.ms.length) (hP.rat r hr).1 (fun i hi => List.mem_range.2 ((hP.rat r hr).2 i hi).1)
  have h2:=hP.n4
  rw [List.length_range,hats] at h1;omega
 have F0:∀ w1,(((w.alloc (.cells #[.pointer (some ⟨vb,0,none⟩)] 23)).alloc (.cells #[.int .i64 t0,.int .i64 t1,.int .i64 t2] 110)).alloc (.cells #[.func (.func 49) #[] #[.pointer (some ⟨OB,0,none⟩),.pointer (some ⟨VB2,0,none⟩)]] 114)).drew.grownBy w1 (some rB) -> CF 110 3 w1 rB (bump R t x) -> ChL w w1 vb ob wb OB VB2 P ib f O own rB r R t x #[.int .i64 t0,.int .i64 t1,.int .i64 t2] 0:=by
  intro w1 hg hc
  have e0:Fr (fun _ => False) w (((w.alloc (.cells #[.pointer (some ⟨vb,0,none⟩)] 23)).alloc (.cells #[.int .i64 t0,.int .i64 t1,.int .i64 t2] 110)).alloc (.cells #[.func (.func 49) #[] #[.pointer (some ⟨OB,0,none⟩),.pointer (some ⟨VB2,0,none⟩)]] 114)).drew :=
   (((Fr.alloc _ _).trans (Fr.alloc _ _) (fun _ _ h => h)).trans (Fr.alloc _ _) (fun _ _ h => h)).trans (Fr.drew _) (fun _ _ h => h)
  have hF:Fr (fun i => i = rB) w w1:=(e0.mono (fun _ _ h => h.elim)).trans (M':=fun i => i = rB) (Fr.of_grown hg (fun j _ e => (Option.some.inj e).symm)) (fun _ _ h => h)
  have hm:Mps w (fun i => i = rB):=by rintro i _ rfl;exact hR.isMap
  have hV:VUp w w1 own own:=VUp.of_maps hF (fun i _ e => by subst e;exact ⟨_,how.2.2⟩) (fun i _ e => by subst e;exact hc.isMap)
  have n0:¬ wb = rB:=fun e => by have:=how.1;rw [e,how.2.2] at this;simp at this
  have n4:¬ ob = rB:=fun e => by have:=how.2.1;rw [e,how.2.2] at this;simp at this
  have B0:Bx3 w1 w.heap.size vb OB VB2 #[.int .i64 t0,.int .i64 t1,.int .i64 t2]:=by
   refine ⟨?_,?_,?_⟩
   ·rw [hg.block w.heap.size (by simp;omega) (by simp;omega)]
    exact (Below.heap_alloc _ _ _ (by simp;omega)).trans ((Below.heap_alloc _ _ _ (by simp)).trans (vheap_alloc_new w _))
   ·rw [hg.block (w.heap.size + 1) (by simp) (by simp;omega)]
    refine (Below.heap_alloc _ _ _ (by simp)).trans ?_
    have:=vheap_alloc_new (w.alloc (.cells #[.pointer (some ⟨vb,0,none⟩)] 23)) (.cells #[.int .i64 t0,.int .i64 t1,.int .i64 t2] 110)
    rw [World.size_alloc] at this
    exact this
   ·rw [hg.block (w.heap.size + 2) (by simp) (by simp;omega)]
    have:=vheap_alloc_new ((w.alloc (.cells #[.pointer (some ⟨vb,0,none⟩)] 23)).alloc (.cells #[.int .i64 t0,.int .i64 t1,.int .i64 t2] 110)) (.cells #[.func (.func 49) #[] #[.pointer (some ⟨OB,0,none⟩),.pointer (some ⟨VB2,0,none⟩)]] 114)
    rw [World.size_alloc,World.size_alloc] at this
    exact this
  obtain ⟨iv,base,i1,i2⟩:=hixs
  refine ⟨g,own,⟨⟨by simp [World.cell?,B0.b2],by simp [World.cell?,B0.b0],hF.cell hm ho,hF.cell hm hv2,hF.cell hm hpl.H,hF.cell hm hwo⟩,hpl.fr hF hm,⟨iv,base,hF.cell hm i1,hF.own hm i2⟩,by rw [fK_zero];exact Ixs.keep hA hW hF (fun i q hq hk e => by subst e;rw [how.2.2] at hq;simp at hq;subst hq;simp at hk),hW.up hV,⟨how.1,how.2.1⟩,hV,by rw [fK_zero];exact hcw.fr hF n0,by rw [fK_zero];exact (hco.fr hF n4).congr (fun h _ => by rw [Int.sub_self,Int.add_zero])⟩,hc,how.2.2,B0,fun i q hq _ hi => hF.block i (by obtain ⟨es,k,e⟩:=hW.m i q hq;exact vlt_of_block e) hi⟩
 have HF0:Hid _:=F0
 have HX:Hid (wr x = x):=hxw
 have HTT:Hid ((i64s t).toArray = #[.int .i64 t0,.int .i64 t1,.int .i64 t2]):=hTT
 have hR0:CF 110 3 (((w.alloc (.cells #[.pointer (some ⟨vb,0,none⟩)] 23)).alloc (.cells #[.int .i64 t0,.int .i64 t1,.int .i64 t2] 110)).alloc (.cells #[.func (.func 49) #[] #[.pointer (some ⟨OB,0,none⟩),.pointer (some ⟨VB2,0,none⟩)]] 114)).drew rB R:=hR.block ((Below.heap_alloc _ _ _ (by simp;omega)).trans ((Below.heap_alloc _ _ _ (by simp;omega)).trans (Below.heap_alloc _ _ _ lrB)))
 have HHF:Hid (Tame P f):=hf
 have HLO:Hid (∀ i q,own i = some q -> i < w.heap.size):=fun i q hq => by obtain ⟨es,k,e⟩:=hW.m i q hq;exact vlt_of_block e
 have FW:∀ W3,((w.alloc (.cells #[.pointer (some ⟨vb,0,none⟩)] 23)).alloc (.cells #[.int .i64 t0,.int .i64 t1,.int .i64 t2] 110)).alloc (.cells #[.func (.func 49) #[] #[.pointer (some ⟨OB,0,none⟩),.pointer (some ⟨VB2,0,none⟩)]] 114) = W3 -> (W3.cell? ⟨vb,8,none⟩ = some (.slice (some ⟨rg,0,none⟩) rb.length rcap) /\ W3.cell? ⟨rg,r,none⟩ = some (.map (some rB)) /\ W3.cell? ⟨w.heap.size,0,none⟩ = some (.pointer (some ⟨vb,0,none⟩)) /\ W3.cell? ⟨w.heap.size + 1,0,none⟩ = some (.int .i64 t0) /\ W3.cell? ⟨w.heap.size + 1,1,none⟩ = some (.int .i64 t1) /\ W3.cell? ⟨w.heap.size + 1,2,none⟩ = some (.int .i64 t2)) /\ CF 110 3 W3.drew rB R /\ ∀ w1,W3.drew.grownBy w1 (some rB) -> CF 110 3 w1 rB (bump R t x) -> ChL w w1 vb ob wb OB VB2 P ib f O own rB r R t x #[.int .i64 t0,.int .i64 t1,.int .i64 t2] 0:=by
  rintro W3 rfl
  have e0:Fr (fun _ => False) w (((w.alloc (.cells #[.pointer (some ⟨vb,0,none⟩)] 23)).alloc (.cells #[.int .i64 t0,.int .i64 t1,.int .i64 t2] 110)).alloc (.cells #[.func (.func 49) #[] #[.pointer (some ⟨OB,0,none⟩),.pointer (some ⟨VB2,0,none⟩)]] 114)) :=
   ((Fr.alloc _ _).trans (Fr.alloc _ _) (fun _ _ h => h)).trans (Fr.alloc _ _) (fun _ _ h => h)
  have k0:=(Below.heap_alloc ((w.alloc (.cells #[.pointer (some ⟨vb,0,none⟩)] 23)).alloc (.cells #[.int .i64 t0,.int .i64 t1,.int .i64 t2] 110)) (.cells #[.func (.func 49) #[] #[.pointer (some ⟨OB,0,none⟩),.pointer (some ⟨VB2,0,none⟩)]] 114) w.heap.size (by simp;omega)).trans ((Below.heap_alloc (w.alloc (.cells #[.pointer (some ⟨vb,0,none⟩)] 23)) (.cells #[.int .i64 t0,.int .i64 t1,.int .i64 t2] 110) w.heap.size (by simp)).trans (vheap_alloc_new w (.cells #[.pointer (some ⟨vb,0,none⟩)] 23)))
  have k1:(((w.alloc (.cells #[.pointer (some ⟨vb,0,none⟩)] 23)).alloc (.cells #[.int .i64 t0,.int .i64 t1,.int .i64 t2] 110)).alloc (.cells #[.func (.func 49) #[] #[.pointer (some ⟨OB,0,none⟩),.pointer (some ⟨VB2,0,none⟩)]] 114)).heap[w.heap.size + 1]? = some (.cells #[.int .i64 t0,.int .i64 t1,.int .i64 t2] 110 (0,0)):=by
   refine (Below.heap_alloc _ _ _ (by simp)).trans ?_
   have:=vheap_alloc_new (w.alloc (.cells #[.pointer (some ⟨vb,0,none⟩)] 23)) (.cells #[.int .i64 t0,.int .i64 t1,.int .i64 t2] 110)
   rw [World.size_alloc] at this
   exact this
  exact ⟨⟨e0.cell (mps_none _) c8,e0.cell (mps_none _) r8,by unfold World.cell?;rw [k0];rfl,by unfold World.cell?;rw [k1];rfl,by unfold World.cell?;rw [k1];rfl,by unfold World.cell?;rw [k1];rfl⟩,hR0,HF0.out⟩
 obtain ⟨lg,lcap,aa,ac,bat,c4,_,c4r,oat⟩:=hpl.relat hr
 rw [hats] at c4r oat
 have hmp:=mps_ow hW
 have HC4:Hid (∀ wr own',VUp w wr own own' -> wr.cell? ⟨vb,4,none⟩ = some (.slice (some ⟨lg,0,none⟩) P.rels.length lcap) /\ wr.cell? ⟨lg,r * 3 + 2,none⟩ = some (.slice aa ats.length ac) /\ wr.ownsRow bat 3 1 (.slice aa ats.length ac) ats.length (nats ats)):=fun wr own' hu => ⟨hu.fr.cell hmp c4,hu.fr.cell hmp c4r,hu.fr.own hmp oat⟩
 have HFW:Hid _:=FW
 have HRB:Hid (rb.length = P.rels.length):=hrb
 have HIL:Hid (ib.length = P.lk.length):=hil
 clear FW F0 hxw hTT hte hA hW hcw hco hmp c4 c4r oat hixs hpl o8 ho hv2 hwo how hR hf hR0 c8 r8 l8 lr8 lrB hrb hil
 go_enter Tryz.func48,Tryz.ntmps48
 go_upto_region 1 with fail
 generalize hW3:((w.alloc (.cells #[.pointer (some ⟨vb,0,none⟩)] 23)).alloc (.cells #[.int .i64 t0,.int .i64 t1,.int .i64 t2] 110)).alloc (.cells #[.func (.func 49) #[] #[.pointer (some ⟨OB,0,none⟩),.pointer (some ⟨VB2,0,none⟩)]] 114) = W3
 obtain ⟨⟨d0,d1,d2,d3,d4,d5⟩,hR3,hN3⟩:=HFW.out W3 hW3
 have HN3:Hid _:=hN3
 clear hW3 hN3
 go_cut [] (fun wx => ChL w wx vb ob wb OB VB2 P ib f O own rB r R t x #[.int .i64 t0,.int .i64 t1,.int .i64 t2] 0)
 case first =>
  go_region_law (refine step_call rfl 74 #[.tmp 21,.tmp 22,.tmp 23] #[130,110,3] rfl enter74 #[.map (some rB),.agg #[.int .i64 t0,.int .i64 t1,.int .i64 t2],.int .i64 x] (by kernel_rfl) _ (ADD _ hR3) ?_;rintro v1 w1 ⟨rfl,hc1,hg1⟩)
  all_goals (go_wp2_with fail;go_meet)
  all_goals exact HN3.out w1 hg1 hc1
 case rest =>
  obtain ⟨u0,hu0⟩:∃ u0:World,u0 = wc:=⟨_,rfl⟩
  subst hu0
  have HL0:Hid (ChL w u0 vb ob wb OB VB2 P ib f O own rB r R t x #[.int .i64 t0,.int .i64 t1,.int .i64 t2] 0):=hcut
  obtain ⟨g1,own1,hS,_,_,hB,_⟩:=hcut
  obtain ⟨e4,e4r,eat⟩:=HC4.out u0 own1 hS.up
  have l4:=World.block_lt_of_cell? _ _ e4
  have l4r:=World.block_lt_of_cell? _ _ e4r
  have z0:u0.cell? ⟨w.heap.size,0,none⟩ = some (.pointer (some ⟨vb,0,none⟩)):=by simp [World.cell?,hB.b0]
  have lz0:=World.block_lt_of_cell? _ _ z0
  have bpr:(r:Int) < (P.rels.length:Int):=by omega
  clear hS hB d0 d1 d2 d3 d4 d5 hR3 HN3 ADD
  go_wp2_with fail
  go_loopw [11,12,13,35] (fun _ _ _ iv wr => ∃ k:Nat,k <= ats.length /\ iv = .int .i64 k /\ ChL w wr vb ob wb OB VB2 P ib f O own rB r R t x #[.int .i64 t0,.int .i64 t1,.int .i64 t2] k) (fun _ _ _ iv _ => ats.length - (intOf iv).toNat)
  case atStart => exact ⟨0,Nat.zero_le _,rfl,HL0.out⟩
  case round =>
   obtain ⟨k,hk,rfl,hL⟩:=hrel
   by_cases hlt:k < ats.length
   ·have HL:Hid (ChL w wr vb ob wb OB VB2 P ib f O own rB r R t x #[.int .i64 t0,.int .i64 t1,.int .i64 t2] k):=hL
    obtain ⟨g1,own1,hS,hcr,hor,hB,hk1⟩:=hL
    have HK1:Hid _:=hk1
    clear hk1
    obtain ⟨_,_,at1⟩:=HC4.out wr own1 hS.up
    obtain ⟨tg,tcap,he⟩:=vown_some at1 (by omega)
    simp only [Value.slice.injEq,true_and] at he
    obtain ⟨rfl,rfl⟩:=he
    have a0:=nats_at at1 rfl k hlt
    obtain ⟨i,hiE⟩:∃ i,ats.getD k 0 = i:=⟨_,rfl⟩
    have hik:ats[k] = i:=by rw [← hiE,List.getD_eq_getElem?_getD,List.getElem?_eq_getElem hlt,Option.getD_some]
    have him:i ∈ (P.rel r).2.2:=by rw [hats,← hik];exact List.getElem_mem hlt
    have hi:i < P.ms.length:=((hP.rat r hr).2 i him).1
    rw [hiE] at a0
    obtain ⟨ag,acap,pa,pcap,bp,wg,wcap,wa,wcp,bw,p5,p5i,po,p7,p7i,pw⟩:=hS.pl.atom hP hi
    have MATCH:=fun (u:World) (h:Fr (fun _ => False) wr u) => match_step bp (P.pat i) _ t u (h.own (mps_none _) po) (hP.patl i hi) (box_length ht) (fun q hq h1 => (hP.patn i hi q hq).1 h1)
    obtain ⟨m0,m1,m2,m3,m4,m5,hme⟩:=six (mVars (P.pat i) t) (box_length (mvars_ok hP hi ht).1)
    have hMM:(i64s (mVars (P.pat i) t)).toArray = #[.int .i64 m0,.int .i64 m1,.int .i64 m2,.int .i64 m3,.int .i64 m4,.int .i64 m5]:=by rw [hme];rfl
    obtain ⟨okb,hok⟩:∃ okb,mOk (P.pat i) t = okb:=⟨_,rfl⟩
    rw [hMM,HTT.out,hok] at MATCH
    have y0:wr.cell? ⟨w.heap.size,0,none⟩ = some (.pointer (some ⟨vb,0,none⟩)):=by simp [World.cell?,hB.b0]
    have y1:wr.cell? ⟨w.heap.size + 1,0,none⟩ = some (.int .i64 t0):=by simp [World.cell?,hB.b1]
    have y2:wr.cell? ⟨w.heap.size + 1,1,none⟩ = some (.int .i64 t1):=by simp [World.cell?,hB.b1]
    have y3:wr.cell? ⟨w.heap.size + 1,2,none⟩ = some (.int .i64 t2):=by simp [World.cell?,hB.b1]
    have bk:(k:Int) < (ats.length:Int):=by omega
    have bi:(i:Int) < (P.ms.length:Int):=by omega
    have HS:Hid _:=hS
    have HCR:Hid _:=hcr
    have HOR:Hid _:=hor
    have HB:Hid _:=hB
    have HPW:Hid (wr.ownsRow bw 3 1 (.slice wa (P.walk i).length wcp) (P.walk i).length (nats (P.walk i))):=pw
    have HMM:Hid _:=hMM
    clear hS hcr hor hB eat at1 po pw hme hMM e4 e4r l4 l4r z0 lz0
    have hfa:Fr (fun _ => False) wr (wr.alloc (.cells #[.int .i64 0,.int .i64 0,.int .i64 0,.int .i64 0,.int .i64 0,.int .i64 0] 93)).drew:=(Fr.alloc _ _).trans (Fr.drew _) (fun _ _ h => h)
    have SB:∀ w5,Below (wr.alloc (.cells #[.int .i64 0,.int .i64 0,.int .i64 0,.int .i64 0,.int .i64 0,.int .i64 0] 93)).drew.heap.size (wr.alloc (.cells #[.int .i64 0,.int .i64 0,.int .i64 0,.int .i64 0,.int .i64 0,.int .i64 0] 93)).drew w5 -> w5.heap[wr.heap.size]? = some (.cells #[.int .i64 0,.int .i64 0,.int .i64 0,.int .i64 0,.int .i64 0,.int .i64 0] 93 (0,0)):=fun w5 hb => (hb.block wr.heap.size (by simp)).trans (vheap_alloc_new _ _)
    have SC:∀ w5,Below (wr.alloc (.cells #[.int .i64 0,.int .i64 0,.int .i64 0,.int .i64 0,.int .i64 0,.int .i64 0] 93)).drew.heap.size (wr.alloc (.cells #[.int .i64 0,.int .i64 0,.int .i64 0,.int .i64 0,.int .i64 0,.int .i64 0] 93)).drew w5 -> w5.frozen? ⟨wr.heap.size,0,none⟩ = false /\ w5.frozen? ⟨wr.heap.size,1,none⟩ = false /\ w5.frozen? ⟨wr.heap.size,2,none⟩ = false /\ w5.frozen? ⟨wr.heap.size,3,none⟩ = false /\ w5.frozen? ⟨wr.heap.size,4,none⟩ = false /\ w5.frozen? ⟨wr.heap.size,5,none⟩ = false /\ w5.cell? ⟨wr.heap.size,0,none⟩ = some (.int .i64 0) /\ w5.cell? ⟨wr.heap.size,1,none⟩ = some (.int .i64 0) /\ w5.cell? ⟨wr.heap.size,2,none⟩ = some (.int .i64 0) /\ w5.cell? ⟨wr.heap.size,3,none⟩ = some (.int .i64 0) /\ w5.cell? ⟨wr.heap.size,4,none⟩ = some (.int .i64 0) /\ w5.cell? ⟨wr.heap.size,5,none⟩ = some (.int .i64 0):=by
     intro w5 hb
     have q:=SB w5 hb
     exact ⟨blk_free q 0,blk_free q 1,blk_free q 2,blk_free q 3,blk_free q 4,blk_free q 5,by simp [World.cell?,q],by simp [World.cell?,q],by simp [World.cell?,q],by simp [World.cell?,q],by simp [World.cell?,q],by simp [World.cell?,q]⟩
    have SE:∀ w5,Below (wr.alloc (.cells #[.int .i64 0,.int .i64 0,.int .i64 0,.int .i64 0,.int .i64 0,.int .i64 0] 93)).drew.heap.size (wr.alloc (.cells #[.int .i64 0,.int .i64 0,.int .i64 0,.int .i64 0,.int .i64 0,.int .i64 0] 93)).drew w5 -> _ /\ Fr (fun _ => False) wr _:=fun w5 hb => ⟨(set6 (SB w5 hb) (.int .i64 m0) (.int .i64 m1) (.int .i64 m2) (.int .i64 m3) (.int .i64 m4) (.int .i64 m5)).1,(hfa.trans (Fr.of_below hb) (fun _ _ h => h)).trans (set6 (SB w5 hb) (.int .i64 m0) (.int .i64 m1) (.int .i64 m2) (.int .i64 m3) (.int .i64 m4) (.int .i64 m5)).2 (fun i hi e => by omega)⟩
    have SC':∀ w5,Below (wr.alloc (.cells #[.int .i64 0,.int .i64 0,.int .i64 0,.int .i64 0,.int .i64 0,.int .i64 0] 93)).drew.heap.size (wr.alloc (.cells #[.int .i64 0,.int .i64 0,.int .i64 0,.int .i64 0,.int .i64 0,.int .i64 0] 93)).drew w5 -> ∀ G:Prop,(_ -> G) -> G:=fun w5 hb G hG => hG (SC w5 hb)
    have HSC:Hid _:=SC'
    have HSE:Hid _:=SE
    have HFA:Hid (Fr (fun _ => False) wr (wr.alloc (.cells #[.int .i64 0,.int .i64 0,.int .i64 0,.int .i64 0,.int .i64 0,.int .i64 0] 93)).drew):=hfa
    have HFD:Hid (Fr (fun _ => False) wr wr.drew):=Fr.drew _
    have HSD:Hid (∀ w5,Below wr.drew.heap.size wr.drew w5 -> (w5.alloc (.cells #[.int .i64 m0,.int .i64 m1,.int .i64 m2,.int .i64 m3,.int .i64 m4,.int .i64 m5] 93)).heap[w5.heap.size]? = some (.cells #[.int .i64 m0,.int .i64 m1,.int .i64 m2,.int .i64 m3,.int .i64 m4,.int .i64 m5] 93 (0,0)) /\ Fr (fun _ => False) wr (w5.alloc (.cells #[.int .i64 m0,.int .i64 m1,.int .i64 m2,.int .i64 m3,.int .i64 m4,.int .i64 m5] 93))):=fun w5 hb5 => ⟨vheap_alloc_new _ _,((Fr.drew _).trans (Fr.of_below hb5) (fun _ _ h => h)).trans (Fr.alloc _ _) (fun _ _ h => h)⟩
    have l0:=World.block_lt_of_cell? _ _ y0
    have l1:=World.block_lt_of_cell? _ _ y1
    have l5:=World.block_lt_of_cell? _ _ p5
    have l5i:=World.block_lt_of_cell? _ _ p5i
    clear SB SC SC' SE hfa
    go_upto_region 5 with fail
    go_cut [12,13] (fun p b wx => ∃ B,p = .pointer (some ⟨B,0,none⟩) /\ b = .bool okb /\ wx.heap[B]? = some (.cells #[.int .i64 m0,.int .i64 m1,.int .i64 m2,.int .i64 m3,.int .i64 m4,.int .i64 m5] 93 (0,0)) /\ Fr (fun _ => False) wr wx)
    case first =>
     first | go_region_law (refine step_call rfl 75 #[.tmp 47,.tmp 48] #[156,110] rfl enter75 #[.slice pa (P.pat i).length pcap,.agg #[.int .i64 t0,.int .i64 t1,.int .i64 t2]] (by kernel_rfl) _ (MATCH _ (by with_reducible first | exact HFD.out | exact HFA.out)) ?_;rintro v1 w5 ⟨rfl,hb5⟩;first | (with_reducible refine HSC.out w5 hb5 _ ?_;rintro ⟨f0,f1,f2,f3,f4,f5,s0,s1,s2,s3,s4,s5⟩) | skip) | fail
     all_goals (go_wp2_with fail;go_meet)
     all_goals first | with_reducible exact ⟨_,rfl,rfl,HSE.out w5 hb5⟩ | exact ⟨_,rfl,rfl,HSD.out w5 hb5⟩
    case rest =>
     obtain ⟨B,rfl,rfl,hBx,hfx⟩:=hcut
     obtain ⟨wx,hwx⟩:∃ wx:World,wx = wc:=⟨_,rfl⟩
     subst hwx
     cases okb
     ·have NX:Hid (ChL w wx vb ob wb OB VB2 P ib f O own rB r R t x #[.int .i64 t0,.int .i64 t1,.int .i64 t2] (k + 1)):=by
       obtain ⟨g2,own2,h1,h2,h3,h4,h5⟩:=ChL.fr HLO.out HL.out hfx
       exact ⟨g2,own2,by rw [fK_no (by rw [hats];exact hlt) (by simp only [hats,hik];exact hok)];exact h1,h2,h3,h4,h5⟩
      clear hBx hfx MATCH HSC HSE HFA HFD HSD
      go_wp2_with fail
      go_roundw
      case rel => exact ⟨k + 1,by omega,by go_num,NX.out⟩
      case measure => simp [intOf];omega
     ·obtain ⟨ht1,ht2⟩:=fK_tame hP HHF.out hr ht hx k
      have hmb:=(mvars_ok hP hi ht).1
      have hmr:=(mvars_ok hP hi ht).2 hok
      have hSx:=HS.out.fr hfx
      have JOIN:=fun (u:World) (h:Fr (fun _ => False) wx u) => join_step (ChS.join hP HIL.out (hSx.fr h) ht2 hi hmb x (h.own (mps_none _) (hfx.own (mps_none _) HPW.out)))
      have ADDX:=fun (u:World) (hj:JP ob wb (fun h => O h + (P.wor (fK P f (P.rel r).2.2 t x k) h - P.wor f h)) (P.wor (fK P f (P.rel r).2.2 t x k)) (jn P.H ((P.walk i).map (stpOf P.ms P.lk (fK P f (P.rel r).2.2 t x k))) (mVars (P.pat i) t) x) wx (.returned (.tuple #[])) u) => hSx.add hP HIL.out ht1 hi hmb hmr x hj
      have NX:∀ wy w3,JP ob wb (fun h => O h + (P.wor (fK P f (P.rel r).2.2 t x k) h - P.wor f h)) (P.wor (fK P f (P.rel r).2.2 t x k)) (jn P.H ((P.walk i).map (stpOf P.ms P.lk (fK P f (P.rel r).2.2 t x k))) (mVars (P.pat i) t) x) wx (.returned (.tuple #[])) wy -> (∃ g3 own3,ChS w w3 vb ob wb OB w.heap.size (w.heap.size + 2) VB2 P ib f (updF (fK P f (P.rel r).2.2 t x k) i (mVars (P.pat i) t) x) O own g3 own3 /\ OwnUp wy w3 own1 own3) -> ChL w w3 vb ob wb OB VB2 P ib f O own rB r R t x #[.int .i64 t0,.int .i64 t1,.int .i64 t2] (k + 1):=by
       rintro wy w3 hj ⟨g3,own3,h3,hU⟩
       refine ChL.next (i:=i) (a:=mVars (P.pat i) t) hSx (CF.fr HCR.out hfx (fun h => h)) HOR.out (HB.out.fr hfx (mps_none _)) hj h3 (fun i q hq hq1 hi => (hfx.block i (Nat.lt_of_lt_of_le (HLO.out i q hq) HS.out.up.fr.size) (fun h => h)).trans (HK1.out i q hq hq1 hi)) HLO.out hU ?_
       have e1:k < (P.rel r).2.2.length:=by rw [hats];exact hlt
       have e2:(P.rel r).2.2[k] = i:=by simp only [hats,hik]
       rw [fK_yes (hP.rat r hr).1 e1 (by rw [e2];exact hok),e2]
      rw [HMM.out,HX.out] at JOIN ADDX
      have x0:=hfx.cell (mps_none _) y0
      have x7:=hfx.cell (mps_none _) p7
      have x7i:=hfx.cell (mps_none _) p7i
      have n0:wx.cell? ⟨B,0,none⟩ = some (.int .i64 m0):=by simp [World.cell?,hBx]
      have n1:wx.cell? ⟨B,1,none⟩ = some (.int .i64 m1):=by simp [World.cell?,hBx]
      have n2:wx.cell? ⟨B,2,none⟩ = some (.int .i64 m2):=by simp [World.cell?,hBx]
      have n3:wx.cell? ⟨B,3,none⟩ = some (.int .i64 m3):=by simp [World.cell?,hBx]
      have n4:wx.cell? ⟨B,4,none⟩ = some (.int .i64 m4):=by simp [World.cell?,hBx]
      have n5:wx.cell? ⟨B,5,none⟩ = some (.int .i64 m5):=by simp [World.cell?,hBx]
      have JW:∀ w6,JP ob wb (fun h => O h + (P.wor (fK P f (P.rel r).2.2 t x k) h - P.wor f h)) (P.wor (fK P f (P.rel r).2.2 t x k)) (jn P.H ((P.walk i).map (stpOf P.ms P.lk (fK P f (P.rel r).2.2 t x k))) (mVars (P.pat i) t) x) wx.drew (.returned (.tuple #[])) w6 -> JP ob wb (fun h => O h + (P.wor (fK P f (P.rel r).2.2 t x k) h - P.wor f h)) (P.wor (fK P f (P.rel r).2.2 t x k)) (jn P.H ((P.walk i).map (stpOf P.ms P.lk (fK P f (P.rel r).2.2 t x k))) (mVars (P.pat i) t) x) wx (.returned (.tuple #[])) w6 /\ (w6.cell? ⟨w.heap.size,0,none⟩ = some (.pointer (some ⟨vb,0,none⟩)) /\ w6.cell? ⟨B,0,none⟩ = some (.int .i64 m0) /\ w6.cell? ⟨B,1,none⟩ = some (.int .i64 m1) /\ w6.cell? ⟨B,2,none⟩ = some (.int .i64 m2) /\ w6.cell? ⟨B,3,none⟩ = some (.int .i64 m3) /\ w6.cell? ⟨B,4,none⟩ = some (.int .i64 m4) /\ w6.cell? ⟨B,5,none⟩ = some (.int .i64 m5)):=by
       rintro w6 ⟨h1,h2,h3,h4⟩
       have h5:Fr (fun i => i = ob ∨ i = wb) wx w6:=(Fr.drew _).trans h4 (fun _ _ h => h)
       have hm:=mps_two hSx.co hSx.cw
       exact ⟨⟨h1,h2,h3,h5⟩,h5.cell hm x0,h5.cell hm n0,h5.cell hm n1,h5.cell hm n2,h5.cell hm n3,h5.cell hm n4,h5.cell hm n5⟩
      have HJW:Hid _:=JW
      clear JW
      have HNX:Hid _:=NX
      have HADX:Hid _:=ADDX
      have HBX:Hid (∀ i' v,wx.cell? ⟨i',v,none⟩ = wx.cell? ⟨i',v,none⟩):=fun _ _ => rfl
      clear NX ADDX hSx ht1 ht2 hmb hmr hfx MATCH HSC HSE HFA HFD HSD hBx
      go_upto_region 7 with fail
      go_cut [] (fun wy => JP ob wb (fun h => O h + (P.wor (fK P f (P.rel r).2.2 t x k) h - P.wor f h)) (P.wor (fK P f (P.rel r).2.2 t x k)) (jn P.H ((P.walk i).map (stpOf P.ms P.lk (fK P f (P.rel r).2.2 t x k))) (mVars (P.pat i) t) x) wx (.returned (.tuple #[])) wy /\ (wy.cell? ⟨w.heap.size,0,none⟩ = some (.pointer (some ⟨vb,0,none⟩)) /\ wy.cell? ⟨B,0,none⟩ = some (.int .i64 m0) /\ wy.cell? ⟨B,1,none⟩ = some (.int .i64 m1) /\ wy.cell? ⟨B,2,none⟩ = some (.int .i64 m2) /\ wy.cell? ⟨B,3,none⟩ = some (.int .i64 m3) /\ wy.cell? ⟨B,4,none⟩ = some (.int .i64 m4) /\ wy.cell? ⟨B,5,none⟩ = some (.int .i64 m5)))
      case first =>
       go_region_law (refine step_call rfl 76 #[.tmp 54,.tmp 62,.tmp 63,.tmp 64,.tmp 65] #[23,28,93,3,114] rfl enter76 #[.pointer (some ⟨vb,0,none⟩),.slice wa (P.walk i).length wcp,.agg #[.int .i64 m0,.int .i64 m1,.int .i64 m2,.int .i64 m3,.int .i64 m4,.int .i64 m5],.int .i64 x,.func (.func 77) #[] #[.pointer (some ⟨w.heap.size + 1 + 1,0,none⟩),.pointer (some ⟨w.heap.size,0,none⟩)]] (by kernel_rfl) _ (JOIN _ (Fr.drew _)) ?_;rintro v1 w6 ⟨rfl,hj6⟩)
       all_goals (go_wp2_with fail;go_meet)
       all_goals exact HJW.out w6 hj6
      case rest =>
       obtain ⟨wy,hwy⟩:∃ wy:World,wy = wc:=⟨_,rfl⟩
       subst hwy
       obtain ⟨hj,v0,v1,v2,v3,v4,v5,v6⟩:=hcut
       clear x0 x7 x7i n0 n1 n2 n3 n4 n5 JOIN
       go_wp2_with (go_at_call 79;refine (HADX.out wy hj).mono ?_;rintro e w3 ⟨rfl,hE3⟩)
       go_wp2_with fail
       go_roundw
       case rel => exact ⟨k + 1,by omega,by go_num,HNX.out wy w3 hj hE3⟩
       case measure => simp [intOf];omega
   ·have hkk:k = ats.length:=by omega
    subst hkk
    have HLL:Hid (ChL w wr vb ob wb OB VB2 P ib f O own rB r R t x #[.int .i64 t0,.int .i64 t1,.int .i64 t2] ats.length):=hL
    clear hL eat
    go_wp2_with fail
    go_end0
    obtain ⟨g',own',hS,hcr,_,_,hk1⟩:=HLL.out
    rw [hats] at hS ⊢
    exact ⟨rfl,g',own',hS.A,hS.W,hS.up,hS.cw,hS.co,hcr,hk1⟩
end Go.Proofs.YtondkinefmjpjaaGreat
