import Derived.Test.YtondkinefmjpjaaGreatI17
import Derived.Test.YtondkinefmjpjaaGreatI39
import Derived.Test.YtondkinefmjpjaaGreatI47
import Derived.Test.YtondkinefmjpjaaGreatI50
import Derived.Test.YtondkinefmjpjaaGreatI62
import Derived.Test.YtondkinefmjpjaaGreatI64
import Derived.Test.YtondkinefmjpjaaGreatI65
set_option maxHeartbeats 4000000
set_option maxRecDepth 100000
namespace Go.Proofs.YtondkinefmjpjaaGreat
open Go.RowKit
structure RT (m:List RfD) (rels:List RelD):Prop where
 len:m.length = rels.length
 el:∀ r,r < m.length -> (m.getD r rf0).1 = (relD rels r).1 /\ (m.getD r rf0).2.1 = (relD rels r).2.1
 nil:∀ r,r < m.length -> (m.getD r rf0).2.2 = .slice none 0 0
theorem find_same {α β:Type} {p:α -> Bool} {q:β -> Bool}:∀ (l:List α) (m:List β),l.length = m.length -> (∀ i (h1:i < l.length) (h2:i < m.length),p l[i] = q m[i]) -> l.findIdx p = m.findIdx q
 | [],[],_,_ => rfl
 | [],_ :: _,h,_ => by simp at h
 | _ :: _,[],h,_ => by simp at h
 | a :: l,b :: m,h,he => by
  rw [List.findIdx_cons,List.findIdx_cons,show p a = q b from he 0 (by simp) (by simp),find_same l m (by simpa using h) (fun i h1 h2 => he (i + 1) (by simpa using h1) (by simpa using h2))]
theorem RT.fix {m:List RfD} {rels:List RelD} (h:RT m rels) (t:ByteArray):fixOf m t = rixOf rels t:=by
 have e:m.findIdx (fun p => p.1.toList == t.toList) = rels.findIdx (fun p => p.1.toList == t.toList):=find_same m rels h.len fun i h1 h2 => by
  have:=(h.el i h1).1
  unfold relD at this
  rw [List.getD_eq_getElem?_getD,List.getElem?_eq_getElem h1,List.getD_eq_getElem?_getD,List.getElem?_eq_getElem h2] at this
  simp only [Option.getD_some] at this
  rw [this]
 unfold fixOf rixOf
 rw [e,h.len]
theorem RT.step {m:List RfD} {rels:List RelD} (h:RT m rels) (d:K.AD) (rel:ByteArray) (n i:Nat) (h1:d.rel = rel) (h2:d.ts.length = n):RT (rfStep m d) (addR rels rel n i):=by
 subst h1 h2
 have hb:RT (rfStep m d) (baseR rels d.rel d.ts.length):=by
  unfold rfStep baseR
  rw [h.fix]
  by_cases hx:0 <= rixOf rels d.rel
  ·rw [if_neg (by omega),if_pos hx];exact h
  ·rw [if_pos (by omega),if_neg hx]
   refine ⟨by simp [h.len],fun r hr => ?_,fun r hr => ?_⟩
   ·rw [relD_app,← h.len]
    by_cases e:r < m.length
    ·rw [if_pos e,List.getD_eq_getElem?_getD,List.getElem?_append_left e,← List.getD_eq_getElem?_getD];exact h.el r e
    ·have e2:r = m.length:=by simp at hr;omega
     subst e2
     rw [if_neg (by omega),if_pos rfl]
     simp [List.getD]
   ·by_cases e:r < m.length
    ·rw [List.getD_eq_getElem?_getD,List.getElem?_append_left e,← List.getD_eq_getElem?_getD];exact h.nil r e
    ·have e2:r = m.length:=by simp at hr;omega
     subst e2
     simp [List.getD]
 unfold addR
 refine ⟨by rw [hb.len];unfold putR;simp,fun r hr => ?_,hb.nil⟩
 have hr2:r < (baseR rels d.rel d.ts.length).length:=by rw [← hb.len];exact hr
 obtain ⟨e1,e2⟩:=hb.el r hr
 unfold putR
 rw [relD_set _ _ _ _ hr2]
 split
 ·rename_i e;subst e;exact ⟨e1,e2⟩
 ·exact ⟨e1,e2⟩
theorem RT.all (l:List K.AD) (ats:List K.CA) (hl:l.length = ats.length) (he:∀ i (h1:i < l.length) (h2:i < ats.length),l[i].rel = ats[i].rel /\ l[i].ts.length = ats[i].n):∀ k,k <= l.length -> RT ((l.take k).foldl rfStep []) (K.relsK ats k)
 | 0,_ => ⟨rfl,fun r hr => absurd hr (Nat.not_lt_zero _),fun r hr => absurd hr (Nat.not_lt_zero _)⟩
 | k + 1,hk => by
  have ih:=RT.all l ats hl he k (by omega)
  rw [rfL_step l k (by omega)]
  unfold K.relsK
  have hk2:k < ats.length:=by omega
  rw [show ats.getD k (K.x0 ByteArray.empty) = ats[k] by rw [List.getD_eq_getElem?_getD,List.getElem?_eq_getElem hk2];rfl]
  obtain ⟨a,b⟩:=he k (by omega) hk2
  exact ih.step _ _ _ _ a b
theorem tOf_zip (ts:List (Int × Int)):List.zipWith K.tP (ts.map Prod.fst) (ts.map Prod.snd) = ts.map tOf:=by
 induction ts with
 | nil => rfl
 | cons t ts ih => rw [List.map_cons,List.map_cons,List.zipWith_cons_cons,ih,List.map_cons];rfl
structure Ref0 (P:PlanD) (nv:Nat) (l:List K.AD) (rl:List RfD):Prop where
 ok:RefOk nv P.head l rl (fun _ => [])
 w:RefW l rl (fun _ => [])
 s:LnkS P nv l rl
 nr1:1 <= rl.length
theorem ref_zero {s:ByteArray} (hG:K.pG s = true) {l:List K.AD} (hpa:l.map K.AD.pa = (K.TA s).2.2) :
  Ref0 (K.planOf (K.rq s (K.c0 s)).2) (K.TA s).2.1.length l (rfL l) /\ (K.TH s).2.1.map (K.lix (K.TA s).2.1) = (K.hdN (K.rq s (K.c0 s)).2).map (fun (n:Nat) => (n:Int)) /\ ∀ r,r < (rfL l).length -> ((rfL l).getD r rf0).2.2 = .slice none 0 0:=by
 obtain ⟨p1,p2,p3⟩:=K.pG_parts hG
 obtain ⟨hP,hQ⟩:=K.plan_ok hG
 have hin:=K.rq_in s
 have hterm:=K.plan_terms s
 obtain ⟨z,f1,f2,f3,f4⟩:=(K.query_all s).1 p1
 obtain ⟨cv1,cv2⟩:=K.TA_cov s
 rw [← hpa] at f2 cv2
 rw [f1] at cv1 cv2 ⊢
 rw [f3]
 obtain ⟨c,hc⟩:∃ c,(K.rq s (K.c0 s)).2 = c:=⟨_,rfl⟩
 rw [hc] at f1 f2 f3 f4 p2 hP hQ hin hterm cv1 cv2 ⊢
 clear hc p1 p3 z f1 f3 f4 hpa
 have hlen:l.length = c.ats.length:=by have:=f2.len;rwa [List.length_map] at this
 have hel:∀ i (h1:i < l.length) (h2:i < c.ats.length),l[i].rel = c.ats[i].rel /\ l[i].ts.length = c.ats[i].n /\ l[i].ts.map tOf = c.ats[i].tm:=fun i h1 h2 => by
  have h:=f2.el i (by rw [List.length_map];exact h1) h2
  rw [List.getElem_map] at h
  refine ⟨h.rel,?_,?_⟩
  ·rw [h.n];simp [K.AD.pa]
  ·rw [h.tm,← tOf_zip];rfl
 have hRT:RT (rfL l) (K.planOf c).rels:=by
  have:=RT.all l c.ats hlen (fun i h1 h2 => ⟨(hel i h1 h2).1,(hel i h1 h2).2.1⟩) l.length (Nat.le_refl _)
  rw [List.take_length,hlen] at this
  exact this
 have hms:(K.planOf c).ms.length = c.ats.length:=by show (c.ats.map K.msk).length = _;simp
 have hgl:∀ i (h:i < l.length),l.getD i ad0 = l[i]:=fun i h => by rw [List.getD_eq_getElem?_getD,List.getElem?_eq_getElem h];rfl
 have hpat:∀ i,i < l.length -> patR l i = (K.planOf c).pat i:=fun i hi => by
  have h2:i < c.ats.length:=by omega
  unfold patR
  rw [hgl i hi,(hel i hi h2).2.2]
  show _ = (c.ats.map K.CA.tm).getD i []
  rw [List.getD_eq_getElem?_getD,List.getElem?_map,List.getElem?_eq_getElem h2];rfl
 have hI:=K.relsK_in c.ats c.ats.length
 have hfx:∀ i,i < l.length -> fixOf (rfL l) (l.getD i ad0).rel = ((K.planOf c).relOf i:Int):=fun i hi => by
  have h2:i < c.ats.length:=by omega
  rw [hgl i hi,(hel i hi h2).1,hRT.fix]
  have hr:=hQ.lt i (by rw [hms];exact h2)
  have hm:=(hQ.iff _ hr i (by rw [hms];exact h2)).2 rfl
  have hn:=(hI.mem _ hr i hm).2
  rw [show c.ats.getD i (K.x0 ByteArray.empty) = c.ats[i] by rw [List.getD_eq_getElem?_getD,List.getElem?_eq_getElem h2];rfl] at hn
  by_cases hy:0 <= rixOf (K.planOf c).rels c.ats[i].rel
  ·obtain ⟨y1,y2⟩:=rix_yes hy
   have:=hI.nam _ _ y1 hr (y2.trans hn)
   omega
  ·exact absurd hn.symm (rix_no hy _ hr)
 have hrel:∀ i,i < l.length -> relR l (rfL l) i = (K.planOf c).relOf i:=fun i hi => by
  unfold relR;rw [hfx i hi];simp
 have hrl:∀ i,i < l.length -> (K.planOf c).relOf i < (rfL l).length:=fun i hi => by
  rw [hRT.len];exact hQ.lt i (by rw [hms];omega)
 have htsl:∀ i,i < l.length -> (l.getD i ad0).ts.length = ((K.planOf c).pat i).length:=fun i hi => by
  rw [← hpat i hi];unfold patR;rw [List.length_map]
 have hhd:∀ n,n ∈ (K.planOf c).head -> n < c.vars.length:=by
  intro n hn
  obtain ⟨p,hp,rfl⟩:=List.mem_map.1 hn
  exact (K.ixOf_lt (p2 p hp)).1
 have hvl:∀ i,i < (K.planOf c).ms.length -> ∀ t,t ∈ (K.planOf c).pat i -> t.1 = true -> t.2.toNat < c.vars.length:=by
  intro i hi t ht e
  rw [hms] at hi
  have hp:(K.planOf c).pat i = c.ats[i].tm:=by
   show (c.ats.map K.CA.tm).getD i [] = _
   rw [List.getD_eq_getElem?_getD,List.getElem?_map,List.getElem?_eq_getElem hi];rfl
  rw [hp] at ht
  have:=(hin.at_ _ (List.getElem_mem hi)).tm t ht
  have:=this.1 e
  omega
 have hS:LnkS (K.planOf c) c.vars.length l (rfL l):=by
  refine ⟨by rw [hms];exact hlen,hpat,hrel,hRT.len,hRT.fix,fun r hr => (hRT.el r hr).2,fun r hr => by rw [(hRT.el r hr).1];rfl,hvl,hin.v6,fun n hn => ⟨?_,hhd n hn⟩,hterm⟩
  obtain ⟨d,hd,hv⟩:=cv2 n (hhd n hn)
  obtain ⟨x,hx,rfl⟩:=List.mem_map.1 hd
  obtain ⟨i,hi,rfl⟩:=List.getElem_of_mem hx
  obtain ⟨t,ht,e⟩:=List.mem_map.1 hv
  have h6:=hP.headlt n hn
  rw [orL_bit,any_getD,List.any_eq_true]
  refine ⟨i,List.mem_range.2 (by rw [hms];omega),?_⟩
  rw [hP.patm i (by rw [hms];omega) n h6,← hpat i hi,List.any_eq_true]
  refine ⟨tOf t,?_,?_⟩
  ·unfold patR;rw [hgl i hi];exact List.mem_map.2 ⟨t,ht,rfl⟩
  ·unfold tOf;rw [e,if_neg (by omega)];simp
 refine ⟨⟨⟨by rw [hlen];exact hin.n4,hP.head6,hin.v6,hhd,fun d hd => ?_,fun i hi => ⟨by rw [hfx i hi,hrel i hi],by rw [hrel i hi];exact hrl i hi⟩,by rw [hRT.len];exact hP.nrel,fun i _ x hx => (by cases hx),fun r => by simp⟩,⟨fun r hr => by rw [(hRT.el r hr).2];exact hterm r (by rw [← hRT.len];exact hr),fun r _ x hx => (by cases hx),fun i hi => ?_⟩,hS,?_⟩,?_,hRT.nil⟩
 ·obtain ⟨i,hi,rfl⟩:=List.getElem_of_mem hd
  have h2:i < c.ats.length:=by omega
  refine ⟨by rw [(hel i hi h2).2.1];exact (hin.at_ _ (List.getElem_mem h2)).n3,fun t ht => ?_⟩
  by_cases hn:t.1 < 0
  ·omega
  ·have:=hvl i (by rw [hms];exact h2) (tOf t) (by rw [← hpat i hi];unfold patR;rw [hgl i hi];exact List.mem_map.2 ⟨t,ht,rfl⟩) (by unfold tOf;rw [if_neg hn])
   unfold tOf at this
   rw [if_neg hn] at this
   dsimp only at this
   omega
 ·rw [htsl i hi,hrel i hi,(hRT.el _ (hrl i hi)).2]
  have hr:=hQ.lt i (by rw [hms];omega)
  exact ((hP.rat _ hr).2 i ((hQ.iff _ hr i (by rw [hms];omega)).2 rfl)).2
 ·have:=hrl 0 (by have:=hP.n1;rw [hms] at this;omega)
  omega
 ·unfold K.hdN
  rw [List.map_map,List.map_map]
  refine List.map_congr_left fun p hp => ?_
  show K.lix c.vars p.t = ((K.ixOf c.vars p.t).toNat:Int)
  rw [K.lix_eq cv1,(K.ixOf_lt (p2 p hp)).2]
theorem ref_start {s:ByteArray} (hG:K.pG s = true) {w:World} {vb:Nat} (h:RfS s w vb):∃ qb base nv l rl,RVS w.heap.size w vb qb base vb nv (K.planOf (K.rq s (K.c0 s)).2).head l rl (fun _ => []) /\ Ref0 (K.planOf (K.rq s (K.c0 s)).2) nv l rl:=by
 obtain ⟨qb,base,l,va,vcap,hv,av,rv,h1,h2,h3,h4,h5,h6,h7,h8⟩:=h
 obtain ⟨r1,r2,r3⟩:=ref_zero hG h8
 refine ⟨qb,base,_,l,rfL l,⟨Nat.le_refl _,⟨rv,h1,h2,fun k hk => (h2.lt k hk).2⟩,⟨va,vcap,hv,av,h5,?_,h7⟩,h3.ts,fun r hr => ?_⟩,r1⟩
 ·rw [r2] at h6
  have e:K.ilist ((K.hdN (K.rq s (K.c0 s)).2).map fun (n:Nat) => (n:Int)) = nats (K.planOf (K.rq s (K.c0 s)).2).head:=by
   unfold K.ilist nats;rw [List.map_map];rfl
  have e2:(K.TH s).2.1.length = (K.planOf (K.rq s (K.c0 s)).2).head.length:=by
   have:=congrArg List.length r2
   rw [List.length_map,List.length_map] at this
   exact this
  rw [e,e2] at h6
  exact h6
 ·rw [r3 r hr];exact RReadB.nil _ _
theorem lnk_none (P:PlanD):LnkD P noR (fun _ => []):=⟨fun _ => rows_nilL,fun r _ x hx => (by cases hx),fun r _ t => rfl⟩
structure Both (B:Nat) (w0 w:World) (vb rvb qb base rbase nv:Nat) (P:PlanD) (rb ib:List Nat) (wb:Nat) (l:List K.AD) (rl:List RfD) (R:Nat -> List Int -> Int) (RR:Nat -> Rws) (g:Nat -> List Int -> Option Nat) (own:Nat -> Option (Nat × List Int)):Prop where
 v:VSt w vb P rb ib wb R g own
 r:RVS B w rvb qb base rbase nv P.head l rl RR
 o:RefOk nv P.head l rl RR
 w':RefW l rl RR
 s:LnkS P nv l rl
 d:LnkD P R RR
 ob:∀ b,own b ≠ none -> w0.heap.size <= b
 rb0:w0.heap.size <= rbase
 blw:Below w0.heap.size w0 w
def Bth (B:Nat) (w0 w:World) (vb rvb:Nat) (P:PlanD):Prop:=∃ qb base rbase nv rb ib wb l rl R RR g own,Both B w0 w vb rvb qb base rbase nv P rb ib wb l rl R RR g own
section
variable {B:Nat} {w0 w w2:World} {vb rvb qb base rbase nv:Nat} {P:PlanD} {rb ib:List Nat} {wb:Nat} {l:List K.AD} {rl:List RfD} {R:Nat -> List Int -> Int} {RR:Nat -> Rws} {g:Nat -> List Int -> Option Nat} {own:Nat -> Option (Nat × List Int)}
theorem Both.below (h:Both B w0 w vb rvb qb base rbase nv P rb ib wb l rl R RR g own) (hb:Below w.heap.size w w2):Both B w0 w2 vb rvb qb base rbase nv P rb ib wb l rl R RR g own :=
 ⟨h.v.fr (fr_below hb),h.r.below hb,h.o,h.w',h.s,h.d,h.ob,h.rb0,h.blw.trans (hb.mono h.blw.size)⟩
theorem Bth.below (h:Bth B w0 w vb rvb P) (hb:Below w.heap.size w w2):Bth B w0 w2 vb rvb P:=by
 obtain ⟨qb,base,rbase,nv,rb,ib,wb,l,rl,R,RR,g,own,h⟩:=h
 exact ⟨qb,base,rbase,nv,rb,ib,wb,l,rl,R,RR,g,own,h.below hb⟩
theorem Bth.blw (h:Bth B w0 w vb rvb P):Below w0.heap.size w0 w:=by
 obtain ⟨qb,base,rbase,nv,rb,ib,wb,l,rl,R,RR,g,own,h⟩:=h
 exact h.blw
theorem Bth.sz (h:Bth B w0 w vb rvb P):B <= w.heap.size:=by
 obtain ⟨qb,base,rbase,nv,rb,ib,wb,l,rl,R,RR,g,own,h⟩:=h
 exact h.r.sz
end
theorem RNew.readB {e:TypeId} {B N:Nat} {w:World} {v:Value} {us:List Value} {l:Rws} (h:RNew e N w v us l) (hB:B <= N):RReadB B w v l:=by
 obtain ⟨h1,h2,h3⟩:=h
 obtain ⟨a,cap,rfl⟩:=vown_form h2
 refine ⟨a,cap,rfl,fun hl => ?_⟩
 obtain ⟨g,cap',he⟩:=vown_some h2 hl
 simp only [Value.slice.injEq,true_and] at he
 obtain ⟨rfl,rfl⟩:=he
 refine ⟨g,0,rfl,Nat.le_trans hB (h2.lt g rfl).1,fun j hj => ?_⟩
 have e:=rcells_at us l h1 j hj
 have h4:=h3 j hj
 refine ⟨⟨us.getD j undef,?_,?_,?_⟩,?_⟩
 ·rw [Nat.zero_add,h2.cellAt (j * 2) (by omega)];exact e.1
 ·exact reads_own h4 rfl
 ·exact own_ubv h4 hB
 ·rw [Nat.zero_add,h2.cellAt (j * 2 + 1) (by omega)];exact e.2
theorem t140_cell {B rbase:Nat} {M:Nat -> Prop} {w w':World} (hf:Fr M w w') (hm:T140 B rbase w M) {p:Addr} {y:Value} (hp:B <= p.block) (hc:w.cell? p = some y):w'.cell? p = some y :=
 cell_of_block hc (hf.block _ (World.block_lt_of_cell? _ _ hc) (fun h => by have:=(hm _ h).1;omega))
theorem RReadB.t140 {B rbase:Nat} {M:Nat -> Prop} {w w':World} {v:Value} {l:Rws} (h:RReadB B w v l) (hf:Fr M w w') (hm:T140 B rbase w M):RReadB B w' v l:=by
 obtain ⟨a,cap,rfl,h2⟩:=h
 refine ⟨a,cap,rfl,fun hl => ?_⟩
 obtain ⟨g,off,rfl,hB,h3⟩:=h2 hl
 refine ⟨g,off,rfl,hB,fun j hj => ?_⟩
 obtain ⟨⟨u,c1,⟨a2,cap2,e,c2⟩,c4⟩,c3⟩:=h3 j hj
 refine ⟨⟨u,t140_cell hf hm hB c1,⟨a2,cap2,e,fun hl2 => ?_⟩,c4⟩,t140_cell hf hm hB c3⟩
 obtain ⟨g2,o2,rfl,h4⟩:=c2 hl2
 exact ⟨g2,o2,rfl,fun k hk => t140_cell hf hm (show B <= (⟨g2,o2 + k,none⟩:Addr).block from c4 ⟨g2,o2,none⟩ _ _ e hl2) (h4 k hk)⟩
theorem t140_below {B rbase N:Nat} {M:Nat -> Prop} {w0 w w':World} (hb:Below N w0 w) (hN:N <= w0.heap.size) (hr:N <= rbase) (hf:Fr M w w') (hm:T140 B rbase w M):Below N w0 w' :=
 ⟨hf.os.trans hb.os,hf.tape.trans hb.tape,hf.output.trans hb.output,Nat.le_trans hb.size hf.size,fun i hi => (hf.block i (by have:=hb.size;omega) (fun h => by have:=(hm i h).2.1;omega)).trans (hb.block i hi)⟩
def RfEnd (B:Nat) (w0 w2:World) (vb rvb:Nat) (P:PlanD) (vv:Value) (c:Int) (e:Ending) (w3:World):Prop :=
 EndI B (fun w3 => Bth B w0 w3 vb rvb P) w2 vv c e w3
theorem rr_nil (w:World):RRead w (.slice none 0 0) []:=⟨none,0,rfl,fun h => absurd h (by simp)⟩
theorem nil_end {B:Nat} {w0 w2 w3:World} {vb rvb:Nat} {P:PlanD} (c:Int) (h:Bth B w0 w2 vb rvb P) (hb:Below w2.heap.size w2 w3):RfEnd B w0 w2 vb rvb P (.slice none 0 0) c (.returned (.tuple #[.slice none 0 0,.int .i64 c])) w3 :=
 ⟨none,0,0,rfl,⟨[],rr_nil _,rr_nil _,fun j hj => absurd hj (by simp),by simp⟩,h.below hb,fun _ _ _ hc => (fr_below hb).cell (mps_none _) hc⟩
def UpM (B:Nat) (w0 w1:World) (vb rvb:Nat) (P:PlanD) (name:ByteArray) (x:Int) (xs:List Int) (vv:Value) (c:Int):Prop :=
 (∃ a n k,vv = .slice a n k) /\ ∀ (w2:World) (xv:Value),Below w1.heap.size w1 w2 -> Reads w2 xv xs -> Calls Tryz.prog 34 #[.pointer (some ⟨rvb,0,none⟩),.string name,.int .i64 x,xv] w2 (RfEnd B w0 w2 vb rvb P vv c)
theorem upd_no {B:Nat} {w0 u w1:World} {vb rvb qb base rbase nv:Nat} {P:PlanD} {rb ib:List Nat} {wb:Nat} {l:List K.AD} {rl:List RfD} {R:Nat -> List Int -> Int} {RR:Nat -> Rws} {g:Nat -> List Int -> Option Nat} {own:Nat -> Option (Nat × List Int)} (h:Both B w0 u vb rvb qb base rbase nv P rb ib wb l rl R RR g own) (hb:Below u.heap.size u w1) {name:ByteArray} {x:Int} {xs:List Int} {c:Int} (hc:rfCode rl RR name x xs = c) (h0:c ≠ 0) :
  ∃ a n k d,Ending.returned (.tuple #[.slice none 0 0,.int .i64 c]) = .returned (.tuple #[.slice a n k,.int .i64 d]) /\ UpM B w0 w1 vb rvb P name x xs (.slice a n k) d /\ ∀ p y,u.cell? p = some y -> w1.cell? p = some y:=by
 refine ⟨none,0,0,c,rfl,⟨⟨_,_,_,rfl⟩,fun w2 xv hb2 hr => ?_⟩,fun _ _ hx => (fr_below hb).cell (mps_none _) hx⟩
 have h2:=(h.below hb).below hb2
 refine (RefUpdate_any h2.r h2.o h2.w' name x hr).mono ?_
 rintro e w3 ⟨a,n,k,code,rfl,hcode,⟨_,hsl,hb3⟩ | ⟨hz,_⟩⟩
 ·rw [hcode,hc,hsl]
  exact nil_end c ⟨qb,base,rbase,nv,rb,ib,wb,l,rl,R,RR,g,own,h2⟩ hb3
 ·rw [hcode,hc] at hz;exact absurd hz h0
theorem RefW.put {l:List K.AD} {rl:List RfD} {RR:Nat -> Rws} (h:RefW l rl RR) {r:Nat} {rows:Rws} (v:Value) (hw:WidL (rl.getD r rf0).2.1 rows):RefW l (putV rl r v) (putRR RR r rows):=by
 refine ⟨fun q hq => ?_,fun q hq => ?_,fun i hi => ?_⟩
 ·rw [putV_len] at hq
  rw [(putV_at rl r v q hq).2.1];exact h.n3 q hq
 ·rw [putV_len] at hq
  rw [(putV_at rl r v q hq).2.1]
  unfold putRR
  split
  ·rename_i e;rw [e];exact hw
  ·exact h.wid q hq
 ·rw [relR_put]
  by_cases hq:relR l rl i < rl.length
  ·rw [(putV_at rl r v _ hq).2.1];exact h.tn i hi
  ·have e1:rl.getD (relR l rl i) rf0 = rf0:=by rw [List.getD_eq_getElem?_getD,List.getElem?_eq_none (by omega)];rfl
   have e2:(putV rl r v).getD (relR l rl i) rf0 = rf0:=by rw [List.getD_eq_getElem?_getD,List.getElem?_eq_none (by rw [putV_len];omega)];rfl
   rw [e2,← e1];exact h.tn i hi
theorem upd1 {B:Nat} {w0 u:World} {vb rvb:Nat} {P:PlanD} (h:Bth B w0 u vb rvb P) (hH:HdOk P) (name:ByteArray) (x:Int) {v:Value} {xs:List Int} (hr:Reads u v xs) (hxl:xs.length < 4611686018427387904) :
  Calls Tryz.prog 16 #[.pointer (some ⟨vb,0,none⟩),.string name,.int .i64 x,v] u fun e w1 => ∃ a n k c,e = .returned (.tuple #[.slice a n k,.int .i64 c]) /\ UpM B w0 w1 vb rvb P name x xs (.slice a n k) c /\ ∀ p y,u.cell? p = some y -> w1.cell? p = some y:=by
 obtain ⟨qb,base,rbase,nv,rb,ib,wb,l,rl,R,RR,g,own,h⟩:=h
 have hT:=h.s.n3
 rcases rix_cases P.rels name with hX | ⟨r,hrl,hX⟩
 ·refine (Update_name h.v name x hr hX).mono ?_
  rintro e w1 ⟨rfl,hb⟩;exact upd_no h hb (code_name RR h.s hX x xs) (by decide)
 ·by_cases heq:xs.length = (P.rel r).2.1
  ·cases hrg:(beyond x 9 || !xs.all okV)
   ·rw [Bool.or_eq_false_iff] at hrg
    have hvs:xs.all okV = true:=by simpa using hrg.2
    have hx3:xs.length <= 3:=by rw [heq];exact hT r hrl
    have hcode:=code_eq h.s h.d h.v.rok hrl hX heq hrg.1 hvs
    have hy:-9 <= x /\ x <= 9:=by have:=hrg.1;simp [beyond] at this;omega
    by_cases hrf:refus (R r (pad xs)) x (live 3 (R r)).length = 0
    ·refine (Update_ok h.v name x hr hrl hX heq hx3 hrg.1 hvs hrf).mono ?_
     rintro e w1 ⟨vv,us,L,g',own',rfl,h1,h2,h3,h4,h5⟩
     have hm:=mps_ow h.v.W
     have hU:=h5.below (B:=w0.heap.size) h.blw.size h.ob
     have r1:=h.r.fr h5.fr hm
     have hD':=h.d.upd h.v.rok hrl heq hvs hy
     have hL:=upd_eq h.v.ok h.v.rel hH h.v.rok h4.rok h.s h.d hD' h2 h3
     have hfit:=rows_fit h2 h.v.ok.head6 (diff_few (wor_few h.v.ok h.v.rel h4.rok) (wor_few h.v.ok h.v.rel h.v.rok))
     have q1:=h1.readB h.r.sz
     obtain ⟨a,k,rfl⟩:=vown_form h1.2.1
     refine ⟨a,_,k,0,rfl,⟨⟨_,_,_,rfl⟩,fun w2 xv hb2 hr2 => ?_⟩,fun _ _ hx => h5.fr.cell hm hx⟩
     refine (RefUpdate_any (r1.below hb2) h.o h.w' name x hr2).mono ?_
     rintro e w3 ⟨a',n',k',code,rfl,hc,⟨hz,_⟩ | ⟨_,r',v',M,i1,i2,i3,i4,i5,i6,i7⟩⟩
     ·rw [hc,hcode,hrf] at hz;exact absurd rfl hz
     ·have er:r' = r:=by rw [h.s.fx,hX] at i1;omega
      subst er
      rw [hc,hcode,hrf]
      have q3:=(q1.below hb2).t140 i6 i7
      rw [← hL] at i3
      refine ⟨a',n',k',rfl,⟨_,q3.read,i3.read,hfit.2,by have:=hfit.1;omega⟩,?_,fun p y hp hx => t140_cell i6 i7 hp hx⟩
      refine ⟨qb,base,rbase,nv,rb,ib,wb,l,putV rl r' v',_,_,g',own',(h4.fr (fr_below hb2)).ref i6 i7,i4,i5,h.w'.put v' (addL_wid (h.w'.wid r' i2) (by rw [heq,h.s.nN r' i2]) x),h.s.same (same_put rl r' v'),hD',hU.2,h.rb0,?_⟩
      refine t140_below ((h.blw.trans hU.1).trans (hb2.mono (Nat.le_trans h.blw.size ?_))) (Nat.le_refl _) h.rb0 i6 i7
      exact h5.fr.size
    ·refine (Update_refus h.v name x hr hrl hX heq hx3 hrg.1 hvs hrf).mono ?_
     rintro e w1 ⟨rfl,hb⟩;exact upd_no h hb hcode hrf
   ·refine (Update_range h.v name x hr hxl hrl hX heq hrg).mono ?_
    rintro e w1 ⟨rfl,hb⟩;exact upd_no h hb (code_range RR h.s hrl hX heq hrg) (by decide)
  ·refine (Update_shape h.v name x hr hxl hrl hX heq).mono ?_
   rintro e w1 ⟨rfl,hb⟩;exact upd_no h hb (code_shape RR h.s hrl hX x heq) (by decide)
end Go.Proofs.YtondkinefmjpjaaGreat
namespace Go.Proofs.YtondkinefmjpjaaGreat
open Go.RowKit Go.WideMaps Go.WideElems Go.Maps Go.Shelf Go.MuLone
def ReM (B:Nat) (w0 w1:World) (vb rvb:Nat) (P:PlanD) (name:ByteArray) (vv:Value) (c:Int):Prop :=
 ∀ (w2:World),Below w1.heap.size w1 w2 -> Calls Tryz.prog 37 #[.pointer (some ⟨rvb,0,none⟩),.string name] w2 (RfEnd B w0 w2 vb rvb P vv c)
theorem rel1 {B:Nat} {w0 u:World} {vb rvb:Nat} {P:PlanD} (h:Bth B w0 u vb rvb P) (name:ByteArray) :
  Calls Tryz.prog 31 #[.pointer (some ⟨vb,0,none⟩),.string name] u fun e w1 => ∃ a n k c,e = .returned (.tuple #[.slice a n k,.int .i64 c]) /\ ReM B w0 w1 vb rvb P name (.slice a n k) c /\ Below u.heap.size u w1:=by
 obtain ⟨qb,base,rbase,nv,rb,ib,wb,l,rl,R,RR,g,own,h⟩:=h
 have hT:=h.s.n3
 rcases rix_cases P.rels name with hX | ⟨r,hrl,hX⟩
 ·refine (Relation_no h.v name hX).mono ?_
  rintro e w1 ⟨rfl,hb⟩
  refine ⟨none,0,0,5,rfl,fun w2 hb2 => ?_,hb⟩
  have h2:=(h.below hb).below hb2
  refine (RefRelation_any h2.r h2.o.nr name).mono ?_
  rintro e w3 ⟨a,n,k,code,rfl,rfl,⟨_,rfl,hsl⟩ | ⟨_,r,hr,_⟩⟩
  ·rw [hsl]
   exact nil_end 5 ⟨qb,base,rbase,nv,rb,ib,wb,l,rl,R,RR,g,own,h2⟩ (Below.refl _ _)
  ·rw [h.s.fx,hX] at hr;omega
 ·refine (Relation_ok h.v name hrl hX (hT r hrl)).mono ?_
  rintro e w1 ⟨vv,us,L,rfl,h1,h2,h3,hb⟩
  have hL:=rel_eq h.d h.v.rok hT hrl h2 h3
  have q1:=h1.readB h.r.sz
  obtain ⟨a,k,rfl⟩:=vown_form h1.2.1
  refine ⟨a,_,k,0,rfl,fun w2 hb2 => ?_,hb⟩
  have h2':=(h.below hb).below hb2
  refine (RefRelation_any h2'.r h2'.o.nr name).mono ?_
  rintro e w3 ⟨a',n',k',code,rfl,rfl,⟨hn,_⟩ | ⟨rfl,r',hr,hr2,hread⟩⟩
  ·rw [h.s.fx,hX] at hn;omega
  ·have er:r' = r:=by rw [h.s.fx,hX] at hr;omega
   subst er
   have q3:=q1.below hb2
   rw [← hL] at hread
   refine ⟨a',n',k',rfl,⟨_,q3.read,hread.read,?_,by rw [hL];have:=h.o.few r';omega⟩,⟨qb,base,rbase,nv,rb,ib,wb,l,rl,R,RR,g,own,h2'⟩,fun _ _ _ hc => hc⟩
   rw [hL]
   intro j hj
   have hm:rAt (RR r') j ∈ RR r':=by
    unfold rAt;rw [List.getD_eq_getElem?_getD,List.getElem?_eq_getElem hj];exact List.getElem_mem hj
   rw [h.w'.wid r' hr2 _ hm]
   have:=h.w'.n3 r' hr2
   omega
theorem RefW.clr {l:List K.AD} {rl rl':List RfD} {RR:Nat -> Rws} (h:RefW l rl RR) (hs:SameN rl rl') (S:Nat -> Bool) (n:Nat):RefW l rl' (clrRR S n RR):=by
 refine ⟨fun q hq => ?_,fun q hq => ?_,fun i hi => ?_⟩
 ·rw [hs.len] at hq
  rw [(hs.nam q hq).2];exact h.n3 q hq
 ·rw [hs.len] at hq
  rw [(hs.nam q hq).2]
  unfold clrRR
  split
  ·intro x hx;cases hx
  ·exact h.wid q hq
 ·rw [hs.relR]
  by_cases hq:relR l rl i < rl.length
  ·rw [(hs.nam _ hq).2];exact h.tn i hi
  ·have e1:rl.getD (relR l rl i) rf0 = rf0:=by rw [List.getD_eq_getElem?_getD,List.getElem?_eq_none (by omega)];rfl
   have e2:rl'.getD (relR l rl i) rf0 = rf0:=by rw [List.getD_eq_getElem?_getD,List.getElem?_eq_none (by rw [hs.len];omega)];rfl
   rw [e2,← e1];exact h.tn i hi
def ClM (B:Nat) (w0 w1:World) (vb rvb:Nat) (P:PlanD) (names:List ByteArray) (vv:Value) (c:Int):Prop :=
 ∀ (w2:World) (sv:Value),Below w1.heap.size w1 w2 -> SReads w2 sv names -> UB B sv -> Calls Tryz.prog 38 #[.pointer (some ⟨rvb,0,none⟩),sv] w2 (RfEnd B w0 w2 vb rvb P vv c)
theorem clr1 {B:Nat} {w0 u:World} {vb rvb:Nat} {P:PlanD} (h:Bth B w0 u vb rvb P) (hH:HdOk P) (hF:RelFull P) (names:List ByteArray) {v:Value} (hv:SReads u v names) (hl:names.length <= 1000) :
  Calls Tryz.prog 18 #[.pointer (some ⟨vb,0,none⟩),v] u fun e w1 => ∃ a n k c,e = .returned (.tuple #[.slice a n k,.int .i64 c]) /\ ClM B w0 w1 vb rvb P names (.slice a n k) c /\ B <= w1.heap.size /\ ∀ p y,u.cell? p = some y -> w1.cell? p = some y:=by
 obtain ⟨qb,base,rbase,nv,rb,ib,wb,l,rl,R,RR,g,own,h⟩:=h
 have hr1:1 <= rl.length:=by
  have:=h.v.rel.lt 0 (by have:=h.v.ok.n1;omega)
  rw [h.s.nr];omega
 refine (clear_c h.v hF names hv hl).mono ?_
 rintro e w1 ⟨_,rfl,vv,c,rfl,⟨rfl,rfl,hb,j,hj,hno⟩ | ⟨rfl,hall,us,L,g',h1,h2,h3,h4,h5⟩⟩
 ·refine ⟨none,0,0,5,rfl,fun w2 sv hb2 hs hub => ?_,Nat.le_trans h.r.sz hb.size,fun _ _ hx => (fr_below hb).cell (mps_none _) hx⟩
  have h2:=(h.below hb).below hb2
  refine (RefClear_any h2.r h2.o hr1 names hs hub hl).mono ?_
  rintro e w3 ⟨a,n,k,code,rfl,⟨rfl,hsl,hb3,_⟩ | ⟨_,hgood,_⟩⟩
  ·rw [hsl]
   exact nil_end 5 ⟨qb,base,rbase,nv,rb,ib,wb,l,rl,R,RR,g,own,h2⟩ hb3
  ·exact absurd (by rw [h.s.fx];exact hno) (hgood j hj)
 ·have hm:=mps_ow h.v.W
  have hU:=h5.below (B:=w0.heap.size) h.blw.size h.ob
  have r1:=h.r.fr h5.fr hm
  have hD':=h.d.clr (namS P names) (namR rl names) (fun r hr => namR_eq h.s names (by rw [h.s.nr];exact hr))
  rw [← h.s.nr] at hD'
  have hL:=clr_eq h.v.ok h.v.rel hH h.v.rok h4.rok h.s h.d hD' (nam_zero hF h.v.ok.n1 R hall) h2 h3
  have hfit:=fit_neg (rows_fit h2 h.v.ok.head6 (wor_few h.v.ok h.v.rel h.v.rok))
  have q1:=h1.readB h.r.sz
  obtain ⟨a,k,rfl⟩:=vown_form h1.2.1
  refine ⟨a,_,k,0,rfl,fun w2 sv hb2 hs hub => ?_,Nat.le_trans h.r.sz h5.fr.size,fun _ _ hx => h5.fr.cell hm hx⟩
  refine (RefClear_any (r1.below hb2) h.o hr1 names hs hub hl).mono ?_
  rintro e w3 ⟨a',n',k',code,rfl,⟨_,_,_,j,hj,hno⟩ | ⟨rfl,_,rl',M,i1,i3,i4,i5,i6,i7⟩⟩
  ·obtain ⟨r,hr⟩:=hall j hj
   rw [h.s.fx,hr] at hno;omega
  ·have q3:=(q1.below hb2).t140 i6 i7
   rw [← hL] at i3
   refine ⟨a',n',k',rfl,⟨_,q3.read,i3.read,hfit.2,by have:=hfit.1;omega⟩,?_,fun p y hp hx => t140_cell i6 i7 hp hx⟩
   refine ⟨qb,base,rbase,nv,rb,ib,wb,l,rl',_,_,g',own,(h4.fr (fr_below hb2)).ref i6 i7,i4,i5,h.w'.clr i1 _ _,h.s.same i1,hD',hU.2,h.rb0,?_⟩
   exact t140_below ((h.blw.trans hU.1).trans (hb2.mono (Nat.le_trans h.blw.size h5.fr.size))) (Nat.le_refl _) h.rb0 i6 i7
theorem Total_many {w:World} {vb:Nat} {P:PlanD} {rb ib:List Nat} {wb:Nat} {R:Nat -> List Int -> Int} {g:Nat -> List Int -> Option Nat} {own:Nat -> Option (Nat × List Int)} (h:VSt w vb P rb ib wb R g own) {v:Value} {xs:List Int} (hr:Reads w v xs) (hx:¬ xs.length <= P.head.length) :
  Calls Tryz.prog 29 #[.pointer (some ⟨vb,0,none⟩),v] w fun e w' => e = .returned (.tuple #[.int .i64 0,.int .i64 6]) /\ Below w.heap.size w w':=by
 obtain ⟨c,hb⟩:=h.hb
 have h0:=h.h0
 obtain ⟨hv,b1,q1,q2⟩:=(h.pl.lock hb (.int .i32 1)).head
 have f0:=blk_free hb 0
 have lv:=vlt_of_block hb
 have HLB:Hid (∀ w2,Below w.heap.size (w.setCell ⟨vb,0,none⟩ (.int .i32 1)) w2 -> (w2.cell? ⟨vb,0,none⟩ = some (.int .i32 1) /\ w2.frozen? ⟨vb,0,none⟩ = false) /\ Below w.heap.size w (w2.setCell ⟨vb,0,none⟩ (.int .i32 0))):=fun w2 h => ⟨lock_held hb h0 (h.block vb lv),lock_below hb h0 h⟩
 obtain ⟨W,hW⟩:∃ W,w.setCell ⟨vb,0,none⟩ (.int .i32 1) = W:=⟨_,rfl⟩
 have hWs:W.heap.size = w.heap.size:=by rw [← hW];simp
 rw [hW] at q1 q2 HLB
 obtain ⟨ha1,hcap1,rfl⟩:=vown_form q2
 obtain ⟨va,vc,hve,_⟩:=hr
 subst hve
 have HW:Hid (w.setCell ⟨vb,0,none⟩ (.int .i32 1) = W):=hW
 have hnx:(P.head.length:Int) < (xs.length:Int):=by omega
 clear h hb hW q2
 go_enter_defers Tryz.func29,Tryz.ntmps29
 go_wp2_with (go_at_call 39;refine (lock_free Tryz.muLib ⟨vb,0,none⟩ _ h0 f0).mono ?_;rintro e w' ⟨rfl,rfl⟩;rw [HW.out])
 refine leaves_cons (f:=40) (args:=#[.pointer (some ⟨vb,0,none⟩)]) (by simp) (by simp [go_sem]) ?_
 obtain ⟨⟨k1,k2⟩,k3⟩:=HLB.out W (Below.refl _ _)
 refine (unlock_deferred Tryz.muLib ⟨vb,0,none⟩ .returning _ k1 k2).mono ?_
 rintro e u' w3 ⟨rfl,rfl,rfl⟩
 exact ⟨_,results_tmp2 rfl _ _ _,rfl,k3⟩
theorem RefTotal_many {B:Nat} {w:World} {vb qb base rbase nv:Nat} {head:List Nat} {l:List K.AD} {rl:List RfD} {RR:Nat -> Rws} (h:RVS B w vb qb base rbase nv head l rl RR) {xv:Value} {xs:List Int} (hr:Reads w xv xs) (hx:¬ xs.length <= head.length) :
  Calls Tryz.prog 36 #[.pointer (some ⟨vb,0,none⟩),xv] w fun e w' => e = .returned (.tuple #[.int .i64 0,.int .i64 6]) /\ Below w.heap.size w w':=by
 obtain ⟨rv,r1,r2,r3⟩:=h.blk
 obtain ⟨va,vcap,hv,av,q1,q2,q3⟩:=h.q
 obtain ⟨ha,hcap,rfl⟩:=vown_form q2
 have c0:w.cell? ⟨vb,0,none⟩ = some (.pointer (some ⟨qb,0,none⟩)):=by simp [World.cell?,r1]
 have c1:w.cell? ⟨qb,1,none⟩ = some (.slice ha head.length hcap):=by simp [World.cell?,q1]
 obtain ⟨xa,xc,rfl,hrd⟩:=hr
 have hng:(head.length:Int) < (xs.length:Int):=by omega
 clear h r1 r2 r3 q1 q2 q3 hrd
 go_enter Tryz.func36,Tryz.ntmps36
 go_wp2_with fail
 go_ret2
 exact ⟨rfl,Below.refl _ _⟩
theorem rise_some (l:Rws):∃ m:Rws,m.Perm l /\ RiseL m:=by
 refine ⟨l.mergeSort fun x y => !decide (cmpL y.1 x.1 < 0),List.mergeSort_perm _ _,?_⟩
 have h:=List.pairwise_mergeSort (le:=fun (x y:List Int × Int) => !decide (cmpL y.1 x.1 < 0)) (fun a b c h1 h2 => by
  simp only [Bool.not_eq_true',decide_eq_false_iff_not] at h1 h2 ⊢
  exact cmpL_ntrans _ _ _ h2 h1) (fun a b => by
  have:=cL_anti a.1 b.1
  by_cases h:cmpL b.1 a.1 < 0
  ·rw [decide_eq_true h,decide_eq_false (by omega)];rfl
  ·rw [decide_eq_false h];rfl) l
 exact h.imp fun {x y} h => by simpa using h
theorem ref_tots {P:PlanD} (hH:HdOk P) (hP:PlanOk P) (hQ:RelOk P) {R:Nat -> List Int -> Int} (hR:RowsOk P R) {nv:Nat} {l:List K.AD} {rl:List RfD} {RR:Nat -> Rws} (hS:LnkS P nv l rl) (hD:LnkD P R RR) (xs:List Int):wr (rtot (refRows nv P.head l rl RR) xs) = wr (Sg (live 6 (P.wor (cont P R))) (totT P.head xs (P.wor (cont P R)))):=by
 obtain ⟨m,h1,h2⟩:=rise_some (rowsL (hvals P.head) (P.wor (cont P R)) (live 6 (P.wor (cont P R))))
 rw [← rows_eq hP hQ hH hR hS hD h1 h2,tot_ref h1]
theorem tot1 {B:Nat} {w0 u:World} {vb rvb:Nat} {P:PlanD} (h:Bth B w0 u vb rvb P) (hH:HdOk P) {v:Value} {xs:List Int} (hr:Reads u v xs) :
  Calls Tryz.prog 29 #[.pointer (some ⟨vb,0,none⟩),v] u fun e w1 => ∃ n c,e = .returned (.tuple #[.int .i64 n,.int .i64 c]) /\ Below u.heap.size u w1 /\ ∀ (w2:World) (xv:Value),Below w1.heap.size w1 w2 -> Reads w2 xv xs -> Calls Tryz.prog 36 #[.pointer (some ⟨rvb,0,none⟩),xv] w2 fun e w3 => e = .returned (.tuple #[.int .i64 n,.int .i64 c]) /\ Below w2.heap.size w2 w3:=by
 obtain ⟨qb,base,rbase,nv,rb,ib,wb,l,rl,R,RR,g,own,h⟩:=h
 by_cases hx:xs.length <= P.head.length
 ·obtain ⟨c,hb⟩:=h.v.hb
  refine (Total_any vb wb P h.v.ok _ v xs u c hb h.v.h0 h.v.pl h.v.wo h.v.cw hr hx).mono ?_
  rintro e w1 ⟨rfl,hb1⟩
  refine ⟨_,0,rfl,hb1,fun w2 xv hb2 hr2 => ?_⟩
  have h2:=(h.below hb1).below hb2
  refine (RefTotal_any h2.r h2.o hr2 hx).mono ?_
  rintro e w3 ⟨rfl,hb3⟩
  refine ⟨?_,hb3⟩
  have e1:=ref_tots hH h.v.ok h.v.rel h.v.rok h.s h.d xs
  rw [e1]
 ·refine (Total_many h.v hr hx).mono ?_
  rintro e w1 ⟨rfl,hb1⟩
  refine ⟨0,6,rfl,hb1,fun w2 xv hb2 hr2 => ?_⟩
  have h2:=(h.below hb1).below hb2
  exact RefTotal_many h2.r hr2 hx
end Go.Proofs.YtondkinefmjpjaaGreat
