import Derived.Deep.CutBlock
import Derived.Test.YtondkinefmjpjaaGreatI38
import Derived.Test.YtondkinefmjpjaaGreatI39
import Derived.Test.YtondkinefmjpjaaGreatI40
import Derived.Test.YtondkinefmjpjaaGreatI42
namespace Go.Proofs.YtondkinefmjpjaaGreat
open Go.RowKit
theorem Ears.mem {ms:List Nat} {left:List Nat} {es:List (Nat × Nat)} (h:Ears ms left es):∀ e,e ∈ es -> e.1 ∈ left /\ e.2 ∈ left:=by
 induction es generalizing left with
 | nil => intro e he;cases he
 | cons d es ih =>
  obtain ⟨h1,h2,_,_,h5⟩:=h
  intro e he
  rcases List.mem_cons.1 he with rfl | he
  ·exact ⟨h1,h2⟩
  ·obtain ⟨i1,i2⟩:=ih h5 e he
   exact ⟨(List.mem_filter.1 i1).1,(List.mem_filter.1 i2).1⟩
theorem Ears.len {ms:List Nat} {left:List Nat} {es:List (Nat × Nat)} (h:Ears ms left es):es.length <= left.length:=by
 induction es generalizing left with
 | nil => exact Nat.zero_le _
 | cons d es ih =>
  obtain ⟨h1,_,_,_,h5⟩:=h
  have:=ih h5
  have:=filter_less h1
  simp only [List.length_cons];omega
theorem Ears.len1 {ms:List Nat} {left:List Nat} {es:List (Nat × Nat)} (h:Ears ms left es) (hl:left ≠ []):es.length + 1 <= left.length:=by
 cases es with
 | nil => have:=List.length_pos_iff.2 hl;simp;omega
 | cons d es =>
  obtain ⟨h1,h2,h3,_,h5⟩:=h
  have hm:d.2 ∈ left.filter fun j => j != d.1:=List.mem_filter.2 ⟨h2,by simpa using h3⟩
  have l5:=h5.len
  have:=filter_less h1
  cases es with
  | nil =>
   have:0 < (left.filter fun j => j != d.1).length:=List.length_pos_iff.2 (List.ne_nil_of_mem hm)
   simp only [List.length_cons,List.length_nil];omega
  | cons e es =>
   have:=Ears.len1 h5 (List.ne_nil_of_mem hm)
   simp only [List.length_cons] at this ⊢;omega
theorem lkE_in {ms:List Nat} {es:List (Nat × Nat)} {n:Nat} (h:Ears ms (List.range n) es):∀ i,i < (lkE es).length -> ((lkE es).getD i (0,0)).1 < n /\ ((lkE es).getD i (0,0)).2 < n:=by
 intro i hi
 have hm:(lkE es).getD i (0,0) ∈ lkE es:=by rw [List.getD_eq_getElem?_getD,List.getElem?_eq_getElem hi];exact List.getElem_mem hi
 unfold lkE at hm
 obtain ⟨e,he,hq⟩:=List.mem_flatMap.1 hm
 obtain ⟨m1,m2⟩:=h.mem e he
 have m1:=List.mem_range.1 m1
 have m2:=List.mem_range.1 m2
 unfold lkE
 simp only [List.mem_cons,List.not_mem_nil,or_false] at hq
 rcases hq with q | q
 ·rw [q];exact ⟨m1,m2⟩
 ·rw [q];exact ⟨m2,m1⟩
theorem PlanOk.links {P:PlanD} (h:PlanOk P):P.es.length <= 3 /\ P.lk.length <= 6 /\ (∀ k,k < P.es.length -> (P.es.getD k (0,0)).1 < P.ms.length /\ (P.es.getD k (0,0)).2 < P.ms.length) /\ (∀ i,i < P.lk.length -> (P.lk.getD i (0,0)).1 < P.ms.length /\ (P.lk.getD i (0,0)).2 < P.ms.length):=by
 have hne:List.range P.ms.length ≠ []:=by have:=h.n1;intro e;have:=congrArg List.length e;rw [List.length_range,List.length_nil] at this;omega
 have h1:=h.ears.len1 hne
 rw [List.length_range] at h1
 have h4:=h.n4
 refine ⟨by omega,by unfold PlanD.lk;rw [lkE_len];omega,fun k hk => ?_,fun i hi => lkE_in h.ears i hi⟩
 have hm:P.es.getD k (0,0) ∈ P.es:=by rw [List.getD_eq_getElem?_getD,List.getElem?_eq_getElem hk];exact List.getElem_mem hk
 obtain ⟨m1,m2⟩:=h.ears.mem _ hm
 exact ⟨List.mem_range.1 m1,List.mem_range.1 m2⟩
theorem u8s_msk {ats:List K.CA} (h:∀ x,x ∈ ats -> x.set = ((K.msk x:Nat):Int)):K.u8s (ats.map K.CA.set) = u8s (ats.map K.msk):=by
 unfold K.u8s u8s
 rw [List.map_map,List.map_map]
 exact List.map_congr_left fun x hx => by simp [h x hx]
theorem or_nat {a b:Nat} (ha:a < 256) (hb:b < 256):bits BinOp.or IntKind.u8 (a:Int) (b:Int) = ((a ||| b:Nat):Int):=by
 show IntKind.u8.wrap ((BitVec.ofInt 8 (a:Int) ||| BitVec.ofInt 8 (b:Int)).toNat:Int) = _
 rw [BitVec.toNat_or,bv8 ha,bv8 hb,IntKind.wrap_u8]
 have:a ||| b < 2 ^ 8:=Nat.or_lt_two_pow (by omega) (by omega)
 omega
theorem orN_snoc (l:List Nat) (n:Nat):K.orN (l ++ [n]) = K.orN l ||| 2 ^ n:=by unfold K.orN;rw [List.foldl_append];rfl
theorem Kp.tagown {F:Nat -> Prop} {w w':World} {T b e s n:Nat} {v:Value} {xs:List Value} (hk:Kp F w w') (hF:∀ x,F x -> ∃ c,w.heap[x]? = some (.cells c T (0,0))) (ho:w.ownsRow b e s v n xs) (hne:e ≠ T):w'.ownsRow b e s v n xs :=
 hk.own ho (fun x hx hf => by
  obtain ⟨c,hc⟩:=own_cells ho hx
  obtain ⟨c',hc'⟩:=hF x hf
  rw [hc] at hc';simp at hc';exact hne hc'.2)
theorem Kp.tagblk {F:Nat -> Prop} {w w':World} {T x t:Nat} {c:Array Value} (hk:Kp F w w') (hF:∀ x,F x -> ∃ c,w.heap[x]? = some (.cells c T (0,0))) (hb:w.heap[x]? = some (.cells c t (0,0))) (hne:t ≠ T):w'.heap[x]? = some (.cells c t (0,0)) :=
 (hk.block x (vlt_of_block hb) (fun hf => by
  obtain ⟨c',hc'⟩:=hF x hf
  rw [hb] at hc';simp at hc';exact hne hc'.2)).trans hb
def zP:Array Value:=#[.slice none 0 0,.int .u8 0,.slice none 0 0,.slice none 0 0,.slice none 0 0,.slice none 0 0]
structure P1 (w:World) (B:Nat) (Q:Array Value) (pb:Nat) (hdv mv lv:Value) (hs:List Nat) (L:Nat) (lc:List Value):Prop where
 q:w.heap[B]? = some (.cells Q 121 (0,0))
 z:w.heap[B + 1]? = some (.cells zP 83 (0,0))
 p:w.heap[pb]? = some (.cells #[hdv,mv,.slice none 0 0,.slice none 0 0,lv,.slice none 0 0] 83 (0,0))
 lt:B + 1 < pb
 h:w.ownsRow B 3 1 hdv hs.length (nats hs)
 l:w.ownsRow B 163 4 lv L lc
theorem P1.below {w w':World} {B:Nat} {Q:Array Value} {pb:Nat} {hdv mv lv:Value} {hs:List Nat} {L:Nat} {lc:List Value} (h:P1 w B Q pb hdv mv lv hs L lc) (hb:Below w.heap.size w w'):P1 w' B Q pb hdv mv lv hs L lc :=
 ⟨(hb.block _ (vlt_of_block h.q)).trans h.q,(hb.block _ (vlt_of_block h.z)).trans h.z,(hb.block _ (vlt_of_block h.p)).trans h.p,h.lt,vown_below h.h hb,vown_below h.l hb⟩
theorem P1.made {w:World} {B:Nat} {Q:Array Value} {pb:Nat} {lv:Value} {L:Nat} {lc:List Value} (hq:w.heap[B]? = some (.cells Q 121 (0,0))) (hz:w.heap[B + 1]? = some (.cells zP 83 (0,0))) (hp:w.heap[pb]? = some (.cells zP 83 (0,0))) (lt:B + 1 < pb) (hl:w.ownsRow B 163 4 lv L lc) :
  P1 ((((((w.setCell ⟨pb,0,none⟩ (.slice none 0 0)).setCell ⟨pb,1,none⟩ (.int .u8 0)).setCell ⟨pb,2,none⟩ (.slice none 0 0)).setCell ⟨pb,3,none⟩ (.slice none 0 0)).setCell ⟨pb,4,none⟩ lv).setCell ⟨pb,5,none⟩ (.slice none 0 0)) B Q pb (.slice none 0 0) (.int .u8 0) lv [] L lc:=by
 have hK:Kp (fun x => x = pb) w ((((((w.setCell ⟨pb,0,none⟩ (.slice none 0 0)).setCell ⟨pb,1,none⟩ (.int .u8 0)).setCell ⟨pb,2,none⟩ (.slice none 0 0)).setCell ⟨pb,3,none⟩ (.slice none 0 0)).setCell ⟨pb,4,none⟩ lv).setCell ⟨pb,5,none⟩ (.slice none 0 0)):=by
  refine Kp.trans ?_ (Kp.set (P:=fun x => x = pb) _ _ _ rfl) (fun _ _ q => q)
  refine Kp.trans ?_ (Kp.set (P:=fun x => x = pb) _ _ _ rfl) (fun _ _ q => q)
  refine Kp.trans ?_ (Kp.set (P:=fun x => x = pb) _ _ _ rfl) (fun _ _ q => q)
  refine Kp.trans ?_ (Kp.set (P:=fun x => x = pb) _ _ _ rfl) (fun _ _ q => q)
  refine Kp.trans ?_ (Kp.set (P:=fun x => x = pb) _ _ _ rfl) (fun _ _ q => q)
  exact Kp.set _ _ _ rfl
 refine ⟨(hK.block _ (vlt_of_block hq) (by omega)).trans hq,(hK.block _ (vlt_of_block hz) (by omega)).trans hz,?_,lt,World.ownsRow_nil _ _ _ _,hK.tagown (T:=83) (fun x hx => by subst hx;exact ⟨_,hp⟩) hl (by decide)⟩
 have h0:=blk_setCell hp 0 (.slice none 0 0)
 have h1:=blk_setCell h0 1 (.int .u8 0)
 have h2:=blk_setCell h1 2 (.slice none 0 0)
 have h3:=blk_setCell h2 3 (.slice none 0 0)
 have h4:=blk_setCell h3 4 lv
 have h5:=blk_setCell h4 5 (.slice none 0 0)
 rw [h5];simp [Array.setIfInBounds,zP]
theorem P1.push {w w1 w2:World} {B:Nat} {Q:Array Value} {pb:Nat} {hdv hdv' mv lv:Value} {hs:List Nat} {L n m:Nat} {lc:List Value} (h:P1 w B Q pb hdv mv lv hs L lc) (hb:Below w.heap.size w w1) (hg:w1.grownBy w2 hdv.ownBlock) (ho:w2.ownsRow B 3 1 hdv' m (nats hs ++ [.int .i64 (n:Int)])) (hm:m = hs.length + 1) :
  P1 (w2.setCell ⟨pb,0,none⟩ hdv') B Q pb hdv' mv lv (hs ++ [n]) L lc /\ w2.heap[pb]? = some (.cells #[hdv,mv,.slice none 0 0,.slice none 0 0,lv,.slice none 0 0] 83 (0,0)):=by
 have hK:Kp (fun x => hdv.ownBlock = some x) w w2:=(Kp.of_below hb).trans (Kp.grown hg (fun _ q => q)) (fun _ _ q => q)
 have hT:∀ x,hdv.ownBlock = some x -> ∃ c,w.heap[x]? = some (.cells c 3 (0,0)):=fun x hx => own_cells h.h hx
 have p2:=hK.tagblk hT h.p (by decide)
 have hS:Kp (fun x => x = pb) w2 (w2.setCell ⟨pb,0,none⟩ hdv'):=Kp.set _ _ _ rfl
 have hST:∀ x,x = pb -> ∃ c,w2.heap[x]? = some (.cells c 83 (0,0)):=fun x hx => by subst hx;exact ⟨_,p2⟩
 have hlt:=h.lt
 refine ⟨⟨hS.tagblk hST (hK.tagblk hT h.q (by decide)) (by decide),(hS.block _ (vlt_of_block (hK.tagblk hT h.z (by decide))) (by omega)).trans (hK.tagblk hT h.z (by decide)),?_,hlt,?_,hS.tagown hST (hK.tagown hT h.l (by decide)) (by decide)⟩,p2⟩
 ·rw [blk_setCell p2 0 hdv'];simp [Array.setIfInBounds]
 ·have:nats (hs ++ [n]) = nats hs ++ [.int .i64 (n:Int)]:=by simp [nats]
  rw [this,List.length_append,show hs.length + [n].length = m by simp;omega]
  exact hS.tagown hST ho (by decide)
theorem P1.mark {w:World} {B:Nat} {Q:Array Value} {pb:Nat} {hdv mv lv:Value} {hs:List Nat} {L:Nat} {lc:List Value} (h:P1 w B Q pb hdv mv lv hs L lc) (z:Int):P1 (w.setCell ⟨pb,1,none⟩ (.int .u8 z)) B Q pb hdv (.int .u8 z) lv hs L lc:=by
 have hS:Kp (fun x => x = pb) w (w.setCell ⟨pb,1,none⟩ (.int .u8 z)):=Kp.set _ _ _ rfl
 have hST:∀ x,x = pb -> ∃ c,w.heap[x]? = some (.cells c 83 (0,0)):=fun x hx => by subst hx;exact ⟨_,h.p⟩
 have hlt:=h.lt
 refine ⟨hS.tagblk hST h.q (by decide),(hS.block _ (vlt_of_block h.z) (by omega)).trans h.z,?_,hlt,hS.tagown hST h.h (by decide),hS.tagown hST h.l (by decide)⟩
 rw [blk_setCell h.p 1 _];simp [Array.setIfInBounds]
structure P2 (w:World) (B:Nat) (Q:Array Value) (pb:Nat) (hdv mv rv av lv wv:Value) (hs:List Nat) (L:Nat) (lc:List Value) (rels:List RelD) (rvs:List Value) (own:Nat -> Option Nat) (pvs:List Value) (wks:List (List Nat)) (wvs:List Value):Prop where
 q:w.heap[B]? = some (.cells Q 121 (0,0))
 z:w.heap[B + 1]? = some (.cells zP 83 (0,0))
 p:w.heap[pb]? = some (.cells #[hdv,mv,rv,av,lv,wv] 83 (0,0))
 lt:B + 1 < pb
 h:w.ownsRow B 3 1 hdv hs.length (nats hs)
 l:w.ownsRow B 163 4 lv L lc
 r:PRl w B rv rels rvs own
 a:w.ownsRow B 156 1 av pvs.length pvs
 k:w.ownsRow B 28 1 wv wvs.length wvs
 wl:wvs.length = wks.length
 wk:∀ j,j < wks.length -> w.ownsRow B 3 1 (wvs.getD j (.bool false)) (wks.getD j []).length (nats (wks.getD j []))
 oh:∀ x,hdv.ownBlock = some x -> own x = none
 ow:∀ j,j < wks.length -> ∀ x,(wvs.getD j (.bool false)).ownBlock = some x -> own x = none
section
variable {w w' w1 w2:World} {B:Nat} {Q:Array Value} {pb:Nat} {hdv mv rv av lv wv:Value} {hs:List Nat} {L:Nat} {lc:List Value} {rels:List RelD} {rvs:List Value} {own:Nat -> Option Nat} {pvs:List Value} {wks:List (List Nat)} {wvs:List Value}
theorem P2.start (h:P1 w B Q pb hdv mv lv hs L lc):P2 w B Q pb hdv mv (.slice none 0 0) (.slice none 0 0) lv (.slice none 0 0) hs L lc [] [] (fun _ => none) [] [] [] :=
 ⟨h.q,h.z,h.p,h.lt,h.h,h.l,⟨World.ownsRow_nil _ _ _ _,rfl,fun r hr => absurd hr (Nat.not_lt_zero _),fun r hr => absurd hr (Nat.not_lt_zero _),fun k r hr => by cases hr⟩,World.ownsRow_nil _ _ _ _,World.ownsRow_nil _ _ _ _,rfl,fun j hj => absurd hj (Nat.not_lt_zero _),fun _ _ => rfl,fun j hj => absurd hj (Nat.not_lt_zero _)⟩
theorem P2.rtag {F:Nat -> Prop} {T:Nat} (h:P2 w B Q pb hdv mv rv av lv wv hs L lc rels rvs own pvs wks wvs) (hk:Kp F w w') (hF:∀ x,F x -> ∃ c,w.heap[x]? = some (.cells c T (0,0))) (h3:3 ≠ T) (h106:106 ≠ T):PRl w' B rv rels rvs own :=
 h.r.kp hk (fun x hx hf => by
  obtain ⟨c,hc⟩:=own_cells h.r.row hx
  obtain ⟨c',hc'⟩:=hF x hf
  rw [hc] at hc';simp at hc';exact h106 hc'.2) (fun x r hr hf => by
  obtain ⟨_,c,hc⟩:=h.r.tg x r hr
  obtain ⟨c',hc'⟩:=hF x hf
  rw [hc] at hc';simp at hc';exact h3 hc'.2)
theorem P2.pat {av' v:Value} {m:Nat} (h:P2 w B Q pb hdv mv rv av lv wv hs L lc rels rvs own pvs wks wvs) (hb:Below w.heap.size w w1) (hg:w1.grownBy w2 av.ownBlock) (ho:w2.ownsRow B 156 1 av' m (pvs ++ [v])) (hm:m = pvs.length + 1) :
  P2 (w2.setCell ⟨pb,3,none⟩ av') B Q pb hdv mv rv av' lv wv hs L lc rels rvs own (pvs ++ [v]) wks wvs /\ w2.heap[pb]? = some (.cells #[hdv,mv,rv,av,lv,wv] 83 (0,0)):=by
 have hK:Kp (fun x => av.ownBlock = some x) w w2:=(Kp.of_below hb).trans (Kp.grown hg (fun _ q => q)) (fun _ _ q => q)
 have hT:∀ x,av.ownBlock = some x -> ∃ c,w.heap[x]? = some (.cells c 156 (0,0)):=fun x hx => own_cells h.a hx
 have p2:=hK.tagblk hT h.p (by decide)
 have hS:Kp (fun x => x = pb) w2 (w2.setCell ⟨pb,3,none⟩ av'):=Kp.set _ _ _ rfl
 have hST:∀ x,x = pb -> ∃ c,w2.heap[x]? = some (.cells c 83 (0,0)):=fun x hx => by subst hx;exact ⟨_,p2⟩
 have hlt:=h.lt
 have z2:=hK.tagblk hT h.z (by decide)
 have r2:=h.rtag hK hT (by decide) (by decide)
 refine ⟨⟨hS.tagblk hST (hK.tagblk hT h.q (by decide)) (by decide),(hS.block _ (vlt_of_block z2) (by omega)).trans z2,?_,hlt,hS.tagown hST (hK.tagown hT h.h (by decide)) (by decide),hS.tagown hST (hK.tagown hT h.l (by decide)) (by decide),?_,?_,hS.tagown hST (hK.tagown hT h.k (by decide)) (by decide),h.wl,fun j hj => hS.tagown hST (hK.tagown hT (h.wk j hj) (by decide)) (by decide),h.oh,h.ow⟩,p2⟩
 ·rw [blk_setCell p2 3 av'];simp [Array.setIfInBounds]
 ·exact r2.kp hS (fun x hx hf => by
   obtain ⟨c,hc⟩:=own_cells r2.row hx
   rw [hf,p2] at hc;simp at hc) (fun x r hr hf => by
   obtain ⟨_,c,hc⟩:=r2.tg x r hr
   rw [hf,p2] at hc;simp at hc)
 ·rw [List.length_append,show pvs.length + [v].length = m by simp;omega]
  exact hS.tagown hST ho (by decide)
theorem P2.rel {rv':Value} {R:List RelD} {rvs':List Value} {own':Nat -> Option Nat} (h:P2 w B Q pb hdv mv rv av lv wv hs L lc rels rvs own pvs wks wvs) (hA:AddA w w' pb B hdv mv av lv wv rv' R rvs' own' (fun k => k = pb ∨ rv.ownBlock = some k ∨ own k ≠ none)) (ho:∀ k,k < w.heap.size -> own' k ≠ none -> own k ≠ none) :
  P2 w' B Q pb hdv mv rv' av lv wv hs L lc R rvs' own' pvs wks wvs:=by
 have hF:∀ x,(x = pb ∨ rv.ownBlock = some x ∨ own x ≠ none) -> ∃ c t,w.heap[x]? = some (.cells c t (0,0)) /\ (t = 83 ∨ t = 106 ∨ t = 3):=by
  rintro x (e | e | e)
  ·exact ⟨_,83,by rw [e];exact h.p,Or.inl rfl⟩
  ·obtain ⟨c,hc⟩:=own_cells h.r.row e;exact ⟨c,106,hc,Or.inr (Or.inl rfl)⟩
  ·cases hx:own x with
   | none => exact absurd hx e
   | some r => obtain ⟨_,c,hc⟩:=h.r.tg x r hx;exact ⟨c,3,hc,Or.inr (Or.inr rfl)⟩
 have row:∀ {b e s n:Nat} {v:Value} {xs:List Value},w.ownsRow b e s v n xs -> e ≠ 83 -> e ≠ 106 -> e ≠ 3 -> w'.ownsRow b e s v n xs:=fun hx h1 h2 h3 => hA.kp.own hx (fun x hx' hf => by
  obtain ⟨c,hc⟩:=own_cells hx hx'
  obtain ⟨c',t,hc',ht⟩:=hF x hf
  rw [hc] at hc';simp at hc'
  rcases ht with e | e | e
  ·exact h1 (hc'.2.trans e)
  ·exact h2 (hc'.2.trans e)
  ·exact h3 (hc'.2.trans e))
 have row3:∀ {b n:Nat} {v:Value} {xs:List Value},w.ownsRow b 3 1 v n xs -> (∀ x,v.ownBlock = some x -> own x = none) -> w'.ownsRow b 3 1 v n xs:=fun hx hn => hA.kp.own hx (fun x hx' hf => by
  obtain ⟨c,hc⟩:=own_cells hx hx'
  rcases hf with e | e | e
  ·rw [e,h.p] at hc;simp at hc
  ·obtain ⟨c',hc'⟩:=own_cells h.r.row e;rw [hc] at hc';simp at hc'
  ·exact e (hn x hx'))
 have own0:∀ {b n:Nat} {v:Value} {xs:List Value},w.ownsRow b 3 1 v n xs -> ∀ x,v.ownBlock = some x -> own x = none -> own' x = none:=fun hx x hx' hn => by
  cases hq:own' x with
  | none => rfl
  | some r => exact absurd hn (ho x (hx.lt x hx').2 (by rw [hq];simp))
 have hlt:=h.lt
 refine ⟨(hA.kp.block _ (vlt_of_block h.q) ?_).trans h.q,(hA.kp.block _ (vlt_of_block h.z) ?_).trans h.z,hA.blk,hlt,row3 h.h h.oh,row h.l (by decide) (by decide) (by decide),hA.pr,row h.a (by decide) (by decide) (by decide),row h.k (by decide) (by decide) (by decide),h.wl,fun j hj => row3 (h.wk j hj) (h.ow j hj),fun x hx => own0 h.h x hx (h.oh x hx),fun j hj x hx => own0 (h.wk j hj) x hx (h.ow j hj x hx)⟩
 ·intro hf
  obtain ⟨c,t,hc,ht⟩:=hF B hf
  rw [h.q] at hc;simp at hc
  rcases ht with e | e | e <;> (rw [e] at hc;simp at hc)
 ·rintro (e | e | e)
  ·omega
  ·obtain ⟨c,hc⟩:=own_cells h.r.row e;rw [h.z] at hc;simp at hc
  ·cases hx:own (B + 1) with
   | none => exact absurd hx e
   | some r => obtain ⟨_,c,hc⟩:=h.r.tg _ r hx;rw [h.z] at hc;simp at hc
theorem P2.walk {wv' v:Value} {l:List Nat} {n m:Nat} {o:Obj} (h:P2 w B Q pb hdv mv rv av lv wv hs L lc rels rvs own pvs wks wvs) (hB:B <= w.heap.size) (hb:Below w.heap.size w w1) (hw:w1.ownsRow w.heap.size 3 1 v n (nats l)) (hn:n = l.length) (hg:(w1.alloc o).grownBy w2 wv.ownBlock) (ho:w2.ownsRow B 28 1 wv' m (wvs ++ [v])) (hm:m = wvs.length + 1) :
  P2 (w2.setCell ⟨pb,5,none⟩ wv') B Q pb hdv mv rv av lv wv' hs L lc rels rvs own pvs (wks ++ [l]) (wvs ++ [v]) /\ w2.heap[pb]? = some (.cells #[hdv,mv,rv,av,lv,wv] 83 (0,0)):=by
 have hb':Below w.heap.size w (w1.alloc o):=hb.alloc hb.size o
 have hK:Kp (fun x => wv.ownBlock = some x) w w2:=(Kp.of_below hb').trans (Kp.grown hg (fun _ q => q)) (fun _ _ q => q)
 have hT:∀ x,wv.ownBlock = some x -> ∃ c,w.heap[x]? = some (.cells c 28 (0,0)):=fun x hx => own_cells h.k hx
 have p2:=hK.tagblk hT h.p (by decide)
 have hS:Kp (fun x => x = pb) w2 (w2.setCell ⟨pb,5,none⟩ wv'):=Kp.set _ _ _ rfl
 have hST:∀ x,x = pb -> ∃ c,w2.heap[x]? = some (.cells c 83 (0,0)):=fun x hx => by subst hx;exact ⟨_,p2⟩
 have hlt:=h.lt
 have z2:=hK.tagblk hT h.z (by decide)
 have r2:=h.rtag hK hT (by decide) (by decide)
 have hw2:w2.ownsRow w.heap.size 3 1 v n (nats l):=by
  refine (hw.alloc o).kept hg ?_
  cases hx:v.ownBlock with
  | none => exact Or.inl rfl
  | some x =>
   refine Or.inr (fun e => ?_)
   have:=(hw.lt x hx).1
   have:=(h.k.lt x e.symm).2
   omega
 have hd:∀ j,j < wks.length -> (wvs ++ [v]).getD j (.bool false) = wvs.getD j (.bool false) /\ (wks ++ [l]).getD j [] = wks.getD j []:=fun j hj => by
  rw [List.getD_eq_getElem?_getD,List.getElem?_append_left (by rw [h.wl];exact hj),List.getD_eq_getElem?_getD,List.getD_eq_getElem?_getD,List.getElem?_append_left hj,List.getD_eq_getElem?_getD]
  exact ⟨rfl,rfl⟩
 have hd2:(wvs ++ [v]).getD wks.length (.bool false) = v /\ (wks ++ [l]).getD wks.length [] = l:=by
  rw [List.getD_eq_getElem?_getD,List.getElem?_append_right (by rw [h.wl];exact Nat.le_refl _),h.wl,List.getD_eq_getElem?_getD,List.getElem?_append_right (Nat.le_refl _)];simp
 refine ⟨⟨hS.tagblk hST (hK.tagblk hT h.q (by decide)) (by decide),(hS.block _ (vlt_of_block z2) (by omega)).trans z2,?_,hlt,hS.tagown hST (hK.tagown hT h.h (by decide)) (by decide),hS.tagown hST (hK.tagown hT h.l (by decide)) (by decide),?_,hS.tagown hST (hK.tagown hT h.a (by decide)) (by decide),?_,by simp [h.wl],fun j hj => ?_,h.oh,fun j hj x hx => ?_⟩,p2⟩
 ·rw [blk_setCell p2 5 wv'];simp [Array.setIfInBounds]
 ·exact r2.kp hS (fun x hx hf => by
   obtain ⟨c,hc⟩:=own_cells r2.row hx
   rw [hf,p2] at hc;simp at hc) (fun x r hr hf => by
   obtain ⟨_,c,hc⟩:=r2.tg x r hr
   rw [hf,p2] at hc;simp at hc)
 ·rw [List.length_append,show wvs.length + [v].length = m by simp;omega]
  exact hS.tagown hST ho (by decide)
 ·by_cases hl:j < wks.length
  ·rw [(hd j hl).1,(hd j hl).2]
   exact hS.tagown hST (hK.tagown hT (h.wk j hl) (by decide)) (by decide)
  ·have e:j = wks.length:=by simp at hj;omega
   rw [e,hd2.1,hd2.2,← hn]
   exact hS.tagown hST (hw2.mono hB) (by decide)
 ·by_cases hl:j < wks.length
  ·rw [(hd j hl).1] at hx;exact h.ow j hl x hx
  ·have e:j = wks.length:=by simp at hj;omega
   rw [e,hd2.1] at hx
   cases hq:own x with
   | none => rfl
   | some r =>
    obtain ⟨_,c,hc⟩:=h.r.tg x r hq
    have:=vlt_of_block hc
    have:=(hw.lt x hx).1
    omega
end
theorem relD_out (R:List RelD) (r:Nat) (h:¬ r < R.length):relD R r = r0:=by
 unfold relD;rw [List.getD_eq_getElem?_getD,List.getElem?_eq_none (by omega)];rfl
theorem putR_len (R:List RelD) (j i r m:Nat) (h:∀ r,(relD R r).2.2.length <= m):(relD (putR R j i) r).2.2.length <= m + 1:=by
 by_cases hr:r < R.length
 ·unfold putR
  rw [relD_set _ _ _ _ hr]
  split
  ·have:=h j;simp;omega
  ·have:=h r;omega
 ·rw [relD_out _ _ (by unfold putR;simpa using hr)];simp [r0]
theorem relsK_len (ats:List K.CA) (k:Nat):∀ r,(relD (K.relsK ats k) r).2.2.length <= k:=by
 induction k with
 | zero => intro r;rw [relD_out _ _ (by simp [K.relsK])];simp [r0]
 | succ k ih =>
  intro r
  unfold K.relsK addR
  refine putR_len _ _ _ _ _ (fun r => ?_)
  unfold baseR
  split
  ·exact ih r
  ·rw [relD_app]
   split
   ·exact ih r
   ·split
    ·simp
    ·simp [r0]
def tvals (ats:List K.CA) (ts:List (Option Addr × Nat)):List Value:=List.zipWith (fun d t => Value.slice t.1 d.n t.2) ats ts
theorem tvals_len {ats:List K.CA} {ts:List (Option Addr × Nat)} (h:ts.length = ats.length):(tvals ats ts).length = ats.length:=by simp [tvals,h]
theorem tvals_at {ats:List K.CA} {ts:List (Option Addr × Nat)} (k:Nat) (hk:k < ats.length) (hk2:k < ts.length):(tvals ats ts).getD k (.bool false) = .slice (ts[k]).1 (ats[k]).n (ts[k]).2:=by
 unfold tvals
 rw [List.getD_eq_getElem?_getD,List.getElem?_zipWith,List.getElem?_eq_getElem hk,List.getElem?_eq_getElem hk2];rfl
theorem tvals_take {ats:List K.CA} {ts:List (Option Addr × Nat)} (h:ts.length = ats.length) (k:Nat) (hk:k < ats.length):(tvals ats ts).take (k + 1) = (tvals ats ts).take k ++ [.slice (ts[k]'(by omega)).1 (ats[k]).n (ts[k]'(by omega)).2]:=by
 have hl:k < (tvals ats ts).length:=by rw [tvals_len h];exact hk
 rw [List.take_succ_eq_append_getElem hl]
 congr 2
 simp [tvals]
theorem ccells_at2 (l:List K.CA) (ts:List (Option Addr × Nat)) (hts:ts.length = l.length) (k:Nat) (hk:k < l.length):(K.ccells l ts)[k * 3]? = some (.string l[k].rel) /\ (K.ccells l ts)[k * 3 + 1]? = some (.slice (ts[k]'(by omega)).1 l[k].n (ts[k]'(by omega)).2) /\ (K.ccells l ts)[k * 3 + 2]? = some (.int .u8 l[k].set):=by
 induction l generalizing k ts with
 | nil => simp at hk
 | cons d l ih =>
  cases ts with
  | nil => simp at hts
  | cons t ts =>
   have e:K.ccells (d :: l) (t :: ts) = [.string d.rel,.slice t.1 d.n t.2,.int .u8 d.set] ++ K.ccells l ts:=by simp [K.ccells,K.ccell]
   rw [e]
   cases k with
   | zero => simp
   | succ k =>
    have h':=ih ts (by simpa using hts) k (by simpa using hk)
    have e0:(k + 1) * 3 = k * 3 + 3:=by omega
    rw [e0,List.getElem?_append_right (by simp),List.getElem?_append_right (by simp),List.getElem?_append_right (by simp)]
    simpa using h'
def wkl (lk:List (Nat × Nat)) (n:Nat):List (List Nat):=(List.range n).map fun i => wfL 4 lk i 9
theorem wkl_take (lk:List (Nat × Nat)) (n k:Nat) (hk:k < n):(wkl lk n).take (k + 1) = (wkl lk n).take k ++ [wfL 4 lk k 9]:=by
 have hl:k < (wkl lk n).length:=by simp [wkl,hk]
 rw [List.take_succ_eq_append_getElem hl];congr 2;simp [wkl]
theorem wkl_at (lk:List (Nat × Nat)) (n k:Nat) (hk:k < n):(wkl lk n).getD k [] = wfL 4 lk k 9:=by
 rw [List.getD_eq_getElem?_getD];simp [wkl,hk]
end Go.Proofs.YtondkinefmjpjaaGreat
