import Derived.Deep.Onto
import Derived.Test.YtondkinefmjpjaaGreatI17
import Derived.Test.YtondkinefmjpjaaGreatI30
namespace Go.Proofs.YtondkinefmjpjaaGreat.K
open Go.RowKit
def hvT (tm:List (Bool × Int)) (v:Nat):Bool:=tm.any fun t => t.1 && t.2 == (v:Int)
theorem hvT_snoc (tm:List (Bool × Int)) (t:Bool × Int) (v:Nat):hvT (tm ++ [t]) v = (hvT tm v || (t.1 && t.2 == (v:Int))):=by simp [hvT]
structure AtI (nv:Nat) (x:CA):Prop where
 len:x.tm.length = x.n
 n3:x.n <= 3
 set:SR x.set (hvT x.tm)
 tm:∀ t,t ∈ x.tm -> (t.1 = true -> t.2 < (nv:Int)) /\ 0 <= t.2 /\ t.2 <= 999
theorem AtI.mono {nv nv':Nat} {x:CA} (h:AtI nv x) (hn:nv <= nv'):AtI nv' x :=
 ⟨h.len,h.n3,h.set,fun t ht => ⟨fun e => by have:=(h.tm t ht).1 e;omega,(h.tm t ht).2⟩⟩
theorem AtI.zero (nv:Nat) (rel:ByteArray):AtI nv (x0 rel):=⟨rfl,Nat.zero_le _,SR.zero.congr fun _ _ => rfl,fun t ht => by cases ht⟩
theorem AtI.var {nv nv':Nat} {x:CA} (h:AtI nv x) (h2:x.n <= 2) (k:Nat) (hk:k < nv') (hn:nv <= nv') (h6:nv' <= 6):AtI nv' { x with n:=x.n + 1,set:=setBit x.set k,tm:=x.tm ++ [(true,(k:Int))] }:=by
 refine ⟨by simp [h.len],by show x.n + 1 <= 3;omega,(h.set.setBit k (by omega)).congr fun v _ => ?_,fun t ht => ?_⟩
 ·show (hvT x.tm v || v == k) = hvT (x.tm ++ [(true,(k:Int))]) v
  rw [hvT_snoc]
  congr 1
  rw [Bool.eq_iff_iff];simp;omega
 ·rcases List.mem_append.1 ht with ht | ht
  ·exact (h.mono hn).tm t ht
  ·simp at ht;subst ht
   exact ⟨fun _ => by simp;omega,by simp,by simp;omega⟩
theorem AtI.num {nv:Nat} {x:CA} (h:AtI nv x) (h2:x.n <= 2) (m:Int) (h0:0 <= m) (h9:m <= 999):AtI nv { x with n:=x.n + 1,tm:=x.tm ++ [(false,m)] }:=by
 refine ⟨by simp [h.len],by show x.n + 1 <= 3;omega,h.set.congr fun v _ => ?_,fun t ht => ?_⟩
 ·show hvT x.tm v = hvT (x.tm ++ [(false,m)]) v
  rw [hvT_snoc];simp
 ·rcases List.mem_append.1 ht with ht | ht
  ·exact h.tm t ht
  ·simp at ht;subst ht
   exact ⟨fun e => by simp at e,h0,h9⟩
theorem digs_all (w:ByteArray) (n:Nat):∀ i,w.size - i = n -> Est.digs w i = true -> ∀ j,i <= j -> (hj:j < w.size) -> Est.dig w[j] = true:=by
 induction n with
 | zero => intro i hn _ j hij hj;omega
 | succ n ih =>
  intro i hn h j hij hj
  rw [Est.digs.eq_def,dif_pos (by omega)] at h
  split at h
  ·rename_i hd
   by_cases e:i = j
   ·subst e;exact hd
   ·exact ih (i + 1) (by omega) h j (by omega) hj
  ·cases h
theorem numM_bound (t:ByteArray) (hd:∀ j,(hj:j < t.size) -> Est.dig t[j] = true) (k:Nat) (hk:k <= t.size) (h3:k <= 3):0 <= numM t k /\ numM t k < (10:Int) ^ k:=by
 induction k with
 | zero => exact ⟨Int.le_refl _,show (0:Int) < 10 ^ 0 by decide⟩
 | succ k ih =>
  obtain ⟨i1,i2⟩:=ih (by omega) (by omega)
  have hc:=hd k (by omega)
  have hk':k < t.size:=by omega
  have hb:48 <= (t[k]'hk').toNat /\ (t[k]'hk').toNat <= 57:=by
   simp only [Est.dig,Bool.and_eq_true,decide_eq_true_eq] at hc
   exact ⟨by simpa using UInt8.le_iff_toNat_le.1 hc.1,by simpa using UInt8.le_iff_toNat_le.1 hc.2⟩
  have hp:(10:Int) ^ k <= 100:=by
   match k,h3 with
   | 0,_ => decide
   | 1,_ => decide
   | 2,_ => decide
  have hw:∀ z:Int,0 <= z -> z < 2000 -> wrap64 z = z:=fun z h1 h2 => by have:=IntKind.wrap_i64 z;unfold wrap64;omega
  have e1:(((t[k]'hk').toNat:Int) - 48) % 256 = ((t[k]'hk').toNat:Int) - 48:=by omega
  rw [numM,dif_pos hk',e1,hw (10 * numM t k) (by omega) (by omega),hw _ (by omega) (by omega)]
  have e2:(10:Int) ^ (k + 1) = 10 * (10:Int) ^ k:=by rw [Int.pow_succ];omega
  rw [e2]
  omega
theorem numM_small (t:ByteArray) (h:Est.fairN t = true):0 <= numM t t.size /\ numM t t.size <= 999:=by
 unfold Est.fairN at h
 rw [Bool.and_eq_true,Bool.and_eq_true] at h
 have h3:t.size <= 3:=of_decide_eq_true h.2.1
 have hb:=numM_bound t (fun j hj => digs_all t t.size 0 rfl h.1 j (by omega) hj) t.size (Nat.le_refl _) h3
 have hp:(10:Int) ^ t.size <= 1000:=by
  generalize t.size = k at h3
  match k,h3 with
  | 0,_ => decide
  | 1,_ => decide
  | 2,_ => decide
  | 3,_ => decide
 exact ⟨hb.1,by omega⟩
theorem avR_in {s:ByteArray} {p:Est.Pc} {vars:List ByteArray} {e a:Nat} {x:CA} (hl:vars.length <= 6) (h:AtI vars.length x) (h2:x.n <= 2) :
  AtI (avR s p vars e a x).vars.length (avR s p vars e a x).x /\ vars.length <= (avR s p vars e a x).vars.length /\ (avR s p vars e a x).x.rel = x.rel:=by
 unfold avR
 split
 ·split
  ·rename_i hi
   obtain ⟨i1,i2⟩:=ixOf_lt hi
   have:=h.var h2 (ixOf vars p.t).toNat i1 (Nat.le_refl _) hl
   rw [i2] at this
   exact ⟨this,Nat.le_refl _,rfl⟩
  ·split
   ·exact ⟨h,Nat.le_refl _,rfl⟩
   ·have hn:(vars ++ [p.t]).length = vars.length + 1:=by simp
    refine ⟨?_,by show vars.length <= (vars ++ [p.t]).length;omega,rfl⟩
    show AtI (vars ++ [p.t]).length _
    rw [hn]
    exact h.var h2 vars.length (by omega) (by omega) (by omega)
 ·exact ⟨h,Nat.le_refl _,rfl⟩
theorem trR_in {s:ByteArray} {p:Est.Pc} {vars:List ByteArray} {e a:Nat} {x:CA} (hok:OkC s p) (hl:vars.length <= 6) (h:AtI vars.length x) :
  AtI (trR s p vars e a x).vars.length (trR s p vars e a x).x /\ vars.length <= (trR s p vars e a x).vars.length /\ (trR s p vars e a x).x.rel = x.rel:=by
 unfold trR
 split
 ·exact ⟨h,Nat.le_refl _,rfl⟩
 ·rename_i h3
  have h2:x.n <= 2:=by have:=h.n3;omega
  split
  ·rename_i h4
   obtain ⟨n1,n2⟩:=numM_small p.t (hok.2.2 (of_decide_eq_true h4))
   exact ⟨h.num h2 _ n1 n2,Nat.le_refl _,rfl⟩
  ·exact avR_in hl h h2
theorem ltR_in (s:ByteArray) (n:Nat) {p:Est.Pc} {vars:List ByteArray} {e a:Nat} {x:CA} (hok:OkC s p) (hl:vars.length <= 6) (h:AtI vars.length x) :
  AtI (ltR s n p vars e a x).vars.length (ltR s n p vars e a x).x /\ vars.length <= (ltR s n p vars e a x).vars.length /\ (ltR s n p vars e a x).x.rel = x.rel:=by
 induction n generalizing p vars e a x with
 | zero => exact ⟨h,Nat.le_refl _,rfl⟩
 | succ n ih =>
  obtain ⟨t1,t2,_⟩:=trR_ok (e:=e) (a:=a) (x:=x) hok hl
  obtain ⟨u1,u2,u3⟩:=trR_in (e:=e) (a:=a) hok hl h
  unfold ltR
  split
  ·split
   ·obtain ⟨i1,i2,i3⟩:=ih (e:=(trR s p vars e a x).e) (a:=(trR s p vars e a x).a) (t1.tp 7) t2 u1
    exact ⟨i1,by omega,i3.trans u3⟩
   ·exact ⟨u1,u2,u3⟩
  ·exact ⟨u1,u2,u3⟩
theorem shape_ok {ats:List CA} {rel:ByteArray} {n:Nat} (h:¬ 0 <= oixOf ats rel n):∀ d,d ∈ ats -> d.rel.toList = rel.toList -> d.n = n:=by
 intro d hd he
 unfold oixOf at h
 split at h
 ·omega
 ·rename_i hx
  have hl:ats.findIdx (oshape rel n) = ats.length:=by have:=List.findIdx_le_length (xs:=ats) (p:=oshape rel n);omega
  have hf:=List.findIdx_eq_length.1 hl d hd
  unfold oshape at hf
  rw [he] at hf
  simp at hf
  omega
structure QI (c:CS):Prop where
 at_:∀ x,x ∈ c.ats -> AtI c.vars.length x
 sh:∀ x y,x ∈ c.ats -> y ∈ c.ats -> x.rel.toList = y.rel.toList -> x.n = y.n
 v6:c.vars.length <= 6
 n4:c.ats.length <= 4
 h6:c.hd.length <= 6
theorem QI.vars {c c':CS} (h:QI c) (h1:c'.ats = c.ats) (h2:c.vars.length <= c'.vars.length) (h3:c'.vars.length <= 6) (h4:c'.hd = c.hd):QI c' :=
 ⟨by rw [h1];exact fun x hx => (h.at_ x hx).mono h2,by rw [h1];exact h.sh,h3,by rw [h1];exact h.n4,by rw [h4];exact h.h6⟩
theorem raR_in {s:ByteArray} {c:CS} (hok:OkC s c.p) (h:QI c):QI (raR s c).2:=by
 have h3:OkC s (ra3 s c).p:=hok.next
 have h5:OkC s (cw s (ra3 s c) 5).p:=h3.tp 5
 have hT:=ltR_ok (e:=(cw s (ra3 s c) 5).e) (a:=(cw s (ra3 s c) 5).a) (x:=x0 c.p.t) s 4 h5 h.v6
 obtain ⟨i1,i2,i3⟩:=ltR_in (e:=(cw s (ra3 s c) 5).e) (a:=(cw s (ra3 s c) 5).a) s 4 h5 h.v6 (AtI.zero _ c.p.t)
 change AtI (raT s c).vars.length (raT s c).x at i1
 change c.vars.length <= (raT s c).vars.length at i2
 have q3:QI (raC3 s c):=h.vars rfl i2 hT.2 rfl
 unfold raR
 split
 ·split
  ·exact h.vars rfl (Nat.le_refl _) h.v6 rfl
  ·rename_i h4
   split
   ·split
    ·split
     ·split
      ·exact q3.vars rfl (Nat.le_refl _) hT.2 rfl
      ·rename_i ho
       refine ⟨fun x hx => ?_,fun x y hx hy he => ?_,hT.2,?_,h.h6⟩
       ·rcases List.mem_append.1 hx with hx | hx
        ·exact q3.at_ x hx
        ·simp at hx;subst hx;exact i1
       ·have sh:=shape_ok ho
        rcases List.mem_append.1 hx with hx | hx
        ·rcases List.mem_append.1 hy with hy | hy
         ·exact h.sh x y hx hy he
         ·simp at hy;subst hy;exact sh x hx he
        ·simp at hx;subst hx
         rcases List.mem_append.1 hy with hy | hy
         ·exact (sh y hy he.symm).symm
         ·simp at hy;subst hy;rfl
       ·show (c.ats ++ [(raT s c).x]).length <= 4
        have:=h.n4
        simp;omega
     ·exact q3.vars rfl (Nat.le_refl _) hT.2 rfl
    ·exact q3
   ·exact h.vars rfl (Nat.le_refl _) h.v6 rfl
 ·exact h.vars rfl (Nat.le_refl _) h.v6 rfl
theorem la_in (s:ByteArray) (n:Nat) {c:CS} (hok:OkC s c.p) (h:QI c):QI (la s n c).2:=by
 induction n generalizing c with
 | zero => exact h
 | succ n ih =>
  obtain ⟨t1,t2,_⟩:=raR_ok hok h.v6
  have u:=raR_in hok h
  unfold la
  split
  ·split
   ·exact ih (c:={ (raR s c).2 with p:=tp s (raR s c).2.p 7 }) (t1.tp 7) (u.vars rfl (Nat.le_refl _) u.v6 rfl)
   ·exact u
  ·exact u
theorem rhC_in {s:ByteArray} {c:CS} (h:QI c):QI (rhC s c):=by
 unfold rhC
 split
 ·split
  ·exact h.vars rfl (Nat.le_refl _) h.v6 rfl
  ·split
   ·exact h.vars rfl (Nat.le_refl _) h.v6 rfl
   ·rename_i hn
    refine ⟨h.at_,h.sh,h.v6,h.n4,?_⟩
    have:=h.h6
    show (c.hd ++ [c.p]).length <= 6
    simp;omega
 ·exact h.vars rfl (Nat.le_refl _) h.v6 rfl
theorem lh_in (s:ByteArray) (n:Nat) {c:CS} (h:QI c):QI (lh s n c).2:=by
 induction n generalizing c with
 | zero => exact h
 | succ n ih =>
  have u:=rhC_in (s:=s) h
  unfold lh
  split
  ·split
   ·exact ih (c:={ rhC s c with p:=tp s (rhC s c).p 7 }) (u.vars rfl (Nat.le_refl _) u.v6 rfl)
   ·exact u
  ·exact u
theorem QI.cw {s:ByteArray} {c:CS} (h:QI c) (k:Nat):QI (cw s c k):=h.vars rfl (Nat.le_refl _) h.v6 rfl
theorem rdH_in {s:ByteArray} {c:CS} (h:QI c):QI (rdH s c).2:=by
 have hL:=lh_in s (7 - c.hd.length) (h.cw (s:=s) 5)
 unfold rdH
 split
 ·split
  ·exact h.vars rfl (Nat.le_refl _) h.v6 rfl
  ·split
   ·exact hL.cw 6
   ·exact hL
 ·exact h.cw 5
theorem rq_in (s:ByteArray):QI (rq s (c0 s)).2:=by
 have h0:QI (c0 s):=⟨fun x hx => absurd hx (List.not_mem_nil),fun x y hx => absurd hx (List.not_mem_nil),Nat.zero_le _,Nat.zero_le _,Nat.zero_le _⟩
 have hok:OkC s (c0 s).p:=OkC.piece s 0 (Nat.zero_le _)
 obtain ⟨_,_,e3⟩:=rdH_keep s (c0 s) hok
 have hA:QI (rdH s (c0 s)).2:=rdH_in h0
 have hB:=la_in s (5 - (c0 s).ats.length) (c:=Go.Proofs.YtondkinefmjpjaaGreat.K.cw s (rdH s (c0 s)).2 8) (e3.tp 8) (hA.cw 8)
 unfold rq
 split
 ·split
  ·split
   ·split
    ·exact (hB.cw 9).cw 1
    ·exact hB.cw 9
   ·exact hB
  ·exact hA.cw 8
 ·exact hA
def msk (x:CA):Nat:=x.set.toNat
theorem AtI.msk {nv:Nat} {x:CA} (h:AtI nv x) (h6:nv <= 6):x.set = ((msk x:Nat):Int) /\ Go.Proofs.YtondkinefmjpjaaGreat.K.msk x < 64 /\ ∀ v,v < 8 -> (Go.Proofs.YtondkinefmjpjaaGreat.K.msk x).testBit v = hvT x.tm v:=by
 obtain ⟨m,e,h8,hb⟩:=h.set
 have em:Go.Proofs.YtondkinefmjpjaaGreat.K.msk x = m:=by unfold Go.Proofs.YtondkinefmjpjaaGreat.K.msk;rw [e];rfl
 rw [em]
 refine ⟨e,?_,hb⟩
 have hz:∀ v,6 <= v -> m.testBit v = false:=by
  intro v hv
  by_cases hv8:v < 8
  ·rw [hb v hv8]
   unfold hvT
   rw [List.any_eq_false]
   intro t ht hc
   rw [Bool.and_eq_true] at hc
   have:=(h.tm t ht).1 hc.1
   have:=beq_iff_eq.1 hc.2
   omega
  ·exact Nat.testBit_lt_two_pow (Nat.lt_of_lt_of_le h8 (Nat.pow_le_pow_right (n:=2) (by decide) (show 8 <= v by omega)))
 exact Nat.lt_pow_two_of_testBit (n:=6) m (fun v hv => hz v hv)
theorem gon_pr {sets:List Int} {left:List Nat} {i:Nat} (h:gon sets left = some i):kp sets left i ∈ left /\ prB sets left i (kp sets left i) = true:=by
 have hg:gnB sets left i = true:=by
  have:=List.find?_some h;exact this
 unfold gnB at hg
 rw [List.any_eq_true] at hg
 obtain ⟨j,hj,hp⟩:=hg
 unfold kp
 cases hf:left.find? (fun j => prB sets left i j) with
 | none => rw [List.find?_eq_none] at hf;exact absurd hp (by simpa using hf j hj)
 | some k => exact ⟨List.mem_of_find?_eq_some hf,List.find?_some hf⟩
theorem meL_ears (ms:List Nat) (sets:List Int) (N:Nat) (hS:∀ j,j < N -> SR (sets.getD j 0) (fun v => (ms.getD j 0).testBit v)) (n:Nat):∀ left:List Nat,left.length = n + 1 -> left.Nodup -> (∀ j,j ∈ left -> j < N) -> mtI n sets left = true -> Ears ms left (meL n sets left):=by
 induction n with
 | zero => intro left h _ _ _;simp only [meL,Ears];omega
 | succ n ih =>
  intro left hl hd hin hm
  simp only [mtI] at hm
  simp only [meL]
  cases hg:gon sets left with
  | none => rw [hg] at hm;cases hm
  | some i =>
   rw [hg] at hm
   simp only at hm ⊢
   have hi:=gon_mem hg
   obtain ⟨k1,k2⟩:=gon_pr hg
   have hSl:∀ j,j ∈ left -> SR (sets.getD j 0) (fun v => (ms.getD j 0).testBit v):=fun j hj => hS j (hin j hj)
   unfold prB shV at k2
   rw [Bool.and_eq_true,(((hSl i hi).and (orK_SR sets (fun j v => (ms.getD j 0).testBit v) i left hSl)).andNot (hSl _ k1)).isZero,List.all_eq_true] at k2
   refine ⟨hi,k1,by simpa using k2.1,fun v hv h1 ⟨j,hj1,hj2,hj3⟩ => ?_,ih _ (by rw [filter_len hd hi];omega) (hd.filter _) (fun j hj => hin j (List.mem_filter.1 hj).1) hm⟩
   have:=k2.2 v (List.mem_range.2 (by omega))
   have ha:(left.any fun j => !(j == i) && (ms.getD j 0).testBit v) = true:=List.any_eq_true.2 ⟨j,hj1,by rw [Bool.and_eq_true];exact ⟨by simpa using hj2,hj3⟩⟩
   simp only [h1,ha] at this
   simpa using this
end Go.Proofs.YtondkinefmjpjaaGreat.K
namespace Go.Proofs.YtondkinefmjpjaaGreat
open Go.RowKit
def r0:RelD:=(ByteArray.empty,0,[])
def relD (rels:List RelD) (r:Nat):RelD:=rels.getD r r0
theorem relD_set (R:List RelD) (j r:Nat) (v:RelD) (hr:r < R.length):relD (R.set j v) r = if r = j then v else relD R r:=by
 unfold relD
 rw [List.getD_eq_getElem?_getD,List.getD_eq_getElem?_getD,List.getElem?_set]
 by_cases e:j = r
 ·subst e;simp [hr]
 ·rw [if_neg e,if_neg (fun h => e h.symm)]
theorem relD_app (R:List RelD) (v:RelD) (r:Nat):relD (R ++ [v]) r = if r < R.length then relD R r else if r = R.length then v else r0:=by
 unfold relD
 rw [List.getD_eq_getElem?_getD,List.getD_eq_getElem?_getD]
 by_cases h:r < R.length
 ·rw [List.getElem?_append_left h,if_pos h]
 ·rw [if_neg h,List.getElem?_append_right (by omega)]
  by_cases e:r = R.length
  ·subst e;simp
  ·rw [if_neg e,List.getElem?_eq_none (by simp;omega)];rfl
def baseR (rels:List RelD) (rel:ByteArray) (n:Nat):List RelD:=if 0 <= rixOf rels rel then rels else rels ++ [(rel,n,[])]
def atR (rels:List RelD) (rel:ByteArray):Nat:=if 0 <= rixOf rels rel then (rixOf rels rel).toNat else rels.length
def putR (R:List RelD) (j i:Nat):List RelD:=R.set j ((relD R j).1,(relD R j).2.1,(relD R j).2.2 ++ [i])
def addR (rels:List RelD) (rel:ByteArray) (n i:Nat):List RelD:=putR (baseR rels rel n) (atR rels rel) i
theorem rix_yes {rels:List RelD} {rel:ByteArray} (h:0 <= rixOf rels rel):(rixOf rels rel).toNat < rels.length /\ (relD rels (rixOf rels rel).toNat).1.toList = rel.toList:=by
 unfold rixOf at h ⊢
 split at h
 ·rename_i hx
  rw [if_pos hx]
  refine ⟨by simpa using hx,?_⟩
  have:=List.findIdx_getElem (w:=hx)
  unfold relD
  rw [List.getD_eq_getElem?_getD,Int.toNat_natCast,List.getElem?_eq_getElem hx]
  simpa using this
 ·omega
theorem rix_no {rels:List RelD} {rel:ByteArray} (h:¬ 0 <= rixOf rels rel):∀ r,r < rels.length -> (relD rels r).1.toList ≠ rel.toList:=by
 intro r hr he
 unfold rixOf at h
 split at h
 ·omega
 ·rename_i hx
  have hl:rels.findIdx (fun p => p.1.toList == rel.toList) = rels.length:=by have:=List.findIdx_le_length (xs:=rels) (p:=fun p => p.1.toList == rel.toList);omega
  have hf:=List.findIdx_eq_length.1 hl rels[r] (List.getElem_mem hr)
  unfold relD at he
  rw [List.getD_eq_getElem?_getD,List.getElem?_eq_getElem hr] at he
  simp at he hf
  exact hf he
theorem relcells_map (rels:List RelD) (rvs:List Value):relcells rels rvs = ((rels.map fun q => (q.1,q.2.1)).zip rvs).flatMap fun p => [.string p.1.1,.int .i64 p.1.2,p.2]:=by
 induction rels generalizing rvs with
 | nil => rfl
 | cons q rels ih =>
  cases rvs with
  | nil => rfl
  | cons v rvs => simp only [relcells,List.zip_cons_cons,List.flatMap_cons,List.map_cons] at ih ⊢;rw [ih]
theorem relcells_put (R:List RelD) (j i:Nat) (rvs:List Value) (hj:j < R.length):relcells (putR R j i) rvs = relcells R rvs:=by
 rw [relcells_map,relcells_map]
 have:(putR R j i).map (fun q => (q.1,q.2.1)) = R.map fun q => (q.1,q.2.1):=by
  unfold putR
  rw [List.map_set]
  apply List.ext_getElem (by simp)
  intro k h1 h2
  rw [List.getElem_set]
  split
  ·rename_i e
   subst e
   unfold relD
   rw [List.getD_eq_getElem?_getD,List.getElem?_eq_getElem hj]
   simp
  ·rfl
 rw [this]
theorem relcells_snoc (R:List RelD) (q:RelD) (rvs:List Value) (v:Value) (h:rvs.length = R.length):relcells (R ++ [q]) (rvs ++ [v]) = relcells R rvs ++ [.string q.1,.int .i64 q.2.1,v]:=by
 unfold relcells;rw [List.zip_append h.symm];simp
theorem relcells_set (R:List RelD) (rvs:List Value) (h:rvs.length = R.length) (j:Nat) (hj:j < R.length) (u:Value):(relcells R rvs).set (j * 3 + 2) u = relcells R (rvs.set j u):=by
 induction R generalizing rvs j with
 | nil => simp at hj
 | cons q R ih =>
  cases rvs with
  | nil => simp at h
  | cons v rvs =>
   have e:∀ (v:Value) (rvs:List Value),relcells (q :: R) (v :: rvs) = .string q.1 :: .int .i64 q.2.1 :: v :: relcells R rvs:=fun v rvs => by simp [relcells]
   cases j with
   | zero => rw [e,List.set_cons_zero,e];rfl
   | succ j =>
    rw [e,show (v :: rvs).set (j + 1) u = v :: rvs.set j u from rfl,e,show (j + 1) * 3 + 2 = (j * 3 + 2) + 1 + 1 + 1 by omega,List.set_cons_succ,List.set_cons_succ,List.set_cons_succ,ih rvs (by simpa using h) j (by simpa using hj)]
structure PRl (w:World) (base:Nat) (rv:Value) (rels:List RelD) (rvs:List Value) (own:Nat -> Option Nat):Prop where
 row:w.ownsRow base 106 3 rv rels.length (relcells rels rvs)
 len:rvs.length = rels.length
 ats:∀ r,r < rels.length -> w.ownsRow base 3 1 (rvs.getD r (.bool false)) (relD rels r).2.2.length (nats (relD rels r).2.2)
 ow:∀ r,r < rels.length -> ∀ k,(rvs.getD r (.bool false)).ownBlock = some k -> own k = some r
 tg:∀ k r,own k = some r -> base <= k /\ ∃ c,w.heap[k]? = some (.cells c 3 (0,0))
structure Kp (P:Nat -> Prop) (w w':World):Prop where
 os:w'.os = w.os
 tape:w'.tape = w.tape
 output:w'.output = w.output
 size:w.heap.size <= w'.heap.size
 block:∀ k,k < w.heap.size -> ¬ P k -> w'.heap[k]? = w.heap[k]?
theorem Kp.of_below {P:Nat -> Prop} {w w':World} (h:Below w.heap.size w w'):Kp P w w':=⟨h.os,h.tape,h.output,h.size,fun k hk _ => h.block k hk⟩
theorem Kp.trans {P Q:Nat -> Prop} {w w1 w2:World} (h:Kp P w w1) (h':Kp Q w1 w2) (hq:∀ k,k < w.heap.size -> Q k -> P k):Kp P w w2 :=
 ⟨h'.os.trans h.os,h'.tape.trans h.tape,h'.output.trans h.output,Nat.le_trans h.size h'.size,fun k hk hn => (h'.block k (Nat.lt_of_lt_of_le hk h.size) (fun q => hn (hq k hk q))).trans (h.block k hk hn)⟩
theorem Kp.mono {P Q:Nat -> Prop} {w w':World} (h:Kp P w w') (hq:∀ k,k < w.heap.size -> P k -> Q k):Kp Q w w':=⟨h.os,h.tape,h.output,h.size,fun k hk hn => h.block k hk (fun p => hn (hq k hk p))⟩
theorem Kp.grown {P:Nat -> Prop} {w w':World} {row:Option Nat} (h:w.grownBy w' row) (hp:∀ k,row = some k -> P k):Kp P w w':=⟨h.os,h.tape,h.output,h.size,fun k hk hn => h.block k hk (fun e => hn (hp k e.symm))⟩
theorem Kp.set {P:Nat -> Prop} (w:World) (a:Addr) (u:Value) (h:P a.block):Kp P w (w.setCell a u):=⟨rfl,rfl,rfl,by simp [World.setCell],fun k _ hn => Below.heap_setCell _ _ _ _ (fun e => hn (e ▸ h))⟩
theorem Kp.below {P:Nat -> Prop} {B:Nat} {w w':World} (h:Kp P w w') (hP:∀ k,P k -> B <= k) (hB:B <= w.heap.size):Below B w w':=⟨h.os,h.tape,h.output,h.size,fun k hk => h.block k (by omega) (fun p => by have:=hP k p;omega)⟩
theorem Kp.own {P:Nat -> Prop} {w w':World} {base e size n:Nat} {v:Value} {xs:List Value} (h:Kp P w w') (ho:w.ownsRow base e size v n xs) (hn:∀ k,v.ownBlock = some k -> ¬ P k):w'.ownsRow base e size v n xs:=by
 refine ⟨ho.1,?_⟩
 rcases ho.2 with hx | ⟨g,cap,cur,rfl,h1,h2,rest⟩
 ·exact .inl hx
 ·exact .inr ⟨g,cap,cur,rfl,h1,(h.block g (vlt_of_block h2) (hn g rfl)).trans h2,rest⟩
theorem own_cells {w:World} {base e size:Nat} {v:Value} {n:Nat} {xs:List Value} (h:w.ownsRow base e size v n xs) {k:Nat} (hk:v.ownBlock = some k):∃ c,w.heap[k]? = some (.cells c e (0,0)):=by
 rcases h.2 with ⟨rfl,_⟩ | ⟨g,cap,cur,rfl,_,h1,_⟩
 ·cases hk
 ·cases hk;exact ⟨_,h1⟩
theorem PRl.kp {P:Nat -> Prop} {w w':World} {base:Nat} {rv:Value} {rels:List RelD} {rvs:List Value} {own:Nat -> Option Nat} (h:PRl w base rv rels rvs own) (hk:Kp P w w') (h1:∀ k,rv.ownBlock = some k -> ¬ P k) (h2:∀ k r,own k = some r -> ¬ P k):PRl w' base rv rels rvs own :=
 ⟨hk.own h.row h1,h.len,fun r hr => hk.own (h.ats r hr) (fun k hk => h2 k r (h.ow r hr k hk)),h.ow,fun k r hr => by
  obtain ⟨c1,c,hc⟩:=h.tg k r hr
  exact ⟨c1,c,(hk.block k (vlt_of_block hc) (h2 k r hr)).trans hc⟩⟩
theorem PRl.more {w w1 w2:World} {base:Nat} {rv rv':Value} {rels:List RelD} {rvs:List Value} {own:Nat -> Option Nat} {rel:ByteArray} {n m:Nat} (h:PRl w base rv rels rvs own) (hk:Below w.heap.size w w1) (hg:w1.grownBy w2 rv.ownBlock) (ho:w2.ownsRow base 106 3 rv' m (relcells rels rvs ++ [.string rel,.int .i64 n,.slice none 0 0])) (hm:m = rels.length + 1) :
  PRl w2 base rv' (rels ++ [(rel,n,[])]) (rvs ++ [.slice none 0 0]) own:=by
 have hd:∀ r,r < rels.length -> (rvs ++ [Value.slice none 0 0]).getD r (.bool false) = rvs.getD r (.bool false):=fun r hr => by
  rw [List.getD_eq_getElem?_getD,List.getElem?_append_left (by rw [h.len];exact hr),List.getD_eq_getElem?_getD]
 have hd2:(rvs ++ [Value.slice none 0 0]).getD rels.length (.bool false) = .slice none 0 0:=by
  rw [List.getD_eq_getElem?_getD,List.getElem?_append_right (by rw [h.len];exact Nat.le_refl _),h.len];simp
 have hK:Kp (fun k => rv.ownBlock = some k) w w2:=(Kp.of_below hk).trans (Kp.grown hg (fun k hk => hk)) (fun _ _ q => q)
 have hne:∀ k r,own k = some r -> ¬ rv.ownBlock = some k:=fun k r hr e => by
  obtain ⟨_,c,hc⟩:=h.tg k r hr
  obtain ⟨c',hc'⟩:=own_cells h.row e
  rw [hc] at hc';simp at hc'
 refine ⟨?_,by simp [h.len],fun r hr => ?_,fun r hr k hk => ?_,fun k r hr => ?_⟩
 ·rw [relcells_snoc _ _ _ _ h.len,List.length_append,show rels.length + [(rel,n,([]:List Nat))].length = m by simp;omega];exact ho
 ·rw [relD_app]
  by_cases hl:r < rels.length
  ·rw [if_pos hl,hd r hl]
   exact hK.own (h.ats r hl) (fun k hk => hne k r (h.ow r hl k hk))
  ·have e:r = rels.length:=by simp at hr;omega
   rw [if_neg hl,if_pos e,e,hd2]
   exact World.ownsRow_nil _ _ _ _
 ·by_cases hl:r < rels.length
  ·rw [hd r hl] at hk;exact h.ow r hl k hk
  ·have e:r = rels.length:=by simp at hr;omega
   rw [e,hd2] at hk;cases hk
 ·obtain ⟨c1,c,hc⟩:=h.tg k r hr
  exact ⟨c1,c,(hK.block k (vlt_of_block hc) (hne k r hr)).trans hc⟩
def putN (own:Nat -> Option Nat) (c:Option Nat) (r:Nat):Nat -> Option Nat:=fun k => if c = some k then some r else if own k = some r then none else own k
theorem PRl.atom {w w1 w2:World} {base g cap:Nat} {rels:List RelD} {rvs:List Value} {own:Nat -> Option Nat} {v':Value} {j i n m:Nat} (h:PRl w base (.slice (some ⟨g,0,none⟩) n cap) rels rvs own) (hn:n = rels.length) (hj:j < rels.length) (hk:Below w.heap.size w w1) (hg:w1.grownBy w2 (rvs.getD j (.bool false)).ownBlock) (ho:w2.ownsRow base 3 1 v' m (nats (relD rels j).2.2 ++ [.int .i64 (i:Int)])) (hm:m = (relD rels j).2.2.length + 1) (hfresh:∀ k,v'.ownBlock = some k -> (rvs.getD j (.bool false)).ownBlock = some k ∨ w.heap.size <= k) :
  PRl (w2.setCell ⟨g,j * 3 + 2,none⟩ v') base (.slice (some ⟨g,0,none⟩) n cap) (putR rels j i) (rvs.set j v') (putN own v'.ownBlock j) /\ Kp (fun k => k = g ∨ own k ≠ none) w (w2.setCell ⟨g,j * 3 + 2,none⟩ v') /\ ∀ k,k < w.heap.size -> putN own v'.ownBlock j k ≠ none -> own k ≠ none:=by
 subst hn
 have hl:(putR rels j i).length = rels.length:=by unfold putR;simp
 have hD:∀ r,r < rels.length -> relD (putR rels j i) r = if r = j then ((relD rels j).1,(relD rels j).2.1,(relD rels j).2.2 ++ [i]) else relD rels r:=fun r hr => relD_set rels j r _ hr
 have hgg:(Value.slice (some ⟨g,0,none⟩) rels.length cap).ownBlock = some g:=rfl
 obtain ⟨cg,hcg⟩:=own_cells h.row hgg
 have hng:∀ k r,own k = some r -> k ≠ g:=fun k r hr e => by
  obtain ⟨_,c,hc⟩:=h.tg k r hr
  rw [e,hcg] at hc;simp at hc
 have hK:Kp (fun k => own k = some j) w w2:=(Kp.of_below hk).trans (Kp.grown hg (fun k hk => h.ow j hj k hk)) (fun _ _ q => q)
 have hK2:Kp (fun k => k = g) w2 (w2.setCell ⟨g,j * 3 + 2,none⟩ v'):=Kp.set _ _ _ rfl
 have row2:w2.ownsRow base 106 3 (.slice (some ⟨g,0,none⟩) rels.length cap) rels.length (relcells rels rvs):=hK.own h.row (fun k hk => by cases hk;exact fun e => hng g j e rfl)
 have hset:∀ r,r < rels.length -> (rvs.set j v').getD r (.bool false) = if r = j then v' else rvs.getD r (.bool false):=fun r hr => by
  rw [List.getD_eq_getElem?_getD,List.getElem?_set,List.getD_eq_getElem?_getD]
  by_cases e:j = r
  ·subst e;simp [h.len,hj]
  ·rw [if_neg e,if_neg (fun x => e x.symm)]
 have hv3:∀ k,v'.ownBlock = some k -> ∃ c,w2.heap[k]? = some (.cells c 3 (0,0)):=fun k hk => own_cells ho hk
 have hcg2:w2.heap[g]? = some (.cells cg 106 (0,0)):=(hK.block g (vlt_of_block hcg) (fun e => hng g j e rfl)).trans hcg
 have hvg:∀ k,v'.ownBlock = some k -> k ≠ g:=fun k hk e => by
  obtain ⟨c,hc⟩:=hv3 k hk
  rw [e,hcg2] at hc;simp at hc
 refine ⟨⟨?_,by rw [hl];simp [h.len],fun r hr => ?_,fun r hr k hk => ?_,fun k r hr => ?_⟩,?_,fun k hk hq => ?_⟩
 ·rw [hl,relcells_put _ _ _ _ hj,← relcells_set _ _ h.len _ hj]
  exact (row2.stored (j * 3 + 2) v').1
 ·rw [hl] at hr
  rw [hD r hr,hset r hr]
  by_cases e:r = j
  ·rw [if_pos e,if_pos e]
   have:nats ((relD rels j).2.2 ++ [i]) = nats (relD rels j).2.2 ++ [.int .i64 (i:Int)]:=by simp [nats]
   simp only
   rw [this,List.length_append,show (relD rels j).2.2.length + [i].length = m by simp;omega]
   exact hK2.own ho (fun k hk => hvg k hk)
  ·rw [if_neg e,if_neg e]
   refine hK2.own (hK.own (h.ats r hr) (fun k hk q => ?_)) (fun k hk => hng k r (h.ow r hr k hk))
   have:=h.ow r hr k hk
   rw [q] at this;exact e (Option.some.inj this).symm
 ·rw [hl] at hr
  rw [hset r hr] at hk
  unfold putN
  by_cases e:r = j
  ·rw [if_pos e] at hk;rw [if_pos hk,e]
  ·rw [if_neg e] at hk
   have hor:=h.ow r hr k hk
   rw [if_neg,if_neg,hor]
   ·rw [hor];exact fun q => e (Option.some.inj q)
   ·intro hv
    rcases hfresh k hv with q | q
    ·have:=h.ow j hj k q;rw [hor] at this;exact e (Option.some.inj this)
    ·have:=((h.ats r hr).lt k hk).2;omega
 ·unfold putN at hr
  split at hr
  ·rename_i hv
   obtain ⟨c,hc⟩:=hv3 k hv
   exact ⟨(ho.lt k hv).1,c,(hK2.block k (vlt_of_block hc) (hvg k hv)).trans hc⟩
  ·split at hr
   ·cases hr
   ·rename_i hnj
    obtain ⟨c1,c,hc⟩:=h.tg k r hr
    have e2:=(hK.block k (vlt_of_block hc) hnj).trans hc
    exact ⟨c1,c,(hK2.block k (vlt_of_block e2) (hng k r hr)).trans e2⟩
 ·refine hK.mono (fun k _ q => Or.inr (by rw [q];simp)) |>.trans (hK2.mono (fun k _ q => Or.inl q)) (fun k _ q => q)
 ·unfold putN at hq
  split at hq
  ·rename_i hv
   rcases hfresh k hv with q | q
   ·rw [h.ow j hj k q];simp
   ·omega
  ·split at hq
   ·exact absurd rfl hq
   ·exact hq
end Go.Proofs.YtondkinefmjpjaaGreat
namespace Go.Proofs.YtondkinefmjpjaaGreat.K
open Go.RowKit
structure RI (ats:List CA) (k:Nat) (rels:List RelD):Prop where
 len:rels.length <= k
 mem:∀ r,r < rels.length -> ∀ i,i ∈ (relD rels r).2.2 -> i < k /\ (ats.getD i (x0 ByteArray.empty)).rel.toList = (relD rels r).1.toList
 nod:∀ r,r < rels.length -> (relD rels r).2.2.Nodup
 hd:∀ r,r < rels.length -> ∃ i,i < k /\ (ats.getD i (x0 ByteArray.empty)).rel.toList = (relD rels r).1.toList /\ (ats.getD i (x0 ByteArray.empty)).n = (relD rels r).2.1
 all:∀ i,i < k -> ∃ r,r < rels.length /\ i ∈ (relD rels r).2.2
 nam:∀ r r',r < rels.length -> r' < rels.length -> (relD rels r).1.toList = (relD rels r').1.toList -> r = r'
theorem RI.step {ats:List CA} {k:Nat} {rels:List RelD} (h:RI ats k rels):RI ats (k + 1) (addR rels (ats.getD k (x0 ByteArray.empty)).rel (ats.getD k (x0 ByteArray.empty)).n k):=by
 obtain ⟨X,hX⟩:∃ X,ats.getD k (x0 ByteArray.empty) = X:=⟨_,rfl⟩
 rw [hX]
 have hB:(baseR rels X.rel X.n).length <= k + 1 /\ atR rels X.rel < (baseR rels X.rel X.n).length /\ rels.length <= (baseR rels X.rel X.n).length /\ (relD (baseR rels X.rel X.n) (atR rels X.rel)).1.toList = X.rel.toList /\
   (∀ r,r < (baseR rels X.rel X.n).length -> ∀ i,i ∈ (relD (baseR rels X.rel X.n) r).2.2 -> i < k /\ (ats.getD i (x0 ByteArray.empty)).rel.toList = (relD (baseR rels X.rel X.n) r).1.toList) /\
   (∀ r,r < (baseR rels X.rel X.n).length -> (relD (baseR rels X.rel X.n) r).2.2.Nodup) /\
   (∀ r,r < (baseR rels X.rel X.n).length -> ∃ i,i < k + 1 /\ (ats.getD i (x0 ByteArray.empty)).rel.toList = (relD (baseR rels X.rel X.n) r).1.toList /\ (ats.getD i (x0 ByteArray.empty)).n = (relD (baseR rels X.rel X.n) r).2.1) /\
   (∀ i,i < k -> ∃ r,r < (baseR rels X.rel X.n).length /\ i ∈ (relD (baseR rels X.rel X.n) r).2.2) /\
   (∀ r r',r < (baseR rels X.rel X.n).length -> r' < (baseR rels X.rel X.n).length -> (relD (baseR rels X.rel X.n) r).1.toList = (relD (baseR rels X.rel X.n) r').1.toList -> r = r'):=by
  unfold baseR atR
  by_cases hy:0 <= rixOf rels X.rel
  ·rw [if_pos hy,if_pos hy]
   obtain ⟨y1,y2⟩:=rix_yes hy
   exact ⟨by have:=h.len;omega,y1,Nat.le_refl _,y2,h.mem,h.nod,fun r hr => by obtain ⟨i,a,b⟩:=h.hd r hr;exact ⟨i,by omega,b⟩,h.all,h.nam⟩
  ·rw [if_neg hy,if_neg hy]
   have hn:=rix_no hy
   have hl:(rels ++ [(X.rel,X.n,([]:List Nat))]).length = rels.length + 1:=by simp
   rw [hl]
   have hlt:∀ r,r < rels.length -> relD (rels ++ [(X.rel,X.n,[])]) r = relD rels r:=fun r hr => by rw [relD_app,if_pos hr]
   have hat:relD (rels ++ [(X.rel,X.n,[])]) rels.length = (X.rel,X.n,[]):=by rw [relD_app,if_neg (by omega),if_pos rfl]
   have hcase:∀ r,r < rels.length + 1 -> r < rels.length ∨ r = rels.length:=fun r hr => by omega
   refine ⟨by have:=h.len;omega,by omega,by omega,by rw [hat],fun r hr => ?_,fun r hr => ?_,fun r hr => ?_,fun i hi => ?_,fun r r' hr hr' => ?_⟩
   ·rcases hcase r hr with e | e
    ·rw [hlt r e];exact h.mem r e
    ·rw [e,hat];intro i hi;cases hi
   ·rcases hcase r hr with e | e
    ·rw [hlt r e];exact h.nod r e
    ·rw [e,hat];exact List.nodup_nil
   ·rcases hcase r hr with e | e
    ·rw [hlt r e];obtain ⟨i,a,b⟩:=h.hd r e;exact ⟨i,by omega,b⟩
    ·rw [e,hat];exact ⟨k,by omega,by rw [hX],by rw [hX]⟩
   ·obtain ⟨r,a,b⟩:=h.all i hi
    exact ⟨r,by omega,by rw [hlt r a];exact b⟩
   ·rcases hcase r hr with e | e
    ·rcases hcase r' hr' with e' | e'
     ·rw [hlt r e,hlt r' e'];exact h.nam r r' e e'
     ·rw [hlt r e,e',hat];intro q;exact absurd q (hn r e)
    ·rcases hcase r' hr' with e' | e'
     ·rw [hlt r' e',e,hat];intro q;exact absurd q.symm (hn r' e')
     ·intro _;omega
 obtain ⟨R,hR⟩:∃ R,baseR rels X.rel X.n = R:=⟨_,rfl⟩
 obtain ⟨j,hj⟩:∃ j,atR rels X.rel = j:=⟨_,rfl⟩
 unfold addR
 rw [hR,hj] at hB ⊢
 obtain ⟨b1,b2,b3,b4,b5,b6,b7,b8,b9⟩:=hB
 have hl:(putR R j k).length = R.length:=by unfold putR;simp
 have hD:∀ r,r < R.length -> relD (putR R j k) r = if r = j then ((relD R j).1,(relD R j).2.1,(relD R j).2.2 ++ [k]) else relD R r:=fun r hr => relD_set R j r _ hr
 have hD1:∀ r,r < R.length -> (relD (putR R j k) r).1 = (relD R r).1 /\ (relD (putR R j k) r).2.1 = (relD R r).2.1:=fun r hr => by
  rw [hD r hr];split
  ·rename_i e;rw [e];exact ⟨rfl,rfl⟩
  ·exact ⟨rfl,rfl⟩
 refine ⟨by rw [hl];exact b1,fun r hr i hi => ?_,fun r hr => ?_,fun r hr => ?_,fun i hi => ?_,fun r r' hr hr' => ?_⟩
 ·rw [hl] at hr
  rw [(hD1 r hr).1]
  rw [hD r hr] at hi
  split at hi
  ·rename_i e
   subst e
   rcases List.mem_append.1 hi with hi | hi
   ·have:=b5 r hr i hi;exact ⟨by omega,this.2⟩
   ·simp at hi;subst hi;rw [hX];exact ⟨by omega,b4.symm⟩
  ·have:=b5 r hr i hi;exact ⟨by omega,this.2⟩
 ·rw [hl] at hr
  rw [hD r hr]
  split
  ·rename_i e
   subst e
   refine List.nodup_append.2 ⟨b6 r hr,by simp,fun a ha b hb => ?_⟩
   simp at hb
   have:=(b5 r hr a ha).1
   omega
  ·exact b6 r hr
 ·rw [hl] at hr
  rw [(hD1 r hr).1,(hD1 r hr).2]
  exact b7 r hr
 ·rw [hl]
  by_cases e:i = k
  ·exact ⟨j,b2,by rw [hD j b2,if_pos rfl,e];simp⟩
  ·obtain ⟨r,a,b⟩:=b8 i (by omega)
   refine ⟨r,a,?_⟩
   rw [hD r a]
   split
   ·rename_i e2;subst e2;exact List.mem_append_left _ b
   ·exact b
 ·rw [hl] at hr hr'
  rw [(hD1 r hr).1,(hD1 r' hr').1]
  exact b9 r r' hr hr'
def relsK (ats:List CA):Nat -> List RelD
 | 0 => []
 | k + 1 => addR (relsK ats k) (ats.getD k (x0 ByteArray.empty)).rel (ats.getD k (x0 ByteArray.empty)).n k
theorem relsK_in (ats:List CA) (k:Nat):RI ats k (relsK ats k):=by
 induction k with
 | zero => exact ⟨Nat.le_refl _,fun r hr => absurd hr (Nat.not_lt_zero _),fun r hr => absurd hr (Nat.not_lt_zero _),fun r hr => absurd hr (Nat.not_lt_zero _),fun i hi => absurd hi (Nat.not_lt_zero _),fun r _ hr => absurd hr (Nat.not_lt_zero _)⟩
 | succ k ih => exact ih.step
def hdN (c:CS):List Nat:=c.hd.map fun p => (ixOf c.vars p.t).toNat
def orN (l:List Nat):Nat:=l.foldl (fun a n => a ||| 2 ^ n) 0
def planOf (c:CS):PlanD:=⟨hdN c,orN (hdN c),relsK c.ats c.ats.length,c.ats.map CA.tm,c.ats.map msk,edg c⟩
theorem orN_lt (l:List Nat) (h:∀ n,n ∈ l -> n < 6):orN l < 64:=by
 unfold orN
 suffices hh:∀ (l:List Nat) (a:Nat),a < 64 -> (∀ n,n ∈ l -> n < 6) -> l.foldl (fun a n => a ||| 2 ^ n) a < 64 from hh l 0 (by decide) h
 intro l
 induction l with
 | nil => intro a ha _;exact ha
 | cons n l ih =>
  intro a ha hn
  refine ih _ ?_ (fun m hm => hn m (by simp [hm]))
  have h6:=hn n (by simp)
  exact Nat.or_lt_two_pow (n:=6) ha (Nat.pow_lt_pow_right (by decide) h6)
theorem pG_parts {s:ByteArray} (h:pG s = true):(rq s (c0 s)).1 = true /\ (∀ p,p ∈ (rq s (c0 s)).2.hd -> 0 <= ixOf (rq s (c0 s)).2.vars p.t) /\ mtI ((rq s (c0 s)).2.ats.length - 1) ((rq s (c0 s)).2.ats.map CA.set) (List.range (rq s (c0 s)).2.ats.length) = true:=by
 unfold pG at h
 rw [Bool.and_eq_true,Bool.and_eq_true] at h
 have h2:=of_decide_eq_true h.2
 refine ⟨h.1.2,?_⟩
 unfold wfE at h2
 split at h2
 ·omega
 ·rename_i hf
  refine ⟨fun p hp => ?_,?_⟩
  ·have:=List.find?_eq_none.1 hf p hp
   simpa using this
  ·split at h2
   ·assumption
   ·omega
theorem plan_ok {s:ByteArray} (h:pG s = true):PlanOk (planOf (rq s (c0 s)).2) /\ RelOk (planOf (rq s (c0 s)).2):=by
 obtain ⟨p1,p2,p3⟩:=pG_parts h
 have hQ:=rq_in s
 have hn1:=(rq_bounds s).2.2.2 p1
 obtain ⟨c,hc⟩:∃ c,(rq s (c0 s)).2 = c:=⟨_,rfl⟩
 rw [hc] at p2 p3 hQ hn1 ⊢
 clear hc p1
 have hM:∀ i,i < c.ats.length -> ((planOf c).ms.getD i 0 = msk (c.ats.getD i (x0 ByteArray.empty)) /\ (planOf c).pat i = (c.ats.getD i (x0 ByteArray.empty)).tm /\ AtI c.vars.length (c.ats.getD i (x0 ByteArray.empty))):=by
  intro i hi
  have hg:c.ats.getD i (x0 ByteArray.empty) = c.ats[i]:=by rw [List.getD_eq_getElem?_getD,List.getElem?_eq_getElem hi];rfl
  rw [hg]
  refine ⟨?_,?_,hQ.at_ _ (List.getElem_mem hi)⟩
  ·show (c.ats.map msk).getD i 0 = _
   rw [List.getD_eq_getElem?_getD,List.getElem?_map,List.getElem?_eq_getElem hi];rfl
  ·show (c.ats.map CA.tm).getD i [] = _
   rw [List.getD_eq_getElem?_getD,List.getElem?_map,List.getElem?_eq_getElem hi];rfl
 have hI:=relsK_in c.ats c.ats.length
 have hl:(planOf c).ms.length = c.ats.length:=by show (c.ats.map msk).length = _;simp
 have hrel:∀ r,(planOf c).rel r = relD (relsK c.ats c.ats.length) r:=fun r => rfl
 have hrl:(planOf c).rels = relsK c.ats c.ats.length:=rfl
 have hin:∀ i,i < c.ats.length -> c.ats.getD i (x0 ByteArray.empty) ∈ c.ats:=fun i hi => by
  rw [List.getD_eq_getElem?_getD,List.getElem?_eq_getElem hi];exact List.getElem_mem hi
 have hmem:∀ r i,r < (relsK c.ats c.ats.length).length -> i ∈ (relD (relsK c.ats c.ats.length) r).2.2 -> i < c.ats.length /\ ((planOf c).pat i).length = (relD (relsK c.ats c.ats.length) r).2.1:=by
  intro r i hr hi
  obtain ⟨m1,m2⟩:=hI.mem r hr i hi
  obtain ⟨i',d1,d2,d3⟩:=hI.hd r hr
  refine ⟨m1,?_⟩
  rw [(hM i m1).2.1,(hM i m1).2.2.len,← d3]
  exact hQ.sh _ _ (hin i m1) (hin i' d1) (m2.trans d2.symm)
 have hdl:∀ n,n ∈ hdN c -> n < 6:=by
  intro n hn
  obtain ⟨p,hp,rfl⟩:=List.mem_map.1 hn
  have:=(ixOf_lt (p2 p hp)).1
  have:=hQ.v6
  omega
 refine ⟨⟨by rw [hl];exact hn1,by rw [hl];exact hQ.n4,?_,?_,?_,?_,hdl,orN_lt _ hdl,?_,?_,?_,?_,?_⟩,?_,?_⟩
 ·show (c.ats.map CA.tm).length = (c.ats.map msk).length;simp
 ·intro m hm
  obtain ⟨x,hx,rfl⟩:=List.mem_map.1 hm
  exact ((hQ.at_ x hx).msk hQ.v6).2.1
 ·rw [hl]
  show Ears (c.ats.map msk) (List.range c.ats.length) (meL (c.ats.length - 1) (c.ats.map CA.set) (List.range c.ats.length))
  refine meL_ears _ _ c.ats.length (fun j hj => ?_) _ _ (by rw [List.length_range];omega) List.nodup_range (fun j hj => List.mem_range.1 hj) p3
  have hA:=(hQ.at_ _ (List.getElem_mem hj)).msk hQ.v6
  have e1:(c.ats.map CA.set).getD j 0 = ((msk c.ats[j]:Nat):Int):=by
   rw [List.getD_eq_getElem?_getD,List.getElem?_map,List.getElem?_eq_getElem hj];exact hA.1
  have e2:(c.ats.map msk).getD j 0 = msk c.ats[j]:=by
   rw [List.getD_eq_getElem?_getD,List.getElem?_map,List.getElem?_eq_getElem hj];rfl
  rw [e1,e2]
  exact ⟨_,rfl,by have:=hA.2.1;omega,fun v _ => rfl⟩
 ·show (hdN c).length <= 6
  unfold hdN;rw [List.length_map];exact hQ.h6
 ·show (relsK c.ats c.ats.length).length <= 4
  have:=hI.len;have:=hQ.n4;omega
 ·intro r hr
  exact ⟨hI.nod r hr,fun i hi => by rw [hl];exact hmem r i hr hi⟩
 ·intro i hi
  rw [hl] at hi
  rw [(hM i hi).2.1,(hM i hi).2.2.len];exact (hM i hi).2.2.n3
 ·intro i hi t ht
  rw [hl] at hi
  rw [(hM i hi).2.1] at ht
  have:=(hM i hi).2.2.tm t ht
  exact ⟨fun e => ⟨this.2.1,by have:=this.1 e;have:=hQ.v6;omega⟩,this.2⟩
 ·intro i hi j hj
  rw [hl] at hi
  rw [(hM i hi).1,(hM i hi).2.1]
  exact ((hM i hi).2.2.msk hQ.v6).2.2 j (by omega)
 ·intro i hi
  rw [hl] at hi
  obtain ⟨r,a,b⟩:=hI.all i hi
  unfold PlanD.relOf
  rw [hrl]
  refine List.findIdx_lt_length.2 ⟨(relsK c.ats c.ats.length)[r],List.getElem_mem a,?_⟩
  unfold relD at b
  rw [List.getD_eq_getElem?_getD,List.getElem?_eq_getElem a] at b
  exact decide_eq_true b
 ·intro r hr i hi
  rw [hl] at hi
  rw [hrl] at hr
  rw [hrel]
  have hdis:∀ r r',r < (relsK c.ats c.ats.length).length -> r' < (relsK c.ats c.ats.length).length -> i ∈ (relD (relsK c.ats c.ats.length) r).2.2 -> i ∈ (relD (relsK c.ats c.ats.length) r').2.2 -> r = r':=fun r r' hr hr' h1 h2 => hI.nam r r' hr hr' ((hI.mem r hr i h1).2.symm.trans (hI.mem r' hr' i h2).2)
  obtain ⟨r',a,b⟩:=hI.all i hi
  have hf:(relsK c.ats c.ats.length).findIdx (fun q => decide (i ∈ q.2.2)) = r':=by
   rw [List.findIdx_eq a]
   have hb:i ∈ ((relsK c.ats c.ats.length)[r']).2.2:=by
    unfold relD at b;rw [List.getD_eq_getElem?_getD,List.getElem?_eq_getElem a] at b;exact b
   refine ⟨decide_eq_true hb,fun j hj => ?_⟩
   rw [decide_eq_false_iff_not]
   intro hm
   have hjl:j < (relsK c.ats c.ats.length).length:=by omega
   have:i ∈ (relD (relsK c.ats c.ats.length) j).2.2:=by
    unfold relD;rw [List.getD_eq_getElem?_getD,List.getElem?_eq_getElem hjl];exact hm
   have:=hdis j r' hjl a this b
   omega
  have hro:(planOf c).relOf i = r':=hf
  rw [hro]
  exact ⟨fun h => hdis r r' hr a h b,fun e => by rw [e];exact b⟩
def RelB (s:ByteArray) (c:CS):Prop:=∀ x,x ∈ c.ats -> x.rel.size <= s.size
theorem raR_rel {s:ByteArray} {c:CS} (hok:OkC s c.p) (hq:QI c) (h:RelB s c):RelB s (raR s c).2:=by
 have h3:OkC s (ra3 s c).p:=hok.next
 have h5:OkC s (cw s (ra3 s c) 5).p:=h3.tp 5
 obtain ⟨_,_,i3⟩:=ltR_in (e:=(cw s (ra3 s c) 5).e) (a:=(cw s (ra3 s c) 5).a) s 4 h5 hq.v6 (AtI.zero _ c.p.t)
 have hr:(raT s c).x.rel = c.p.t:=i3
 unfold raR
 split
 ·split
  ·exact h
  ·split
   ·split
    ·split
     ·split
      ·exact h
      ·intro x hx
       rcases List.mem_append.1 hx with hx | hx
       ·exact h x hx
       ·simp at hx;subst hx
        rw [hr]
        have:=hok.1
        omega
     ·exact h
    ·exact h
   ·exact h
 ·exact h
theorem la_rel (s:ByteArray) (n:Nat) {c:CS} (hok:OkC s c.p) (hq:QI c) (h:RelB s c):RelB s (la s n c).2:=by
 induction n generalizing c with
 | zero => exact h
 | succ n ih =>
  obtain ⟨t1,t2,_⟩:=raR_ok hok hq.v6
  have u:=raR_in hok hq
  have v:=raR_rel hok hq h
  unfold la
  split
  ·split
   ·exact ih (c:={ (raR s c).2 with p:=tp s (raR s c).2.p 7 }) (t1.tp 7) (u.vars rfl (Nat.le_refl _) u.v6 rfl) v
   ·exact v
  ·exact v
theorem rq_rel (s:ByteArray):RelB s (rq s (c0 s)).2:=by
 have h0:QI (c0 s):=⟨fun x hx => absurd hx (List.not_mem_nil),fun x y hx => absurd hx (List.not_mem_nil),Nat.zero_le _,Nat.zero_le _,Nat.zero_le _⟩
 have hok:OkC s (c0 s).p:=OkC.piece s 0 (Nat.zero_le _)
 obtain ⟨_,e2,e3⟩:=rdH_keep s (c0 s) hok
 have hA:QI (rdH s (c0 s)).2:=rdH_in h0
 have hN:RelB s (rdH s (c0 s)).2:=by intro x hx;rw [e2] at hx;cases hx
 have hB:=la_rel s (5 - (c0 s).ats.length) (c:=Go.Proofs.YtondkinefmjpjaaGreat.K.cw s (rdH s (c0 s)).2 8) (e3.tp 8) (hA.cw 8) hN
 unfold rq
 split
 ·split
  ·split
   ·split
    ·exact hB
    ·exact hB
   ·exact hB
  ·exact hN
 ·exact hN
theorem plan_terms (s:ByteArray):∀ r,r < (planOf (rq s (c0 s)).2).rels.length -> ((planOf (rq s (c0 s)).2).rel r).2.1 <= 3:=by
 intro r hr
 have hQ:=rq_in s
 obtain ⟨i,h1,_,h3⟩:=(relsK_in (rq s (c0 s)).2.ats (rq s (c0 s)).2.ats.length).hd r hr
 have hg:(rq s (c0 s)).2.ats.getD i (x0 ByteArray.empty) ∈ (rq s (c0 s)).2.ats:=by
  rw [List.getD_eq_getElem?_getD,List.getElem?_eq_getElem h1];exact List.getElem_mem h1
 have:=(hQ.at_ _ hg).n3
 rw [h3] at this
 exact this
theorem pE_G {s:ByteArray} (h:pE s = 0):pG s = true:=by
 unfold pE at h
 split at h
 ·omega
 ·rename_i h2
  split at h
  ·rename_i h1
   unfold pG
   rw [h1,h]
   simp [h2]
  ·rename_i h1
   have:=((query_all s).2 (by simpa using h1)).ne
   exact absurd h this
theorem pG_E {s:ByteArray} (h:pG s = true):pE s = 0 /\ pA s = 0:=by
 unfold pG at h
 rw [Bool.and_eq_true,Bool.and_eq_true] at h
 have h1:=h.1.2
 have h2:=of_decide_eq_true h.2
 have h3:¬ 200 < s.size:=by simpa using h.1.1
 unfold pE pA
 rw [if_neg h3,if_neg h3,h1,if_pos rfl,if_pos rfl]
 refine ⟨h2,?_⟩
 unfold wfE at h2
 unfold wfA
 split at h2
 ·omega
 ·rfl
end Go.Proofs.YtondkinefmjpjaaGreat.K
