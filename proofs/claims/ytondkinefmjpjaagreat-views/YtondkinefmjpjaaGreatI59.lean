import Derived.Test.YtondkinefmjpjaaGreatI06
import Derived.Test.YtondkinefmjpjaaGreatI21
import Derived.Test.YtondkinefmjpjaaGreatI22
import Derived.Test.YtondkinefmjpjaaGreatI24
import Derived.Test.YtondkinefmjpjaaGreatI30
import Derived.Test.YtondkinefmjpjaaGreatI32
import Derived.Test.YtondkinefmjpjaaGreatI50
import Derived.Test.YtondkinefmjpjaaGreatI54
set_option maxHeartbeats 16000000
set_option maxRecDepth 100000
namespace Go.Proofs.YtondkinefmjpjaaGreat
def fitP:List (Bool × Int) -> List Int -> List Int -> Option (List Int)
 | [],_,o => some o
 | t :: p,xs,o =>
  if t.1 = true then
   if o.getD t.2.toNat 0 < 0 then fitP p xs.tail (o.set t.2.toNat (xs.getD 0 0))
   else if o.getD t.2.toNat 0 = xs.getD 0 0 then fitP p xs.tail o else none
  else if t.2 = xs.getD 0 0 then fitP p xs.tail o else none
def OV (nv:Nat) (o:List Int) (V:Nat) (y:List Int):Prop:=o.length = nv /\ ∀ j,j < nv -> o.getD j 0 = if V.testBit j = true then y.getD j 0 else -1
def Sat:List (Bool × Int) -> List Int -> List Int -> Prop
 | [],_,_ => True
 | t :: p,xs,y => (if t.1 = true then y.getD t.2.toNat 0 else t.2) = xs.getD 0 0 /\ Sat p xs.tail y
def bitP:List (Bool × Int) -> Nat -> Nat
 | [],V => V
 | t :: p,V => bitP p (if t.1 = true then V ||| 2 ^ t.2.toNat else V)
theorem getD_put (l:List Int) (n j:Nat) (v:Int):(l.set n v).getD j 0 = if n = j /\ n < l.length then v else l.getD j 0:=by
 simp only [List.getD_eq_getElem?_getD,List.getElem?_set]
 by_cases e:n = j
 ·subst e
  by_cases h:n < l.length
  ·simp [h]
  ·simp [h]
 ·simp [e]
theorem bit_one (V v j:Nat):(V ||| 2 ^ v).testBit j = (V.testBit j || decide (v = j)):=by
 rw [Nat.testBit_or,Nat.testBit_two_pow]
theorem bx_nn {y:List Int} (h:Bx y) (j:Nat):0 <= y.getD j 0:=by
 by_cases hj:j < 6
 ·exact (h.2 j hj).1
 ·rw [List.getD_eq_getElem?_getD,List.getElem?_eq_none (by rw [h.1];omega)];simp
theorem OV.more {nv:Nat} {o:List Int} {V:Nat} {y:List Int} (h:OV nv o V y) {v:Nat} (hv:V.testBit v = true):OV nv o (V ||| 2 ^ v) y:=by
 refine ⟨h.1,fun j hj => ?_⟩
 rw [h.2 j hj,bit_one]
 by_cases e:v = j
 ·subst e;simp [hv]
 ·simp [e]
theorem OV.put {nv:Nat} {o:List Int} {V:Nat} {y:List Int} (h:OV nv o V y) {v:Nat} (hv:v < nv):OV nv (o.set v (y.getD v 0)) (V ||| 2 ^ v) y:=by
 refine ⟨by simp [h.1],fun j hj => ?_⟩
 rw [getD_put,bit_one]
 by_cases e:v = j
 ·subst e;simp [h.1,hv]
 ·simp only [e,false_and,if_false,decide_false,Bool.or_false];exact h.2 j hj
theorem fit_fwd {nv:Nat} {y:List Int} (hy:Bx y):∀ (p:List (Bool × Int)) (xs o:List Int) (V:Nat),(∀ t,t ∈ p -> t.1 = true -> t.2.toNat < nv) -> OV nv o V y -> Sat p xs y -> ∃ o',fitP p xs o = some o' /\ OV nv o' (bitP p V) y
 | [],_,o,_,_,ho,_ => ⟨o,rfl,ho⟩
 | t :: p,xs,o,V,hp,ho,hs => by
  have hp':∀ t,t ∈ p -> t.1 = true -> t.2.toNat < nv:=fun t ht => hp t (by simp [ht])
  obtain ⟨h1,h2⟩:=hs
  unfold fitP bitP
  by_cases hv:t.1 = true
  ·rw [if_pos hv] at h1 ⊢
   have hlt:=hp t (by simp) hv
   rw [if_pos hv]
   by_cases hn:o.getD t.2.toNat 0 < 0
   ·rw [if_pos hn,← h1]
    exact fit_fwd hy p xs.tail _ _ hp' (ho.put hlt) h2
   ·have hb:V.testBit t.2.toNat = true:=by
     refine Classical.byContradiction fun hb => hn ?_
     rw [ho.2 _ hlt,if_neg hb];decide
    have he:o.getD t.2.toNat 0 = xs.getD 0 0:=by rw [ho.2 _ hlt,if_pos hb];exact h1
    rw [if_neg hn,if_pos he]
    exact fit_fwd hy p xs.tail _ _ hp' (ho.more hb) h2
  ·rw [if_neg hv] at h1 ⊢
   rw [if_neg hv,if_pos h1]
   exact fit_fwd hy p xs.tail _ _ hp' ho h2
theorem bx_put {y:List Int} (h:Bx y) {v:Nat} {n:Int} (hn:0 <= n /\ n <= 999):Bx (y.set v n):=by
 refine ⟨by simp [h.1],fun j hj => ?_⟩
 rw [getD_put]
 split
 ·exact hn
 ·exact h.2 j hj
theorem fit_back {nv:Nat} (h6:nv <= 6):∀ (p:List (Bool × Int)) (xs o o':List Int) (V:Nat) (y0:List Int),(∀ t,t ∈ p -> t.1 = true -> t.2.toNat < nv) -> (∀ j,0 <= xs.getD j 0 /\ xs.getD j 0 <= 999) -> Bx y0 -> OV nv o V y0 -> fitP p xs o = some o' -> ∃ y,Bx y /\ Sat p xs y /\ (∀ j,j < nv -> V.testBit j = true -> y.getD j 0 = y0.getD j 0)
 | [],_,_,_,_,y0,_,_,hy,_,_ => ⟨y0,hy,trivial,fun _ _ _ => rfl⟩
 | t :: p,xs,o,o',V,y0,hp,hx,hy,ho,hf => by
  have hp':∀ t,t ∈ p -> t.1 = true -> t.2.toNat < nv:=fun t ht => hp t (by simp [ht])
  have hx':∀ j,0 <= xs.tail.getD j 0 /\ xs.tail.getD j 0 <= 999:=fun j => by
   have:=hx (j + 1)
   rw [List.getD_eq_getElem?_getD] at this ⊢
   rw [List.getElem?_tail];exact this
  unfold fitP at hf
  by_cases hv:t.1 = true
  ·rw [if_pos hv] at hf
   have hlt:=hp t (by simp) hv
   by_cases hn:o.getD t.2.toNat 0 < 0
   ·rw [if_pos hn] at hf
    have hb:¬ V.testBit t.2.toNat = true:=fun hb => by
     rw [ho.2 _ hlt,if_pos hb] at hn
     have:=bx_nn hy t.2.toNat
     omega
    have ey:(y0.set t.2.toNat (xs.getD 0 0)).getD t.2.toNat 0 = xs.getD 0 0:=by rw [getD_put,if_pos ⟨rfl,by rw [hy.1];omega⟩]
    have ho1:OV nv o V (y0.set t.2.toNat (xs.getD 0 0)):=by
     refine ⟨ho.1,fun j hj => ?_⟩
     rw [ho.2 j hj]
     by_cases c:V.testBit j = true
     ·rw [if_pos c,if_pos c,getD_put,if_neg (fun e => hb (by rw [e.1];exact c))]
     ·rw [if_neg c,if_neg c]
    have ho2:=ho1.put hlt
    rw [ey] at ho2
    obtain ⟨y,q1,q2,q3⟩:=fit_back h6 p xs.tail _ o' _ _ hp' hx' (bx_put hy (hx 0)) ho2 hf
    refine ⟨y,q1,⟨?_,q2⟩,fun j hj hjv => ?_⟩
    ·rw [if_pos hv,q3 _ hlt (by rw [bit_one];simp),ey]
    ·rw [q3 j hj (by rw [bit_one,hjv];simp),getD_put,if_neg (fun e => hb (by rw [e.1];exact hjv))]
   ·rw [if_neg hn] at hf
    by_cases he:o.getD t.2.toNat 0 = xs.getD 0 0
    ·rw [if_pos he] at hf
     have hb:V.testBit t.2.toNat = true:=by
      refine Classical.byContradiction fun hb => hn ?_
      rw [ho.2 _ hlt,if_neg hb];decide
     obtain ⟨y,q1,q2,q3⟩:=fit_back h6 p xs.tail _ o' _ _ hp' hx' hy ho hf
     refine ⟨y,q1,⟨?_,q2⟩,q3⟩
     rw [if_pos hv,q3 _ hlt hb,← he,ho.2 _ hlt,if_pos hb]
    ·rw [if_neg he] at hf;cases hf
  ·rw [if_neg hv] at hf
   by_cases he:t.2 = xs.getD 0 0
   ·rw [if_pos he] at hf
    obtain ⟨y,q1,q2,q3⟩:=fit_back h6 p xs.tail _ o' _ _ hp' hx' hy ho hf
    exact ⟨y,q1,⟨by rw [if_neg hv];exact he,q2⟩,q3⟩
   ·rw [if_neg he] at hf;cases hf
theorem sat_at:∀ (p:List (Bool × Int)) (xs y:List Int),Sat p xs y ↔ ∀ i,i < p.length -> (if (p.getD i (false,0)).1 = true then y.getD (p.getD i (false,0)).2.toNat 0 else (p.getD i (false,0)).2) = xs.getD i 0
 | [],xs,y => by simp [Sat]
 | t :: p,xs,y => by
  unfold Sat
  rw [sat_at p xs.tail y]
  constructor
  ·rintro ⟨h1,h2⟩ i hi
   cases i with
   | zero => exact h1
   | succ i =>
    have:=h2 i (by simpa using hi)
    rw [List.getD_eq_getElem?_getD (l:=xs.tail),List.getElem?_tail,← List.getD_eq_getElem?_getD] at this
    exact this
  ·intro h
   refine ⟨h 0 (by simp),fun i hi => ?_⟩
   have:=h (i + 1) (by simpa using hi)
   rw [List.getD_eq_getElem?_getD (l:=xs.tail),List.getElem?_tail,← List.getD_eq_getElem?_getD]
   exact this
theorem bitP_at (p:List (Bool × Int)) (V j:Nat):(bitP p V).testBit j = (V.testBit j || p.any fun t => t.1 && decide (t.2.toNat = j)):=by
 induction p generalizing V with
 | nil => simp [bitP]
 | cons t p ih =>
  unfold bitP
  rw [ih,List.any_cons]
  cases h:t.1
  ·simp
  ·simp only [if_true,bit_one,Bool.true_and,Bool.or_assoc]
def hasV (p:List (Bool × Int)) (j:Nat):Bool:=p.any fun t => t.1 && decide (t.2.toNat = j)
theorem mvK_sat {p:List (Bool × Int)} {xs t y:List Int} (hx:∀ i,i < p.length -> t.getD i 0 = xs.getD i 0) (hS:Sat p xs y) (hn:∀ u,u ∈ p -> u.1 = true -> u.2.toNat < 6):∀ k,k <= p.length -> ∀ j,(mvK p t k).getD j 0 = if hasV (p.take k) j = true then y.getD j 0 else 0
 | 0,_,j => by rw [show hasV (p.take 0) j = false from rfl,if_neg (by simp)];exact zeros_at j
 | k + 1,hk,j => by
  have ih:=mvK_sat hx hS hn k (by omega) j
  have hlt:k < p.length:=by omega
  have e:p.getD k (false,0) = p[k]:=by rw [List.getD_eq_getElem?_getD,List.getElem?_eq_getElem hlt];rfl
  have hs:=(sat_at p xs y).1 hS k hlt
  have h2:hasV (p.take (k + 1)) j = (hasV (p.take k) j || (p[k].1 && decide (p[k].2.toNat = j))):=by
   unfold hasV;rw [List.take_succ_eq_append_getElem hlt,List.any_append];simp
  rw [mvK,e,h2]
  rw [e] at hs
  by_cases hv:p[k].1 = true
  ·rw [if_pos hv] at hs
   simp only [hv,if_true,Bool.true_and]
   rw [getD_put,mvK_len,hx k hlt,← hs]
   by_cases c:p[k].2.toNat = j
   ·rw [if_pos ⟨c,hn _ (List.getElem_mem hlt) hv⟩,c];simp
   ·rw [if_neg (fun q => c q.1),ih];simp [c]
  ·simp only [hv,Bool.false_and,Bool.or_false];exact ih
theorem sat_m {p:List (Bool × Int)} {xs t y:List Int} (hx:∀ i,i < p.length -> t.getD i 0 = xs.getD i 0) (hS:Sat p xs y) (hn:∀ u,u ∈ p -> u.1 = true -> u.2.toNat < 6):mOk p t = true /\ ∀ j,(mVars p t).getD j 0 = if hasV p j = true then y.getD j 0 else 0:=by
 have h:=mvK_sat hx hS hn p.length (Nat.le_refl _)
 rw [List.take_length] at h
 have hok:mOk p t = true:=by
  unfold mOk
  rw [List.all_eq_true]
  intro i hi
  have hi':=List.mem_range.1 hi
  have e:p.getD i (false,0) = p[i]:=by rw [List.getD_eq_getElem?_getD,List.getElem?_eq_getElem hi'];rfl
  have hs:=(sat_at p xs y).1 hS i hi'
  rw [beq_iff_eq,hx i hi',← hs]
  unfold tW
  by_cases hv:(p.getD i (false,0)).1 = true
  ·rw [if_pos hv,if_pos hv,h,if_pos]
   unfold hasV
   rw [List.any_eq_true]
   exact ⟨p[i],List.getElem_mem hi',by rw [e] at hv ⊢;simp [hv]⟩
  ·rw [if_neg hv,if_neg hv]
 refine ⟨hok,?_⟩
 unfold mVars
 rw [if_pos hok];exact h
theorem m_sat {p:List (Bool × Int)} {xs t:List Int} (hx:∀ i,i < p.length -> t.getD i 0 = xs.getD i 0) (h:mOk p t = true):Sat p xs (mVars p t):=by
 rw [sat_at]
 intro i hi
 have:=List.all_eq_true.1 h i (List.mem_range.2 hi)
 rw [beq_iff_eq,hx i hi] at this
 unfold mVars
 rw [if_pos h,← this]
 unfold tW
 rfl
theorem S_fib {α β:Type} [DecidableEq α] {A:List α} (hA:A.Nodup) (T:List β) (C:α -> Prop) [DecidablePred C] (D:β -> Prop) [DecidablePred D] (h:β -> α) (hh:∀ t,t ∈ T -> D t -> h t ∈ A) (r:β -> Int) (E:α -> Int) :
  Sg A (fun a => if C a then (Sg T fun t => if D t /\ h t = a then r t else 0) * E a else 0) = Sg T fun t => if D t /\ C (h t) then r t * E (h t) else 0:=by
 have e1:∀ a,(if C a then (Sg T fun t => if D t /\ h t = a then r t else 0) * E a else 0) = Sg T fun t => if (D t /\ C a) /\ h t = a then r t * E a else 0:=fun a => by
  by_cases c:C a
  ·rw [if_pos c,Int.mul_comm,← S_mul]
   refine S_congr fun t _ => ?_
   by_cases d:D t /\ h t = a
   ·rw [if_pos d,if_pos ⟨⟨d.1,c⟩,d.2⟩,Int.mul_comm]
   ·rw [if_neg d,if_neg (fun q => d ⟨q.1.1,q.2⟩),Int.mul_zero]
  ·rw [if_neg c]
   exact (S_zero fun t _ => if_neg (fun q => c q.1.2)).symm
 rw [S_congr fun a _ => e1 a,S_swap]
 refine S_congr fun t ht => ?_
 by_cases d:D t
 ·rw [S_one (x:=h t) hA (hh t ht d)]
  ·by_cases c:C (h t)
   ·rw [if_pos ⟨⟨d,c⟩,rfl⟩,if_pos ⟨d,c⟩]
   ·rw [if_neg (fun q => c q.1.2),if_neg (fun q => c q.2)]
  ·intro a _ hne
   exact if_neg (fun q => hne q.2.symm)
 ·rw [if_neg (fun q => d q.1)]
  exact S_zero fun a _ => if_neg (fun q => d q.1.1)
structure RefR (pd:List Int -> List Int) (P:PlanD) (R:Nat -> List Int -> Int) (RR:Nat -> Rws):Prop where
 eq:∀ r,r < P.rels.length -> ∀ t,R r t = Sg (RR r) fun x => if pd x.1 = t then x.2 else 0
 box:∀ r,r < P.rels.length -> ∀ x,x ∈ RR r -> x.1.length = (P.rel r).2.1 /\ pd x.1 ∈ boxN 3
 at':∀ xs i,i < xs.length -> (pd xs).getD i 0 = xs.getD i 0
def jS (P:PlanD) (RR:Nat -> Rws):List Nat -> List Int -> Int -> List Int -> Int
 | [],o,c,ys => if (P.head.map fun n => o.getD n 0) = ys then c else 0
 | i :: is,o,c,ys => Sg (RR (P.relOf i)) fun r => match fitP (P.pat i) r.1 o with
  | some o' => jS P RR is o' (c * r.2) ys
  | none => 0
def hdI (P:PlanD) (ys y:List Int):Int:=if hvals P.head y = ys then 1 else 0
theorem prodA_cons (m:Nat) (f:List Int -> Int) (l:List (Nat × (List Int -> Int))) (y:List Int):prodA ((m,f) :: l) y = f (rst m y) * prodA l y:=rfl
theorem ext_whole {U V:Nat} {x:List Int} (hx:Bx x) (hV:rst V x = x) (hUV:∀ j,j < 6 -> U.testBit j = V.testBit j) (G:List Int -> Int):ext U V x G = G x:=by
 have e:∀ y,rst U y = rst V y:=fun y => ext6 (rst_len _ _) (rst_len _ _) fun j hj => by rw [rst_at _ _ hj,rst_at _ _ hj,hUV j hj]
 unfold ext
 rw [S_one (x:=x) box_nodup (mem_box.2 hx)]
 ·rw [if_pos ⟨by rw [e];exact hV,hV⟩]
 ·intro y _ hne
  refine if_neg (fun q => hne ?_)
  rw [← q.1,e,q.2]
theorem join_is {pd:List Int -> List Int} {P:PlanD} (hP:PlanOk P) (hQ:RelOk P) {R:Nat -> List Int -> Int} (hR:RowsOk P R) {RR:Nat -> Rws} (hRR:RefR pd P R RR) {nv:Nat} (h6:nv <= 6) (hnv:∀ i,i < P.ms.length -> ∀ t,t ∈ P.pat i -> t.1 = true -> t.2.toNat < nv) {U:Nat} (hhd:∀ n,n ∈ P.head -> U.testBit n = true /\ n < nv) (ys:List Int) :
  ∀ (is:List Nat),(∀ i,i ∈ is -> i < P.ms.length) -> ∀ (o:List Int) (V:Nat) (x:List Int) (c:Int),Bx x -> rst V x = x -> OV nv o V x -> (∀ j,j < 6 -> U.testBit j = (V.testBit j || is.any fun i => (P.ms.getD i 0).testBit j)) ->
   jS P RR is o c ys = c * ext U V x (fun y => prodA (is.map fun i => (P.ms.getD i 0,cont P R i)) y * hdI P ys y)
 | [],_,o,V,x,c,hx,hV,ho,hU => by
  have hUV:∀ j,j < 6 -> U.testBit j = V.testBit j:=fun j hj => by rw [hU j hj];simp
  rw [ext_whole hx hV hUV]
  have e:(P.head.map fun n => o.getD n 0) = hvals P.head x:=by
   unfold hvals
   refine List.map_congr_left fun n hn => ?_
   obtain ⟨h1,h2⟩:=hhd n hn
   rw [ho.2 n h2,if_pos (by rw [← hUV n (by omega)];exact h1)]
  unfold jS hdI
  rw [e]
  show _ = c * (1 * _)
  split <;> omega
 | i :: is,his,o,V,x,c,hx,hV,ho,hU => by
  have hi:=his i (by simp)
  have hr:=hQ.lt i hi
  have hbit:∀ j,j < 6 -> (P.ms.getD i 0).testBit j = hasV (P.pat i) j:=fun j hj => by
   rw [hP.patm i hi j hj]
   unfold hasV
   have key:∀ t,t ∈ P.pat i -> (t.1 && t.2 == (j:Int)) = (t.1 && decide (t.2.toNat = j)):=by
    intro t ht
    cases hv:t.1
    ·rfl
    ·have:=((hP.patn i hi t ht).1 hv).1
     rw [Bool.true_and,Bool.true_and]
     by_cases e:t.2.toNat = j
     ·rw [decide_eq_true e,beq_iff_eq];omega
     ·rw [decide_eq_false e,beq_eq_false_iff_ne];omega
   rw [Bool.eq_iff_iff,List.any_eq_true,List.any_eq_true]
   exact ⟨fun ⟨t,ht,h⟩ => ⟨t,ht,by rw [← key t ht];exact h⟩,fun ⟨t,ht,h⟩ => ⟨t,ht,by rw [key t ht];exact h⟩⟩
  obtain ⟨m,hm⟩:∃ m,P.ms.getD i 0 = m:=⟨_,rfl⟩
  rw [hm] at hbit
  have hn6:∀ u,u ∈ P.pat i -> u.1 = true -> u.2.toNat < 6:=fun u hu hv => by have:=hnv i hi u hu hv;omega
  have hpl:=relterms hP hQ hi
  rw [List.map_cons,hm]
  have e0:(fun y => prodA ((m,cont P R i) :: is.map fun i => (P.ms.getD i 0,cont P R i)) y * hdI P ys y) = fun y => cont P R i (rst m y) * (prodA (is.map fun i => (P.ms.getD i 0,cont P R i)) y * hdI P ys y):=by
   funext y;rw [prodA_cons,Int.mul_assoc]
  have hV':∀ j,j < 6 -> (V ||| m).testBit j = (V.testBit j || m.testBit j):=fun j _ => Nat.testBit_or _ _ _
  have hs:∀ j,j < 6 -> (m &&& V).testBit j = (m.testBit j && V.testBit j):=fun j _ => Nat.testBit_and _ _ _
  have hfr:∀ j,j < 6 -> (m &&& (63 ^^^ V)).testBit j = (m.testBit j && !V.testBit j):=fun j hj => by
   rw [Nat.testBit_and,Nat.testBit_xor]
   congr 1
   have:Nat.testBit 63 j = true:=by
    match j,hj with
    | 0,_ => rfl
    | 1,_ => rfl
    | 2,_ => rfl
    | 3,_ => rfl
    | 4,_ => rfl
    | 5,_ => rfl
   rw [this,Bool.true_xor]
  rw [e0,ext_step (m:=m) (s:=m &&& V) (fr:=m &&& (63 ^^^ V)) (V':=V ||| m) (cont P R i) _ hs hfr hV' hV (fun a ha => by rw [← hm];exact ((cont_tame hP hQ hR).1 i a ha).2)]
  have e1:∀ a,cont P R i a = Sg (boxN 3) fun t => if mOk (P.pat i) t = true /\ mVars (P.pat i) t = a then R (P.relOf i) t else 0:=fun a => by unfold cont;rw [if_pos hi]
  simp only [e1]
  rw [S_fib (C:=fun a => rst (m &&& V) a = rst (m &&& V) x) (D:=fun t => mOk (P.pat i) t = true) (h:=mVars (P.pat i)) box_nodup _ (fun t ht _ => (mvars_ok hP hi ht).1)]
  have e2:∀ t,(if mOk (P.pat i) t = true /\ rst (m &&& V) (mVars (P.pat i) t) = rst (m &&& V) x then R (P.relOf i) t * ext U (V ||| m) (mix (m &&& (63 ^^^ V)) x (mVars (P.pat i) t)) (fun y => prodA (is.map fun i => (P.ms.getD i 0,cont P R i)) y * hdI P ys y) else 0) =
    if mOk (P.pat i) t = true /\ rst (m &&& V) (mVars (P.pat i) t) = rst (m &&& V) x then (Sg (RR (P.relOf i)) fun r => if True /\ pd r.1 = t then r.2 else 0) * ext U (V ||| m) (mix (m &&& (63 ^^^ V)) x (mVars (P.pat i) t)) (fun y => prodA (is.map fun i => (P.ms.getD i 0,cont P R i)) y * hdI P ys y) else 0:=fun t => by
   rw [hRR.eq _ hr t];simp only [true_and]
  rw [S_congr fun t _ => e2 t,S_fib (C:=fun t => mOk (P.pat i) t = true /\ rst (m &&& V) (mVars (P.pat i) t) = rst (m &&& V) x) (D:=fun _ => True) (h:=fun r:List Int × Int => pd r.1) (E:=fun t => ext U (V ||| m) (mix (m &&& (63 ^^^ V)) x (mVars (P.pat i) t)) (fun y => prodA (is.map fun i => (P.ms.getD i 0,cont P R i)) y * hdI P ys y)) (boxN_nodup 3) _ (fun r hr' _ => (hRR.box _ hr r hr').2),← S_mul]
  show Sg _ _ = _
  refine S_congr fun r hr' => ?_
  obtain ⟨b1,b2⟩:=hRR.box _ hr r hr'
  have hx1:∀ k,k < (P.pat i).length -> (pd r.1).getD k 0 = r.1.getD k 0:=fun k hk => hRR.at' _ _ (by omega)
  have hvals:∀ k,0 <= r.1.getD k 0 /\ r.1.getD k 0 <= 999:=fun k => by
   by_cases hk:k < r.1.length
   ·rw [← hRR.at' _ _ hk]
    have hb:=(mem_boxN.1 b2)
    by_cases h3:k < (pd r.1).length
    ·rw [List.getD_eq_getElem?_getD,List.getElem?_eq_getElem h3];exact hb.2 _ (List.getElem_mem h3)
    ·rw [List.getD_eq_getElem?_getD,List.getElem?_eq_none (by omega)];simp
   ·rw [List.getD_eq_getElem?_getD,List.getElem?_eq_none (by omega)];simp
  have hmv:=mvars_ok hP hi b2
  by_cases hc:mOk (P.pat i) (pd r.1) = true /\ rst (m &&& V) (mVars (P.pat i) (pd r.1)) = rst (m &&& V) x
  ·obtain ⟨a,ha⟩:∃ a,mVars (P.pat i) (pd r.1) = a:=⟨_,rfl⟩
   have hsat:=m_sat hx1 hc.1
   have hmx:=hmv.2 hc.1
   rw [ha] at hsat hmx
   rw [hm] at hmx
   have hab:Bx a:=by rw [← ha];exact mem_box.1 hmv.1
   have hyb:Bx (mix (m &&& (63 ^^^ V)) x a):=hx.mix hab _
   have hat:∀ j,j < 6 -> (mix (m &&& (63 ^^^ V)) x a).getD j 0 = if m.testBit j = true then a.getD j 0 else x.getD j 0:=fun j hj => by
    rw [mix_at _ _ _ hj,hfr j hj]
    cases hmj:m.testBit j
    ·simp
    ·cases hvj:V.testBit j
     ·simp
     ·have:=congrArg (fun l => l.getD j 0) hc.2
      simp only [ha] at this
      rw [rst_at _ _ hj,rst_at _ _ hj,hs j hj,hmj,hvj] at this
      simp at this ⊢;exact this.symm
   have hsy:Sat (P.pat i) r.1 (mix (m &&& (63 ^^^ V)) x a):=by
    rw [sat_at] at hsat ⊢
    intro k hk
    have:=hsat k hk
    by_cases hv:((P.pat i).getD k (false,0)).1 = true
    ·rw [if_pos hv] at this ⊢
     have hmem:(P.pat i).getD k (false,0) ∈ P.pat i:=by rw [List.getD_eq_getElem?_getD,List.getElem?_eq_getElem hk];exact List.getElem_mem hk
     have hlt:=hn6 _ hmem hv
     rw [hat _ hlt,if_pos]
     ·exact this
     ·rw [hbit _ hlt]
      unfold hasV
      rw [List.any_eq_true]
      exact ⟨_,hmem,by rw [hv];simp⟩
    ·rw [if_neg hv] at this ⊢;exact this
   have hoy:OV nv o V (mix (m &&& (63 ^^^ V)) x a):=by
    refine ⟨ho.1,fun j hj => ?_⟩
    rw [ho.2 j hj]
    by_cases c:V.testBit j = true
    ·rw [if_pos c,if_pos c,mix_at _ _ _ (by omega),hfr j (by omega),c];simp
    ·rw [if_neg c,if_neg c]
   obtain ⟨o',hf,ho'⟩:=fit_fwd hyb (P.pat i) r.1 o V (hnv i hi) hoy hsy
   have ho2:OV nv o' (V ||| m) (mix (m &&& (63 ^^^ V)) x a):=by
    refine ⟨ho'.1,fun j hj => ?_⟩
    rw [ho'.2 j hj,bitP_at,hV' j (by omega),hbit j (by omega)];rfl
   rw [if_pos ⟨trivial,hc⟩,hf]
   show jS P RR is o' (c * r.2) ys = _
   have hfix:rst (V ||| m) (mix (m &&& (63 ^^^ V)) x a) = mix (m &&& (63 ^^^ V)) x a:=by
    refine ext6 (rst_len _ _) (mix_len _ _ _) fun j hj => ?_
    rw [rst_at _ _ hj,hV' j hj,hat j hj]
    cases hmj:m.testBit j
    ·cases hvj:V.testBit j
     ·have:(rst V x).getD j 0 = x.getD j 0:=by rw [hV]
      rw [rst_at _ _ hj,hvj] at this
      simp at this ⊢;exact this
     ·simp
    ·simp
   rw [join_is hP hQ hR hRR h6 hnv hhd ys is (fun k hk => his k (by simp [hk])) o' (V ||| m) _ (c * r.2) hyb hfix ho2 (fun j hj => by rw [hU j hj,hV' j hj,List.any_cons,hm,Bool.or_assoc]),ha,Int.mul_assoc]
  ·rw [if_neg (fun q => hc q.2),Int.mul_zero]
   cases hf:fitP (P.pat i) r.1 o with
   | none => rfl
   | some o' =>
    exfalso
    obtain ⟨y,q1,q2,q3⟩:=fit_back h6 (P.pat i) r.1 o o' V x (hnv i hi) hvals hx ho hf
    obtain ⟨k1,k2⟩:=sat_m hx1 q2 hn6
    refine hc ⟨k1,ext6 (rst_len _ _) (rst_len _ _) fun j hj => ?_⟩
    rw [rst_at _ _ hj,rst_at _ _ hj,hs j hj]
    cases hmj:m.testBit j
    ·simp
    ·cases hvj:V.testBit j
     ·simp
     ·rw [hbit j hj] at hmj
      rw [if_pos (by rfl),if_pos (by rfl),k2 j,if_pos hmj]
      by_cases hjn:j < nv
      ·exact q3 j hjn hvj
      ·exfalso
       unfold hasV at hmj
       obtain ⟨t,ht,hte⟩:=List.any_eq_true.1 hmj
       rw [Bool.and_eq_true] at hte
       have:=hnv i hi t ht hte.1
       have:=of_decide_eq_true hte.2
       omega
end Go.Proofs.YtondkinefmjpjaaGreat
namespace Go.Proofs.YtondkinefmjpjaaGreat
open Go.RowKit
def SC (xs ys:List Int) (z:Int):Prop:=(z < 0 ↔ cmpL xs ys < 0) /\ (z = 0 ↔ cmpL xs ys = 0)
theorem cmpI_pos {x y:Int}:0 < cmpI x y ↔ y < x:=by unfold cmpI;split <;> (try split) <;> omega
theorem compare_any (v1 v2:Value) (xs ys:List Int) (w:World) (h1:Reads w v1 xs) (h2:Reads w v2 ys) (l1:xs.length < 4611686018427387904) (l2:ys.length < 4611686018427387904) :
  Calls Tryz.prog 98 #[v1,v2] w fun e w' => ∃ z,e = .returned (.int .i64 z) /\ SC xs ys z /\ Below w.heap.size w w':=by
 obtain ⟨a1,c1,rfl,r1⟩:=h1
 obtain ⟨a2,c2,rfl,r2⟩:=h2
 have R1:Hid _:=r1
 have R2:Hid _:=r2
 clear r1 r2
 go_enter Tryz.func98,Tryz.ntmps98
 go_wp2_with fail
 go_loopw [5] (fun iv wr => ∃ k:Nat,k <= xs.length /\ k <= ys.length /\ iv = .int .i64 k /\ Below w.heap.size w wr /\ cmpL (xs.drop k) (ys.drop k) = cmpL xs ys) (fun iv _ => xs.length - (intOf iv).toNat)
 case atStart => exact ⟨0,Nat.zero_le _,Nat.zero_le _,rfl,Below.refl _ _,rfl⟩
 case round =>
  obtain ⟨k,hk1,hk2,rfl,hb,hd⟩:=hrel
  have HK:Hid (cmpL (xs.drop k) (ys.drop k) = cmpL xs ys):=hd
  clear hd
  by_cases hx:k < xs.length
  ·by_cases hy:k < ys.length
   ·obtain ⟨g1,o1,rfl,q1⟩:=R1.out (by omega)
    obtain ⟨g2,o2,rfl,q2⟩:=R2.out (by omega)
    have d1:=(hb.cell (p:=⟨g1,o1 + k,none⟩) (World.block_lt_of_cell? _ _ (q1 k hx))).trans (q1 k hx)
    have d2:=(hb.cell (p:=⟨g2,o2 + k,none⟩) (World.block_lt_of_cell? _ _ (q2 k (by omega)))).trans (q2 k (by omega))
    have HD:Hid _:=cmpL_drop xs ys k hx hy
    obtain ⟨X,hX⟩:∃ X,xs.getD k 0 = X:=⟨_,rfl⟩
    obtain ⟨Y,hY⟩:∃ Y,ys.getD k 0 = Y:=⟨_,rfl⟩
    rw [hX] at d1 HD
    rw [hY] at d2 HD
    clear hX hY q1 q2
    have bx:(k:Int) < (xs.length:Int):=by omega
    have byy:(k:Int) < (ys.length:Int):=by omega
    by_cases hlt:X < Y
    ·have HR:Hid (SC xs ys (-1)):=by
      have h3:=cmpI_neg.2 hlt
      have:=HK.out
      rw [HD.out,if_neg (by omega)] at this
      rw [Hid,SC,← this];omega
     go_wp2_with fail
     go_region
     all_goals go_wp2_with fail
     all_goals go_ret
     all_goals exact ⟨-1,rfl,HR.out,hb.drew⟩
    ·by_cases hgt:Y < X
     ·have HR:Hid (SC xs ys 1):=by
       have h3:=cmpI_pos.2 hgt
       have:=HK.out
       rw [HD.out,if_neg (by omega)] at this
       rw [Hid,SC,← this];omega
      go_wp2_with fail
      go_region
      all_goals go_wp2_with fail
      all_goals go_region
      all_goals go_wp2_with fail
      all_goals go_ret
      all_goals exact ⟨1,rfl,HR.out,hb.drew.drew⟩
     ·have HR:Hid (cmpL (xs.drop (k + 1)) (ys.drop (k + 1)) = cmpL xs ys):=by
       have:=HK.out
       rw [HD.out,if_pos (cmpI_nil.2 (by omega))] at this
       exact this
      go_wp2_with fail
      go_region
      all_goals go_wp2_with fail
      all_goals go_region
      all_goals go_wp2_with fail
      all_goals go_roundw
      all_goals first
       | (simp [intOf];omega)
       | exact ⟨k + 1,by omega,by omega,by go_num,hb.drew.drew,HR.out⟩
   ·have HR:Hid (SC xs ys ((xs.length:Int) - (ys.length:Int))):=by
     have:=HK.out
     rw [show ys.drop k = [] from List.drop_of_length_le (by omega),List.drop_eq_getElem_cons hx,cmpL] at this
     rw [Hid,SC,← this];omega
    have byy:¬ (k:Int) < (ys.length:Int):=by omega
    have bx:(k:Int) < (xs.length:Int):=by omega
    go_wp2_with fail
    go_ret
    exact ⟨_,rfl,HR.out,hb⟩
  ·have bx:¬ (k:Int) < (xs.length:Int):=by omega
   have HR:Hid (SC xs ys ((xs.length:Int) - (ys.length:Int))):=by
    have:=HK.out
    rw [show xs.drop k = [] from List.drop_of_length_le (by omega)] at this
    by_cases hy:k < ys.length
    ·rw [List.drop_eq_getElem_cons hy,cmpL] at this
     rw [Hid,SC,← this];omega
    ·rw [show ys.drop k = [] from List.drop_of_length_le (by omega),cmpL] at this
     rw [Hid,SC,← this];omega
   go_wp2_with fail
   go_ret
   exact ⟨_,rfl,HR.out,hb⟩
def UB (B:Nat) (u:Value):Prop:=∀ a n c,u = .slice (some a) n c -> 0 < n -> B <= a.block
def RReadB (B:Nat) (w:World) (v:Value) (l:Rws):Prop :=
 ∃ a cap,v = .slice a l.length cap /\ (0 < l.length -> ∃ g off,a = some ⟨g,off,none⟩ /\ B <= g /\ ∀ j,j < l.length -> (∃ u,w.cell? ⟨g,off + j * 2,none⟩ = some u /\ Reads w u (rAt l j).1 /\ UB B u) /\ w.cell? ⟨g,off + j * 2 + 1,none⟩ = some (.int .i64 (rAt l j).2))
theorem RReadB.read {B:Nat} {w:World} {v:Value} {l:Rws} (h:RReadB B w v l):RRead w v l:=by
 obtain ⟨a,cap,rfl,h2⟩:=h
 refine ⟨a,cap,rfl,fun hl => ?_⟩
 obtain ⟨g,off,rfl,_,h3⟩:=h2 hl
 exact ⟨g,off,rfl,fun j hj => let ⟨⟨u,c1,c2,_⟩,c3⟩:=h3 j hj;⟨⟨u,c1,c2⟩,c3⟩⟩
theorem RReadB.nil (B:Nat) (w:World):RReadB B w (.slice none 0 0) []:=⟨none,0,rfl,fun h => absurd h (by simp)⟩
theorem RReadB.fr {B:Nat} {M:Nat -> Prop} {w w':World} {v:Value} {l:Rws} (h:RReadB B w v l) (hf:Fr M w w') (hm:Mps w M):RReadB B w' v l:=by
 obtain ⟨a,cap,rfl,h2⟩:=h
 refine ⟨a,cap,rfl,fun hl => ?_⟩
 obtain ⟨g,off,rfl,hB,h3⟩:=h2 hl
 refine ⟨g,off,rfl,hB,fun j hj => ?_⟩
 obtain ⟨⟨u,c1,⟨a2,cap2,e,c2⟩,c4⟩,c3⟩:=h3 j hj
 refine ⟨⟨u,hf.cell hm c1,⟨a2,cap2,e,fun hl2 => ?_⟩,c4⟩,hf.cell hm c3⟩
 obtain ⟨g2,o2,e2,h4⟩:=c2 hl2
 exact ⟨g2,o2,e2,fun k hk => hf.cell hm (h4 k hk)⟩
theorem RReadB.below {B:Nat} {w w':World} {v:Value} {l:Rws} (h:RReadB B w v l) (hb:Below w.heap.size w w'):RReadB B w' v l:=h.fr (Fr.of_below (M:=fun _ => False) hb) (mps_none _)
theorem RReadB.set {B:Nat} {w:World} {v:Value} {l:Rws} (h:RReadB B w v l) {p:Addr} (hp:p.block < B) (x:Value):RReadB B (w.setCell p x) v l:=by
 have hc:∀ (q:Addr) (y:Value),B <= q.block -> w.cell? q = some y -> (w.setCell p x).cell? q = some y:=fun q y hq e => cell_of_block e (Below.heap_setCell _ _ _ _ (by omega))
 obtain ⟨a,cap,rfl,h2⟩:=h
 refine ⟨a,cap,rfl,fun hl => ?_⟩
 obtain ⟨g,off,rfl,hB,h3⟩:=h2 hl
 refine ⟨g,off,rfl,hB,fun j hj => ?_⟩
 obtain ⟨⟨u,c1,⟨a2,cap2,e,c2⟩,c4⟩,c3⟩:=h3 j hj
 refine ⟨⟨u,hc _ _ hB c1,⟨a2,cap2,e,fun hl2 => ?_⟩,c4⟩,hc _ _ hB c3⟩
 obtain ⟨g2,o2,rfl,h4⟩:=c2 hl2
 have hB2:B <= g2:=c4 ⟨g2,o2,none⟩ _ _ e hl2
 exact ⟨g2,o2,rfl,fun k hk => hc _ _ hB2 (h4 k hk)⟩
structure OutS (B:Nat) (w wr:World) (v:Value) (us:List Value) (l:Rws):Prop where
 len:us.length = l.length
 row:wr.ownsRow w.heap.size 103 2 v l.length (rcells us l)
 val:∀ j,j < l.length -> Reads w (us.getD j undef) (rAt l j).1 /\ UB B (us.getD j undef)
 blw:Below w.heap.size w wr
theorem OutS.nil (B:Nat) (w:World):OutS B w w (.slice none 0 0) [] []:=⟨rfl,World.ownsRow_nil _ _ _ _,fun j hj => absurd hj (by simp),Below.refl _ _⟩
theorem OutS.below {B:Nat} {w wr wx:World} {v:Value} {us:List Value} {l:Rws} (h:OutS B w wr v us l) (hb:Below wr.heap.size wr wx):OutS B w wx v us l :=
 ⟨h.len,vown_below h.row hb,h.val,h.blw.trans (hb.mono h.blw.size)⟩
theorem OutS.snoc {B:Nat} {w wr wa w6:World} {v v6:Value} {us:List Value} {l:Rws} {u:Value} {V:List Int} {c:Int} {m:Nat} (h:OutS B w wr v us l) (hb:Below wr.heap.size wr wa) (hu:Reads w u V /\ UB B u) (hown:w6.ownsRow w.heap.size 103 2 v6 m (rcells us l ++ [u,.int .i64 c])) (hm:m = l.length + 1) (hg:wa.grownBy w6 v.ownBlock):OutS B w w6 v6 (us ++ [u]) (l ++ [(V,c)]):=by
 subst hm
 refine ⟨by simp [h.len],?_,fun j hj => ?_,(h.blw.trans (hb.mono h.blw.size)).grown hg (Nat.le_trans h.blw.size hb.size) (fun k hk => (h.row.lt k hk).1)⟩
 ·rw [rcells_snoc us l h.len,List.length_append];exact hown
 ·by_cases hl:j < l.length
  ·rw [rAt_snoc l (V,c) j hl]
   have:(us ++ [u]).getD j undef = us.getD j undef:=by simp [List.getD,List.getElem?_append_left,h.len,hl]
   rw [this];exact h.val j hl
  ·have hjl:j = l.length:=by simp at hj;omega
   subst hjl
   rw [rAt_last]
   have:(us ++ [u]).getD l.length undef = u:=by rw [← h.len];simp [List.getD]
   rw [this];exact hu
theorem OutS.read {B:Nat} {w wr:World} {v:Value} {us:List Value} {l:Rws} (h:OutS B w wr v us l) (hB:B <= w.heap.size):RReadB B wr v l:=by
 obtain ⟨a,cap,rfl⟩:=vown_form h.row
 refine ⟨a,cap,rfl,fun hl => ?_⟩
 obtain ⟨g,cap',he⟩:=vown_some h.row hl
 simp only [Value.slice.injEq,true_and] at he
 obtain ⟨rfl,rfl⟩:=he
 refine ⟨g,0,rfl,Nat.le_trans hB (h.row.lt g rfl).1,fun j hj => ?_⟩
 have e:=rcells_at us l h.len j hj
 refine ⟨⟨us.getD j undef,?_,(h.val j hj).1.below h.blw,(h.val j hj).2⟩,?_⟩
 ·rw [Nat.zero_add,h.row.cellAt (j * 2) (by omega)];exact e.1
 ·rw [Nat.zero_add,h.row.cellAt (j * 2 + 1) (by omega)];exact e.2
def AddS (B:Nat) (w wx:World) (l:Rws) (xs:List Int) (c:Int) (ov dv iv:Value):Prop :=
 ∃ (i:Nat) (us:List Value) (out:Rws) (d:Bool),i <= l.length /\ iv = .int .i64 i /\ dv = .bool d /\ OutS B w wx ov us out /\ ((d = false /\ out = l.take i /\ addL l xs c = l.take i ++ addG xs c (l.drop i)) ∨ (d = true /\ out ++ l.drop i = addL l xs c))
theorem addL_len (l:Rws) (xs:List Int) (c:Int):(addL l xs c).length <= l.length + 1:=by
 unfold addL;split
 ·omega
 ·exact addG_len _ _ _
theorem wr_w64 (x:Int):wr x = wrap64 x:=by rw [wr_eq,wrap64]
theorem drop_at (l:Rws) (i:Nat) (h:i < l.length):l.drop i = rAt l i :: l.drop (i + 1):=by
 rw [List.drop_eq_getElem_cons h]
 have:rAt l i = l[i]:=by unfold rAt;rw [List.getD_eq_getElem?_getD,List.getElem?_eq_getElem h];rfl
 rw [this]
theorem take_at (l:Rws) (i:Nat) (h:i < l.length):l.take (i + 1) = l.take i ++ [rAt l i]:=by
 have:rAt l i = l[i]:=by unfold rAt;rw [List.getD_eq_getElem?_getD,List.getElem?_eq_getElem h];rfl
 rw [List.take_succ_eq_append_getElem h,this]
theorem add_any (B:Nat) (lv vv:Value) (l:Rws) (xs:List Int) (c:Int) (w:World) (hB:B <= w.heap.size) (h:RReadB B w lv l) (hv:Reads w vv xs) (hub:UB B vv) (hx:xs.length < 4611686018427387904) (hn:(l.length + 2) * 32 <= 140737488355328) (hs:∀ j,j < l.length -> (rAt l j).1.length < 4611686018427387904) :
  Calls Tryz.prog 64 #[lv,vv,.int .i64 c] w fun e w' => ∃ rv,e = .returned rv /\ RReadB B w' rv (addL l xs c) /\ Below w.heap.size w w':=by
 obtain ⟨la,lcap,rfl,h2⟩:=h
 have R:Hid _:=h2
 have HV:Hid (Reads w vv xs /\ UB B vv):=⟨hv,hub⟩
 have HS:Hid _:=hs
 obtain ⟨va,vcap,rfl,_⟩:=hv
 clear h2 hs hub
 obtain ⟨i0,hi,hz0,hz1,hz2⟩:=info_parts Tryz.info103
 have HI:Hid _:=hi
 have HZ0:Hid _:=hz0
 have HZ1:Hid _:=hz1
 have HZ2:Hid _:=hz2
 clear hi hz0 hz1 hz2
 have S0:∀ b:Bool,(c == 0) = b -> AddS B w w l xs c (.slice none 0 0) (.bool b) (.int .i64 0):=fun b hb => by
  refine ⟨0,[],[],b,Nat.zero_le _,rfl,rfl,OutS.nil B w,?_⟩
  cases b
  ·refine Or.inl ⟨rfl,rfl,?_⟩
   unfold addL;rw [if_neg (by simpa using hb)];rfl
  ·refine Or.inr ⟨rfl,?_⟩
   unfold addL;rw [if_pos (by simpa using hb)];rfl
 obtain ⟨D0,hD0⟩:∃ D,(c == 0) = D:=⟨_,rfl⟩
 have S00:=S0 D0 hD0
 have HL:Hid ((addL l xs c).length <= l.length + 1):=addL_len l xs c
 clear S0
 go_enter Tryz.func64,Tryz.ntmps64
 go_wp2_with fail
 go_loopw [7,8,9,10] (fun ov dv iv _ wx => AddS B w wx l xs c ov dv iv) (fun _ _ iv _ _ => l.length - (intOf iv).toNat)
 case atStart => exact S00
 case round =>
  clear S00 hD0
  obtain ⟨i,us,out,d,hi,rfl,rfl,hO,hor⟩:=hrel
  have hws:=hO.blw.size
  have HO:Hid _:=hO
  have ho:=hO.row
  obtain ⟨oa,ocap,hov⟩:=vown_form ho
  subst hov
  have hol:out.length <= i + 1:=by
   rcases hor with ⟨_,e,_⟩ | ⟨_,e⟩
   ·rw [e];simp;omega
   ·have h1:=congrArg List.length e
    rw [List.length_append,List.length_drop] at h1
    have:=HL.out
    omega
  have HOR:Hid _:=hor
  clear hor
  by_cases hlt:i < l.length
  ·obtain ⟨g,off,rfl,_,q⟩:=R.out (by omega)
   obtain ⟨⟨u,c1,c2,cub⟩,c3⟩:=q i hlt
   have d1:=(hO.blw.cell (p:=⟨g,off + i * 2,none⟩) (World.block_lt_of_cell? _ _ c1)).trans c1
   have d3:=(hO.blw.cell (p:=⟨g,off + i * 2 + 1,none⟩) (World.block_lt_of_cell? _ _ c3)).trans c3
   have hks:=HS.out i hlt
   have HDA:Hid _:=drop_at l i hlt
   have HTA:Hid _:=take_at l i hlt
   obtain ⟨KV,KX,hK⟩:∃ KV KX,rAt l i = (KV,KX):=⟨_,_,rfl⟩
   rw [hK] at c2 d3 hks HDA HTA
   have HC2:Hid (Reads w u KV /\ UB B u):=⟨c2,cub⟩
   have CMP:=compare_any (.slice va xs.length vcap) u xs KV wr (HV.out.1.below hO.blw) (c2.below hO.blw) hx hks
   obtain ⟨ua,uc,rfl,_⟩:=c2
   have lg:=World.block_lt_of_cell? _ _ d1
   have bi:(i:Int) < (l.length:Int):=by omega
   have HC1:Hid _:=c1
   clear q c1 c3 hK hO cub
   go_upto_region 7 with (go_at_call 98;refine CMP.mono ?_;rintro e w1 ⟨z,rfl,hz,hb1⟩)
   have e1:=(hb1.cell (p:=⟨g,off + i * 2,none⟩) lg).trans d1
   have e3:=(hb1.cell (p:=⟨g,off + i * 2 + 1,none⟩) lg).trans d3
   have HO1:Hid (OutS B w w1 (.slice oa out.length ocap) us out):=OutS.below HO.out hb1
   have ho1:=HO1.out.row
   have lg1:g < w1.heap.size:=World.block_lt_of_cell? _ _ e1
   have hs1:w.heap.size <= w1.heap.size:=HO1.out.blw.size
   have HZ:Hid (SC xs KV z):=hz
   have HB1:Hid _:=hb1
   clear CMP d1 d3 ho HO hz hb1
   have HNG:Hid (some g ≠ (Value.slice oa out.length ocap).ownBlock):=fun e => by
    have h1:=(ho1.lt g e.symm).1
    have h2:g < w.heap.size:=World.block_lt_of_cell? _ _ HC1.out
    omega
   cases d
   ·obtain ⟨hout,hadd⟩:out = l.take i /\ addL l xs c = l.take i ++ addG xs c (l.drop i):=by
     rcases HOR.out with ⟨_,h1,h2⟩ | ⟨h1,_⟩
     ·exact ⟨h1,h2⟩
     ·cases h1
    have HADD:Hid _:=hadd
    rw [HDA.out,← hout] at HADD
    have HTK:Hid (out ++ [(KV,KX)] = l.take (i + 1)):=by rw [Hid,HTA.out,hout]
    clear hadd hout
    by_cases hzn:z < 0
    ·have HE:Hid (((out ++ [(xs,c)]) ++ [(KV,KX)]) ++ l.drop (i + 1) = addL l xs c):=by
      rw [Hid,HADD.out]
      have:cmpL xs KV < 0:=HZ.out.1.1 hzn
      simp [addG,this]
     go_upto_region 10 with (at_builtin;refine wpList_append_own _ rfl (.tmp 32) (.tmp 36) 33 rfl w.heap.size 103 i0 (.agg #[.slice none 0 0,.int .i64 0]) 2 32 Tryz.underlying33 HI.out HZ0.out HZ1.out HZ2.out rfl (by decide) (.slice oa out.length ocap) _ _ rfl (ho1.alloc _) ⟨w1.heap.size,0,none⟩ 1 1 [.slice va xs.length vcap,.int .i64 c] rfl rfl (vtwo_new _ _ _ _) (by intro u hu;simp at hu;rcases hu with rfl | rfl <;> rfl) (by unfold maxLen;omega) (by omega) (by simp;omega) ?_;intro v5 w5 hown5 hgrow5 hx5;clear hx5;obtain ⟨oa5,ocap5,rfl⟩:=vown_form hown5)
     have HO5:Hid _:=OutS.snoc (V:=xs) HO1.out ((Below.refl _ _).alloc (Nat.le_refl _) _) HV.out hown5 rfl hgrow5
     have e5:=(hgrow5.block g (by simp;omega) HNG.out).trans (Below.heap_alloc _ _ _ lg1)
     have e51:=cell_of_block e1 e5
     have e53:=cell_of_block e3 e5
     have lg5:=World.block_lt_of_cell? _ _ e51
     have hs5:=HO5.out.blw.size
     obtain ⟨n5,hn5⟩:∃ n,out.length + 1 = n:=⟨_,rfl⟩
     obtain ⟨L5,hL5⟩:∃ L,rcells us out ++ [.slice va xs.length vcap,.int .i64 c] = L:=⟨_,rfl⟩
     have HN5:Hid (out.length + 1 = n5):=hn5
     have HL5:Hid _:=hL5
     rw [hn5] at HO5 hown5 ⊢
     rw [hL5] at hown5
     have hb5:n5 <= l.length + 1:=by omega
     clear e5 hgrow5 e1 e3 lg1 hn5 hL5 hol
     go_wp2_with (at_builtin;refine wpList_append_own _ rfl (.tmp 68) (.tmp 73) 33 rfl w.heap.size 103 i0 (.agg #[.slice none 0 0,.int .i64 0]) 2 32 Tryz.underlying33 HI.out HZ0.out HZ1.out HZ2.out rfl (by decide) (.slice oa5 n5 ocap5) _ _ rfl (hown5.alloc _) ⟨w5.heap.size,0,none⟩ 1 1 [.slice ua KV.length uc,.int .i64 KX] rfl rfl (vtwo_new _ _ _ _) (by intro u hu;simp at hu;rcases hu with rfl | rfl <;> rfl) (by unfold maxLen;omega) (by omega) (by simp;omega) ?_;intro v6 w6 hown6 hgrow6 hx6;clear hx6;obtain ⟨oa6,ocap6,rfl⟩:=vown_form hown6)
     have FIN:=OutS.snoc (V:=KV) HO5.out ((Below.refl _ _).alloc (Nat.le_refl _) _) HC2.out (by rw [rcells_snoc us out HO1.out.len,HL5.out];exact hown6) (by rw [← HN5.out];simp) hgrow6
     go_roundw
     case rel => exact ⟨i + 1,_,_,true,by omega,by go_num,rfl,FIN,Or.inr ⟨rfl,HE.out⟩⟩
     case measure => simp [intOf];omega
    ·cases hze:(z == 0)
     ·have HE:Hid (addL l xs c = l.take (i + 1) ++ addG xs c (l.drop (i + 1))):=by
       rw [Hid,HADD.out,← HTK.out]
       have h1:¬ cmpL xs KV < 0:=fun h => hzn (HZ.out.1.2 h)
       have h2:¬ cmpL xs KV = 0:=fun h => by have:=HZ.out.2.2 h;simp [this] at hze
       simp [addG,h1,h2]
      go_wp2_with (at_builtin;refine wpList_append_own _ rfl (.tmp 68) (.tmp 73) 33 rfl w.heap.size 103 i0 (.agg #[.slice none 0 0,.int .i64 0]) 2 32 Tryz.underlying33 HI.out HZ0.out HZ1.out HZ2.out rfl (by decide) (.slice oa out.length ocap) _ _ rfl (ho1.alloc _) ⟨w1.heap.size,0,none⟩ 1 1 [.slice ua KV.length uc,.int .i64 KX] rfl rfl (vtwo_new _ _ _ _) (by intro u hu;simp at hu;rcases hu with rfl | rfl <;> rfl) (by unfold maxLen;omega) (by omega) (by simp;omega) ?_;intro v6 w6 hown6 hgrow6 hx6;clear hx6;obtain ⟨oa6,ocap6,rfl⟩:=vown_form hown6)
      have FIN:=OutS.snoc (V:=KV) HO1.out ((Below.refl _ _).alloc (Nat.le_refl _) _) HC2.out hown6 rfl hgrow6
      go_roundw
      case rel => exact ⟨i + 1,_,_,false,by omega,by go_num,rfl,FIN,Or.inl ⟨rfl,HTK.out,HE.out⟩⟩
      case measure => simp [intOf];omega
     ·have h0:cmpL xs KV = 0:=HZ.out.2.1 (by simpa using hze)
      have hxe:=(cL_eq _ _).1 h0
      have hnl:¬ cmpL xs KV < 0:=by omega
      have hAD:addL l xs c = out ++ ((if Go.Proofs.YtondkinefmjpjaaGreat.wr (KX + c) = 0 then [] else [(KV,Go.Proofs.YtondkinefmjpjaaGreat.wr (KX + c))]) ++ l.drop (i + 1)):=by
       rw [HADD.out,addG,if_neg hnl,if_pos h0]
       split <;> rfl
      have HAD:Hid _:=hAD
      clear hAD h0 hxe hnl
      cases hne:(wrap64 (KX + c) != 0)
      ·have HE:Hid (out ++ l.drop (i + 1) = addL l xs c):=by
        rw [Hid,HAD.out,if_pos (by rw [wr_w64];simpa using hne)];rfl
       go_wp2_with fail
       go_roundw
       case rel => exact ⟨i + 1,_,_,true,by omega,by go_num,rfl,HO1.out,Or.inr ⟨rfl,HE.out⟩⟩
       case measure => simp [intOf];omega
      ·have HE:Hid ((out ++ [(KV,IntKind.i64.wrap (KX + c))]) ++ l.drop (i + 1) = addL l xs c):=by
        rw [Hid,HAD.out,if_neg (by rw [wr_w64];simpa using hne),List.append_assoc]
        rfl
       go_wp2_with fail
       have hod:((w1.alloc (Obj.cells #[.slice ua KV.length uc,.int .i64 (IntKind.i64.wrap (KX + c))] 103)).drew).ownsRow w.heap.size 103 2 (.slice oa out.length ocap) out.length (rcells us out):=ho1.alloc _
       go_region_law (refine step_append_own rfl (.tmp 52) (.tmp 66) 33 rfl w.heap.size 103 i0 (.agg #[.slice none 0 0,.int .i64 0]) 2 32 Tryz.underlying33 HI.out HZ0.out HZ1.out HZ2.out rfl (by decide) (.slice oa out.length ocap) _ _ rfl hod ⟨w1.heap.size,0,none⟩ 1 1 [.slice ua KV.length uc,.int .i64 (IntKind.i64.wrap (KX + c))] rfl rfl (vtwo_new w1 _ _ _) (by intro u hu;simp at hu;rcases hu with rfl | rfl <;> rfl) (by unfold maxLen;omega) (by omega) (by simp;omega) ?_;intro v6 w6 hown6 hgrow6)
       all_goals have FIN:=OutS.snoc (V:=KV) HO1.out ((Below.refl _ _).alloc (Nat.le_refl _) _).drew HC2.out hown6 rfl hgrow6
       all_goals go_wp2_with fail
       all_goals go_roundw
       all_goals first | exact ⟨i + 1,_,_,true,by omega,by go_num,rfl,FIN,Or.inr ⟨rfl,HE.out⟩⟩ | (simp [intOf];omega)
   ·have hor:out ++ l.drop i = addL l xs c:=by
     rcases HOR.out with ⟨h1,_⟩ | ⟨_,h1⟩
     ·cases h1
     ·exact h1
    rw [HDA.out] at hor
    have HE:Hid ((out ++ [(KV,KX)]) ++ l.drop (i + 1) = addL l xs c):=by rw [Hid,← hor];simp
    clear hor
    go_wp2_with (at_builtin;refine wpList_append_own _ rfl (.tmp 68) (.tmp 73) 33 rfl w.heap.size 103 i0 (.agg #[.slice none 0 0,.int .i64 0]) 2 32 Tryz.underlying33 HI.out HZ0.out HZ1.out HZ2.out rfl (by decide) (.slice oa out.length ocap) _ _ rfl (ho1.alloc _) ⟨w1.heap.size,0,none⟩ 1 1 [.slice ua KV.length uc,.int .i64 KX] rfl rfl (vtwo_new _ _ _ _) (by intro u hu;simp at hu;rcases hu with rfl | rfl <;> rfl) (by unfold maxLen;omega) (by omega) (by simp;omega) ?_;intro v6 w6 hown6 hgrow6 hx6;clear hx6;obtain ⟨oa6,ocap6,rfl⟩:=vown_form hown6)
    have FIN:=OutS.snoc (V:=KV) HO1.out ((Below.refl _ _).alloc (Nat.le_refl _) _) HC2.out hown6 rfl hgrow6
    go_wp2_with fail
    go_roundw
    case rel => exact ⟨i + 1,_,_,true,by omega,by go_num,rfl,FIN,Or.inr ⟨rfl,HE.out⟩⟩
    case measure => simp [intOf];omega
  ·have bi:¬ (i:Int) < (l.length:Int):=by omega
   have hil:i = l.length:=by omega
   cases d
   ·have HE:Hid (out ++ [(xs,c)] = addL l xs c):=by
     rcases HOR.out with ⟨_,h1,h2⟩ | ⟨h1,_⟩
     ·rw [Hid,h2,h1,hil,List.drop_length];rfl
     ·cases h1
    clear hil
    go_wp2_with (at_builtin;refine wpList_append_own _ rfl (.tmp 77) (.tmp 81) 33 rfl w.heap.size 103 i0 (.agg #[.slice none 0 0,.int .i64 0]) 2 32 Tryz.underlying33 HI.out HZ0.out HZ1.out HZ2.out rfl (by decide) (.slice oa out.length ocap) _ _ rfl (ho.alloc _) ⟨wr.heap.size,0,none⟩ 1 1 [.slice va xs.length vcap,.int .i64 c] rfl rfl (vtwo_new _ _ _ _) (by intro u hu;simp at hu;rcases hu with rfl | rfl <;> rfl) (by unfold maxLen;omega) (by omega) (by simp;omega) ?_;intro v6 w6 hown6 hgrow6 hx6;clear hx6;obtain ⟨oa6,ocap6,rfl⟩:=vown_form hown6)
    have FIN:=OutS.snoc (V:=xs) HO.out ((Below.refl _ _).alloc (Nat.le_refl _) _) HV.out hown6 rfl hgrow6
    go_ret
    exact ⟨_,rfl,by rw [← HE.out];exact FIN.read hB,FIN.blw⟩
   ·have HE:Hid (out = addL l xs c):=by
     rcases HOR.out with ⟨h1,_⟩ | ⟨_,h1⟩
     ·cases h1
     ·rw [Hid,← h1,hil,List.drop_length,List.append_nil]
    clear hil
    go_wp2_with fail
    go_ret
    exact ⟨_,rfl,by rw [← HE.out];exact HO.out.read hB,HO.out.blw⟩
def tOf (t:Int × Int):Bool × Int:=if t.1 < 0 then (false,t.2) else (true,t.1)
theorem tcells_two (ts:List (Int × Int)) (k:Nat) (hk:k < ts.length):(K.tcells ts)[k * 2]? = some (.int .i64 ts[k].1) /\ (K.tcells ts)[k * 2 + 1]? = some (.int .i64 ts[k].2):=by
 induction ts generalizing k with
 | nil => simp at hk
 | cons d l ih =>
  cases k with
  | zero => simp [K.tcells]
  | succ k =>
   have:=ih k (by simpa using hk)
   have e:K.tcells (d :: l) = [.int .i64 d.1,.int .i64 d.2] ++ K.tcells l:=by simp [K.tcells]
   rw [e,show (k + 1) * 2 = k * 2 + 2 by omega,List.getElem?_append_right (by simp),List.getElem?_append_right (by simp)]
   simpa using this
def cpK (o:List Int) (k:Nat):List Int:=o.take k ++ List.replicate (o.length - k) 0
theorem cpK_len (o:List Int) (k:Nat) (hk:k <= o.length):(cpK o k).length = o.length:=by simp [cpK];omega
theorem cpK_end (o:List Int):cpK o o.length = o:=by simp [cpK]
theorem i64s_at (o:List Int) (k:Nat) (hk:k < o.length):(i64s o)[k]? = some (.int .i64 (o.getD k 0)):=by
 unfold i64s
 rw [List.getElem?_map,List.getElem?_eq_getElem hk,List.getD_eq_getElem?_getD,List.getElem?_eq_getElem hk];rfl
theorem i64s_set (o:List Int) (k:Nat) (n:Int):(i64s o).set k (.int .i64 n) = i64s (o.set k n):=by
 unfold i64s;rw [List.map_set]
theorem fit_step (ts:List (Int × Int)) (xs o:List Int) (k:Nat) (hk:k < ts.length) (hx:k < xs.length):fitP ((ts.map tOf).drop k) (xs.drop k) o = if (tOf ts[k]).1 = true then
   if o.getD (tOf ts[k]).2.toNat 0 < 0 then fitP ((ts.map tOf).drop (k + 1)) (xs.drop (k + 1)) (o.set (tOf ts[k]).2.toNat (xs.getD k 0))
   else if o.getD (tOf ts[k]).2.toNat 0 = xs.getD k 0 then fitP ((ts.map tOf).drop (k + 1)) (xs.drop (k + 1)) o else none
  else if (tOf ts[k]).2 = xs.getD k 0 then fitP ((ts.map tOf).drop (k + 1)) (xs.drop (k + 1)) o else none:=by
 have e1:(ts.map tOf).drop k = tOf ts[k] :: (ts.map tOf).drop (k + 1):=by
  rw [List.drop_eq_getElem_cons (by simpa using hk),List.getElem_map]
 have e2:xs.drop k = xs[k] :: xs.drop (k + 1):=List.drop_eq_getElem_cons hx
 have e3:xs.getD k 0 = xs[k]:=by rw [List.getD_eq_getElem?_getD,List.getElem?_eq_getElem hx];rfl
 rw [e1,e2,fitP,e3]
 rfl
def FitC (w:World) (r:Option (List Int)) (q:Value):Prop:=∃ v b,q = .tuple #[v,.bool b] /\ ((b = true /\ ∃ o',r = some o' /\ Reads w v o') ∨ (b = false /\ r = none /\ v = .slice none 0 0))
theorem own_reads {w:World} {base:Nat} {v:Value} {o:List Int} (h:w.ownsRow base 3 1 v o.length (i64s o)):Reads w v o:=reads_own h rfl
structure FS (w wr:World) (OB:Nat) (rel:ByteArray) (tv uv:Value) (at_ by_:Int) (o:List Int):Prop where
 row:wr.ownsRow OB 3 1 (.slice (some ⟨OB,0,none⟩) o.length o.length) o.length (i64s o)
 blw:Below w.heap.size w wr
 b0:wr.heap[w.heap.size]? = some (.cells #[.string rel,tv,.int .i64 at_] 138 (0,0))
 b1:wr.heap[w.heap.size + 1]? = some (.cells #[uv,.int .i64 by_] 103 (0,0))
theorem FS.set {w wr:World} {OB:Nat} {rel:ByteArray} {tv uv:Value} {at_ by_:Int} {o:List Int} (h:FS w wr OB rel tv uv at_ by_ o) (hOB:w.heap.size + 1 < OB) (k:Nat) (n:Int):FS w (wr.setCell ⟨OB,k,none⟩ (.int .i64 n)) OB rel tv uv at_ by_ (o.set k n):=by
 refine ⟨?_,h.blw.setCell (p:=⟨OB,k,none⟩) (show w.heap.size <= OB by omega) _,?_,?_⟩
 ·rw [List.length_set,← i64s_set];exact (h.row.stored k (.int .i64 n)).1
 ·rw [Below.heap_setCell _ _ _ _ (show w.heap.size ≠ OB by omega)];exact h.b0
 ·rw [Below.heap_setCell _ _ _ _ (show w.heap.size + 1 ≠ OB by omega)];exact h.b1
theorem FS.alloc {w wr:World} {OB:Nat} {rel:ByteArray} {tv uv:Value} {at_ by_:Int} {o:List Int} (h:FS w wr OB rel tv uv at_ by_ o) (x:Obj):FS w (wr.alloc x) OB rel tv uv at_ by_ o :=
 ⟨h.row.alloc _,h.blw.alloc h.blw.size _,(Below.heap_alloc _ _ _ (vlt_of_block h.b0)).trans h.b0,(Below.heap_alloc _ _ _ (vlt_of_block h.b1)).trans h.b1⟩
theorem cpK_set (o:List Int) (k:Nat) (hk:k < o.length):(cpK o k).set k (o.getD k 0) = cpK o (k + 1):=by
 have e:o.getD k 0 = o[k]:=by rw [List.getD_eq_getElem?_getD,List.getElem?_eq_getElem hk];rfl
 unfold cpK
 rw [List.set_append_right _ _ (by simp;omega),e,List.take_succ_eq_append_getElem hk,List.append_assoc]
 congr 1
 rw [List.length_take,Nat.min_eq_left (by omega),Nat.sub_self,show o.length - k = (o.length - (k + 1)) + 1 by omega,List.replicate_succ]
 rfl
theorem fits_any (rel:ByteArray) (tv uv ov:Value) (at_ by_:Int) (base:Nat) (ts:List (Int × Int)) (xs o:List Int) (w:World) (ht:w.ownsRow base 203 2 tv ts.length (K.tcells ts)) (hu:Reads w uv xs) (ho:Reads w ov o) (h6:o.length <= 6) (hl:ts.length <= 100) (hx:ts.length <= xs.length) (hv:∀ t,t ∈ ts -> t.1 < o.length) :
  Calls Tryz.prog 71 #[.agg #[.string rel,tv,.int .i64 at_],.agg #[uv,.int .i64 by_],ov] w fun e w' => ∃ q,e = .returned q /\ FitC w' (fitP (ts.map tOf) xs o) q /\ Below w.heap.size w w':=by
 obtain ⟨ta,tcap,rfl⟩:=vown_form ht
 obtain ⟨ua,ucap,rfl,hu2⟩:=hu
 obtain ⟨oa,ocap,rfl,ho2⟩:=ho
 have HT:Hid (w.ownsRow base 203 2 (.slice ta ts.length tcap) ts.length (K.tcells ts)):=ht
 have HU:Hid _:=hu2
 have HO:Hid _:=ho2
 have HV:Hid _:=hv
 obtain ⟨F,hF⟩:∃ F,fitP (ts.map tOf) xs o = F:=⟨_,rfl⟩
 have HF:Hid _:=hF
 rw [hF]
 obtain ⟨i0,hi0,hz0,hz1,hz2⟩:=info_parts Tryz.info3
 clear ht hu2 ho2 hv hF
 go_enter Tryz.func71,Tryz.ntmps71
 go_wp2_with (at_make;refine wpList_make_full _ rfl (.tmp 14) (.tmp 14) 28 rfl (w.heap.size + 2) 3 i0 (.int .i64 0) 1 Tryz.underlying28 hi0 hz0 hz1 .i64 .i64 (o.length:Int) (o.length:Int) o.length rfl rfl rfl rfl (by rw [hz2];omega) (by unfold maxLen;omega) (by simp) ?_;intro w1 hown1 hgrow1)
 have bx0:((w.alloc (.cells #[.string rel,.slice ta ts.length tcap,.int .i64 at_] 138)).alloc (.cells #[.slice ua xs.length ucap,.int .i64 by_] 103)).heap[w.heap.size]? = some (.cells #[.string rel,.slice ta ts.length tcap,.int .i64 at_] 138 (0,0)):=by
  rw [Below.heap_alloc _ _ _ (by simp)];exact vheap_alloc_new _ _
 have bx1:((w.alloc (.cells #[.string rel,.slice ta ts.length tcap,.int .i64 at_] 138)).alloc (.cells #[.slice ua xs.length ucap,.int .i64 by_] 103)).heap[w.heap.size + 1]? = some (.cells #[.slice ua xs.length ucap,.int .i64 by_] 103 (0,0)):=by
  have:=vheap_alloc_new (w.alloc (.cells #[.string rel,.slice ta ts.length tcap,.int .i64 at_] 138)) (.cells #[.slice ua xs.length ucap,.int .i64 by_] 103)
  simpa using this
 have hb1:Below w.heap.size w w1:=(((Below.refl _ _).alloc (Nat.le_refl _) _).alloc (by simp) _).grown hgrow1 (by simp;omega) (fun k e => by cases e)
 have cx0:=(hgrow1.block w.heap.size (by simp;omega) (by simp)).trans bx0
 have cx1:=(hgrow1.block (w.heap.size + 1) (by simp) (by simp)).trans bx1
 have hmk:i64s (cpK o 0) = List.replicate o.length (.int .i64 0):=by simp [i64s,cpK]
 rw [made_ints,← hmk] at hown1
 simp only [World.size_alloc] at hown1
 clear hgrow1 hi0 hz0 hz1 hz2 bx0 bx1 hmk
 obtain ⟨OB,hOB⟩:∃ OB,w.heap.size + 1 + 1 = OB:=⟨_,rfl⟩
 have hOB2:w.heap.size + 1 < OB:=by omega
 rw [show w.heap.size + 2 = OB by omega] at hown1
 rw [hOB]
 have hF0:FS w w1 OB rel (.slice ta ts.length tcap) (.slice ua xs.length ucap) at_ by_ (cpK o 0):=⟨by rw [cpK_len o 0 (Nat.zero_le _)];exact hown1,hb1,cx0,cx1⟩
 clear hOB hown1 hb1 cx0 cx1
 go_loopw [9] (fun iv wr => ∃ k:Nat,k <= o.length /\ iv = .int .i64 k /\ FS w wr OB rel (.slice ta ts.length tcap) (.slice ua xs.length ucap) at_ by_ (cpK o k)) (fun iv _ => o.length - (intOf iv).toNat)
 case atStart => exact ⟨0,Nat.zero_le _,rfl,hF0⟩
 case round =>
  clear hF0
  obtain ⟨k,hk,rfl,hS⟩:=hrel
  by_cases hlt:k < o.length
  ·obtain ⟨og,oo,rfl,q⟩:=HO.out (by omega)
   have y0:=(Fr.of_below (M:=fun _ => False) hS.blw).cell (mps_none _) (q k hlt)
   have hlen:=cpK_len o k hk
   have z0:=(hS.row.cellAt k (by rw [hlen];omega)).trans (i64s_at (cpK o k) k (by rw [hlen];exact hlt))
   have f0:=hS.row.frozenAt k
   have hN:=hS.set hOB2 k (o.getD k 0)
   rw [cpK_set o k hlt] at hN
   have lOB:=(hS.row.lt _ rfl).2
   obtain ⟨X,hX⟩:∃ X,o.getD k 0 = X:=⟨_,rfl⟩
   rw [hX] at y0 hN
   have HN:Hid _:=hN
   have bk:(k:Int) < (o.length:Int):=by omega
   have lo:=World.block_lt_of_cell? _ _ y0
   clear q hlen hX hN hS
   go_wp2_with fail
   go_roundw
   case rel => exact ⟨k + 1,by omega,by go_num,HN.out⟩
   case measure => simp [intOf];omega
  ·have bk:¬ (k:Int) < (o.length:Int):=by omega
   have hko:k = o.length:=by omega
   rw [hko,cpK_end] at hS
   clear hko
   have HFX:Hid (fitP ((ts.map tOf).drop 0) (xs.drop 0) o = F):=HF.out
   have d0:wr.cell? ⟨w.heap.size,1,none⟩ = some (.slice ta ts.length tcap):=by simp [World.cell?,hS.b0]
   go_upto_region 7 with fail
   go_loopw [10,11,12] (fun iv _ _ wx => ∃ (j:Nat) (o':List Int),j <= ts.length /\ iv = .int .i64 j /\ o'.length = o.length /\ FS w wx OB rel (.slice ta ts.length tcap) (.slice ua xs.length ucap) at_ by_ o' /\ fitP ((ts.map tOf).drop j) (xs.drop j) o' = F) (fun iv _ _ _ => ts.length - (intOf iv).toNat)
   case atStart => exact ⟨0,o,Nat.zero_le _,rfl,rfl,hS,HFX.out⟩
   case round =>
    clear hS d0 HFX
    obtain ⟨j,o',hj,rfl,hol,hS,hfx⟩:=hrel
    obtain ⟨w2,hw2⟩:∃ w2:World,w2 = wr:=⟨_,rfl⟩
    subst hw2
    have HOL:Hid _:=hol
    have HSS:Hid _:=hS
    have d0:w2.cell? ⟨w.heap.size,1,none⟩ = some (.slice ta ts.length tcap):=by simp [World.cell?,hS.b0]
    have d1:w2.cell? ⟨w.heap.size + 1,0,none⟩ = some (.slice ua xs.length ucap):=by simp [World.cell?,hS.b1]
    have ls:=World.block_lt_of_cell? _ _ d1
    by_cases hjl:j < ts.length
    ·have bj:(j:Int) < (ts.length:Int):=by omega
     have bjx:(j:Int) < (xs.length:Int):=by omega
     obtain ⟨tg,tcap',he⟩:=vown_some HT.out (by omega)
     simp only [Value.slice.injEq,true_and] at he
     obtain ⟨rfl,rfl⟩:=he
     obtain ⟨ug,uo,rfl,q⟩:=HU.out (by omega)
     have hfb:=Fr.of_below (M:=fun _ => False) hS.blw
     obtain ⟨x0,x1⟩:=tcells_two ts j hjl
     have y0:=hfb.cell (mps_none _) ((HT.out.cellAt (j * 2) (by omega)).trans x0)
     have y1:=hfb.cell (mps_none _) ((HT.out.cellAt (j * 2 + 1) (by omega)).trans x1)
     have y2:=hfb.cell (mps_none _) (q j (by omega))
     have ly2:=World.block_lt_of_cell? _ _ y2
     have ly0:=World.block_lt_of_cell? _ _ y0
     have hvt:=HV.out ts[j] (List.getElem_mem hjl)
     rw [fit_step ts xs o' j hjl (by omega)] at hfx
     obtain ⟨T1,T2,hTT⟩:∃ T1 T2,ts[j] = (T1,T2):=⟨_,_,rfl⟩
     obtain ⟨X,hX⟩:∃ X,xs.getD j 0 = X:=⟨_,rfl⟩
     rw [hTT] at y0 y1 hvt hfx
     rw [hX] at y2 hfx
     have hSA:=FS.alloc hS (.cells #[.int .i64 T1,.int .i64 T2] 203)
     have HSA:Hid _:=hSA
     clear x0 x1 q hTT hX hfb
     by_cases hneg:T1 < 0
     ·rw [show tOf (T1,T2) = (false,T2) from if_pos hneg] at hfx
      simp only [Bool.false_eq_true,if_false] at hfx
      by_cases hxt:T2 = X
      ·rw [if_pos hxt] at hfx
       have HFX:Hid _:=hfx
       have hne:(T2 != X) = false:=by simp [hxt]
       clear hfx hxt hS hSA hol
       go_wp2_with fail
       go_roundw
       case rel => exact ⟨j + 1,o',by omega,by go_num,HOL.out,HSA.out,HFX.out⟩
       case measure => simp [intOf];omega
      ·rw [if_neg hxt] at hfx
       have HFX:Hid _:=hfx
       have hne:(T2 != X) = true:=by simp [hxt]
       clear hfx hxt hS hSA hol
       go_wp2_with fail
       go_ret2
       exact ⟨_,rfl,⟨_,false,rfl,Or.inr ⟨rfl,HFX.out.symm,rfl⟩⟩,HSA.out.blw⟩
     ·obtain ⟨N,rfl⟩:∃ N:Nat,T1 = (N:Int):=⟨T1.toNat,by omega⟩
      rw [show tOf ((N:Int),T2) = (true,(N:Int)) from if_neg hneg] at hfx
      simp only [if_true,Int.toNat_natCast] at hfx
      have hNl:N < o'.length:=by rw [HOL.out];omega
      have z0:=(hS.row.cellAt N (by omega)).trans (i64s_at o' N hNl)
      have f0:=hS.row.frozenAt N
      have bN:(N:Int) < (o.length:Int):=by omega
      have lOB:=(hS.row.lt _ rfl).2
      have hSN:=(hS.set hOB2 N X).alloc (.cells #[.int .i64 (N:Int),.int .i64 T2] 203)
      have HSN:Hid _:=hSN
      obtain ⟨Y,hY⟩:∃ Y,o'.getD N 0 = Y:=⟨_,rfl⟩
      replace hfx:(if o'.getD N 0 < 0 then fitP ((ts.map tOf).drop (j + 1)) (xs.drop (j + 1)) (o'.set N X) else if o'.getD N 0 = X then fitP ((ts.map tOf).drop (j + 1)) (xs.drop (j + 1)) o' else none) = F:=hfx
      rw [hY] at z0 hfx
      have hlN:(o'.set N X).length = o.length:=by rw [List.length_set];exact HOL.out
      have HLN:Hid _:=hlN
      clear hY hS hSA hSN hol hlN hneg
      by_cases hyn:Y < 0
      ·rw [if_pos hyn] at hfx
       have HFX:Hid _:=hfx
       clear hfx
       go_wp2_with fail
       go_roundw
       case rel => exact ⟨j + 1,_,by omega,by go_num,HLN.out,HSN.out,HFX.out⟩
       case measure => simp [intOf];omega
      ·rw [if_neg hyn] at hfx
       by_cases hyx:Y = X
       ·rw [if_pos hyx] at hfx
        have HFX:Hid _:=hfx
        have hne:(Y != X) = false:=by simp [hyx]
        clear hfx hyx
        go_wp2_with fail
        go_roundw
        case rel => exact ⟨j + 1,o',by omega,by go_num,HOL.out,HSA.out,HFX.out⟩
        case measure => simp [intOf];omega
       ·rw [if_neg hyx] at hfx
        have HFX:Hid _:=hfx
        have hne:(Y != X) = true:=by simp [hyx]
        clear hfx hyx
        go_wp2_with fail
        go_ret2
        exact ⟨_,rfl,⟨_,false,rfl,Or.inr ⟨rfl,HFX.out.symm,rfl⟩⟩,HSA.out.blw⟩
    ·have bj:¬ (j:Int) < (ts.length:Int):=by omega
     have hjj:j = ts.length:=by omega
     rw [hjj,show (ts.map tOf).drop ts.length = [] from List.drop_of_length_le (by simp),fitP] at hfx
     have HFX:Hid _:=hfx
     clear hfx hjj hS hol
     go_wp2_with fail
     go_ret2
     exact ⟨_,rfl,⟨_,true,rfl,Or.inl ⟨rfl,o',HFX.out.symm,by rw [← HOL.out];exact own_reads HSS.out.row⟩⟩,HSS.out.blw⟩
end Go.Proofs.YtondkinefmjpjaaGreat
