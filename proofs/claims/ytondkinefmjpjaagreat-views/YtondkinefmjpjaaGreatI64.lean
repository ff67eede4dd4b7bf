import Derived.Test.YtondkinefmjpjaaGreatI54
import Derived.Test.YtondkinefmjpjaaGreatI55
import Derived.Test.YtondkinefmjpjaaGreatI57
import Derived.Test.YtondkinefmjpjaaGreatI59
import Derived.Test.YtondkinefmjpjaaGreatI60
import Derived.Test.YtondkinefmjpjaaGreatI61
import Derived.Test.YtondkinefmjpjaaGreatI62
set_option maxHeartbeats 2000000
set_option maxRecDepth 100000
namespace Go.Proofs.YtondkinefmjpjaaGreat
open Go.RowKit
theorem jS_mul (P:PlanD) (RR:Nat -> Rws) (ys:List Int):∀ (is:List Nat) (o:List Int) (c d:Int),jS P RR is o (c * d) ys = c * jS P RR is o d ys
 | [],o,c,d => by
  unfold jS
  split
  ·rfl
  ·rw [Int.mul_zero]
 | i :: is,o,c,d => by
  unfold jS
  rw [← S_mul]
  refine S_congr fun r _ => ?_
  cases fitP (P.pat i) r.1 o with
  | none => rw [Int.mul_zero]
  | some o' => dsimp only;rw [Int.mul_assoc,jS_mul P RR ys is o' c]
theorem jS_wr (P:PlanD) (RR:Nat -> Rws) (ys:List Int) (is:List Nat) (o:List Int) (c:Int):wr (jS P RR is o (wr c) ys) = wr (jS P RR is o c ys):=by
 have h1:=jS_mul P RR ys is o (wr c) 1
 have h2:=jS_mul P RR ys is o c 1
 rw [Int.mul_one] at h1 h2
 rw [h1,h2,← wr_mul,wr_self,wr_mul]
theorem wr_two {a b c d:Int} (h1:wr a = wr b) (h2:wr c = wr d):wr (a + c) = wr (b + d):=by rw [← wr_add,h1,h2,wr_add]
theorem jnL_tot (P:PlanD) (RR:Nat -> Rws) (pat:Nat -> List (Bool × Int)) (rr:Nat -> Rws) (ys:List Int):∀ (is:List Nat),(∀ i,i ∈ is -> pat i = P.pat i /\ rr i = RR (P.relOf i)) -> ∀ (o:List Int) (c:Int) (acc:Rws),wr (tK (jnL P.head pat rr is o c acc) ys) = wr (tK acc ys + jS P RR is o c ys)
 | [],_,o,c,acc => addL_tot _ _ _ _
 | i :: is,h,o,c,acc => by
  obtain ⟨h1,h2⟩:=h i (by simp)
  have ih:=jnL_tot P RR pat rr ys is (fun k hk => h k (by simp [hk]))
  unfold jnL jS
  rw [h1,h2]
  generalize RR (P.relOf i) = L
  induction L generalizing acc with
  | nil => rw [List.foldl_nil,S_nil,Int.add_zero]
  | cons r L ihL =>
   rw [List.foldl_cons,ihL,S_cons,← Int.add_assoc]
   refine wr_two ?_ rfl
   cases fitP (P.pat i) r.1 o with
   | none => dsimp only;rw [Int.add_zero]
   | some o' =>
    dsimp only
    rw [ih,← wr_add_r,jS_wr,wr_add_r]
theorem jnL_rise {head:List Nat} {pat:Nat -> List (Bool × Int)} {rr:Nat -> Rws}:∀ (is:List Nat) (o:List Int) (c:Int) (acc:Rws),wr c = c -> RsL acc -> NzL acc -> RsL (jnL head pat rr is o c acc) /\ NzL (jnL head pat rr is o c acc)
 | [],o,c,acc,hc,h1,h2 => ⟨addL_rise h1,addL_nz h2 hc⟩
 | i :: is,o,c,acc,hc,h1,h2 => by
  unfold jnL
  refine foldl_ind (fun b => RsL b /\ NzL b) _ _ _ ⟨h1,h2⟩ (fun b a _ hb => ?_)
  split
  ·exact jnL_rise is _ _ _ (wr_self _) hb.1 hb.2
  ·exact hb
theorem rows_nilL:RsL [] /\ NzL []:=⟨List.Pairwise.nil,fun _ h => by cases h⟩
def totP (P:PlanD) (f:List Int -> Int) (ys:List Int):Int:=Sg (boxN 6) fun a => if hvals P.head a = ys then f a else 0
theorem wr_Sg {α:Type} {l:List α} {f g:α -> Int} (h:∀ x,x ∈ l -> wr (f x) = wr (g x)):wr (Sg l f) = wr (Sg l g):=by
 induction l with
 | nil => rfl
 | cons x l ih => rw [S_cons,S_cons];exact wr_two (h x (by simp)) (ih (fun y hy => h y (by simp [hy])))
theorem rows_totP {N:Nat} {v:List Int -> List Int} {f:List Int -> Int} {l:Rws} (h:l.Perm (rowsL v f (live N f))) (ys:List Int):wr (tK l ys) = wr (Sg (boxN N) fun a => if v a = ys then f a else 0):=by
 unfold tK
 rw [S_perm h]
 unfold rowsL live
 rw [S_map,S_filter]
 refine wr_Sg fun a _ => ?_
 by_cases e:v a = ys
 ·rw [if_pos e,if_pos e]
  by_cases z:wr (f a) = 0
  ·rw [if_neg (by simp [z]),z];rfl
  ·rw [if_pos (by simpa using z),wr_self]
 ·rw [if_neg e,if_neg e]
  split <;> rfl
theorem rows_nzP {N:Nat} {v:List Int -> List Int} {f:List Int -> Int} {l:Rws} (h:l.Perm (rowsL v f (live N f))):NzL l:=by
 intro r hr
 have:=h.mem_iff.1 hr
 unfold rowsL at this
 obtain ⟨a,ha,rfl⟩:=List.mem_map.1 this
 exact ⟨(mem_live.1 ha).2,wr_self _⟩
theorem rise_all {l:Rws} (h:Rise l):RsL l:=by
 unfold RsL
 rw [List.pairwise_iff_getElem]
 intro i j hi hj hij
 have hat:∀ j (hj:j < l.length),rAt l j = l[j]:=fun j hj => by unfold rAt;rw [List.getD_eq_getElem?_getD,List.getElem?_eq_getElem hj];rfl
 have key:∀ d i,i + d + 1 < l.length -> cmpL (rAt l i).1 (rAt l (i + d + 1)).1 < 0:=by
  intro d
  induction d with
  | zero => intro i hi;exact h.2 i hi
  | succ d ih => intro i hi;exact cL_trans _ _ _ (ih i (by omega)) (h.2 (i + d + 1) (by omega))
 have:=key (j - i - 1) i (by omega)
 rw [show i + (j - i - 1) + 1 = j by omega,hat i hi,hat j hj] at this
 exact this
theorem wor_sum {P:PlanD} (hH:HdOk P) (h6:∀ n,n ∈ P.head -> n < 6) (f:Nat -> List Int -> Int) (ys:List Int):totP P (P.wor f) ys = ext (orL P.ms) 0 (rst 0 []) (fun y => prodA (atomsOf P.ms f) y * hdI P ys y):=by
 have e1:∀ h,P.wor f h = Sg (boxN 6) fun y => if (rst (orL P.ms) y = y /\ rst 0 y = rst 0 []) /\ rst P.H y = h then prodA (atomsOf P.ms f) y else 0:=fun h => by
  unfold PlanD.wor Go.Proofs.YtondkinefmjpjaaGreat.wor ext
  refine S_congr fun y _ => ?_
  by_cases c:rst (orL P.ms) y = y /\ rst 0 y = rst 0 []
  ·rw [if_pos c]
   unfold hd
   dsimp only
   by_cases d:rst P.H y = h
   ·rw [if_pos d,if_pos ⟨c,d⟩,Int.mul_one]
   ·rw [if_neg d,if_neg (fun q => d q.2),Int.mul_zero]
  ·rw [if_neg c,if_neg (fun q => c q.1)]
 have e2:totP P (P.wor f) ys = Sg (boxN 6) fun h => if hvals P.head h = ys then (Sg (boxN 6) fun y => if (rst (orL P.ms) y = y /\ rst 0 y = rst 0 []) /\ rst P.H y = h then prodA (atomsOf P.ms f) y else 0) * (1:Int) else 0:=by
  unfold totP
  exact S_congr fun h _ => by rw [e1 h,Int.mul_one]
 rw [e2,S_fib (C:=fun h => hvals P.head h = ys) (D:=fun y => rst (orL P.ms) y = y /\ rst 0 y = rst 0 []) (h:=rst P.H) (E:=fun _ => (1:Int)) (boxN_nodup 6) (boxN 6) (fun y hy _ => rst_mem hy _)]
 unfold ext
 refine S_congr fun y hy => ?_
 have hv:hvals P.head (rst P.H y) = hvals P.head y:=by
  unfold hvals
  refine List.map_congr_left fun n hn => ?_
  rw [rst_at _ _ (h6 n hn),if_pos ((hH n (h6 n hn)).2 hn)]
 rw [hv]
 unfold hdI
 dsimp only
 by_cases c:rst (orL P.ms) y = y /\ rst 0 y = rst 0 []
 ·rw [if_pos c]
  by_cases d:hvals P.head y = ys
  ·rw [if_pos ⟨c,d⟩,if_pos d]
  ·rw [if_neg (fun q => d q.2),if_neg d,Int.mul_zero]
 ·rw [if_neg c,if_neg (fun q => c q.1)]
structure LnkS (P:PlanD) (nv:Nat) (l:List K.AD) (rl:List RfD):Prop where
 n:l.length = P.ms.length
 pat:∀ i,i < l.length -> patR l i = P.pat i
 rel:∀ i,i < l.length -> relR l rl i = P.relOf i
 nr:rl.length = P.rels.length
 fx:∀ t,fixOf rl t = rixOf P.rels t
 nN:∀ r,r < rl.length -> (rl.getD r rf0).2.1 = (P.rel r).2.1
 nm:∀ r,r < rl.length -> (rl.getD r rf0).1.toList = (P.rel r).1.toList
 vlt:∀ i,i < P.ms.length -> ∀ t,t ∈ P.pat i -> t.1 = true -> t.2.toNat < nv
 nv6:nv <= 6
 hlt:∀ n,n ∈ P.head -> (orL P.ms).testBit n = true /\ n < nv
 n3:∀ r,r < P.rels.length -> (P.rel r).2.1 <= 3
structure LnkD (P:PlanD) (R:Nat -> List Int -> Int) (RR:Nat -> Rws):Prop where
 rs:∀ r,RsL (RR r) /\ NzL (RR r)
 bx:∀ r,r < P.rels.length -> ∀ x,x ∈ RR r -> x.1.length = (P.rel r).2.1 /\ x.1.all okV = true
 eq:∀ r,r < P.rels.length -> ∀ t,R r t = Sg (RR r) fun x => if pad x.1 = t then x.2 else 0
theorem pad_at (xs:List Int) (i:Nat) (h:i < xs.length):(pad xs).getD i 0 = xs.getD i 0:=by
 unfold pad
 rw [List.getD_eq_getElem?_getD,List.getElem?_append_left h,← List.getD_eq_getElem?_getD]
theorem LnkD.ref {P:PlanD} {R:Nat -> List Int -> Int} {RR:Nat -> Rws} (h:LnkD P R RR) (h3:∀ r,r < P.rels.length -> (P.rel r).2.1 <= 3):RefR pad P R RR :=
 ⟨h.eq,fun r hr x hx => ⟨(h.bx r hr x hx).1,pad_box (by rw [(h.bx r hr x hx).1];exact h3 r hr) (h.bx r hr x hx).2⟩,pad_at⟩
theorem any_getD (ms:List Nat) (p:Nat -> Bool):ms.any p = (List.range ms.length).any fun i => p (ms.getD i 0):=by
 rw [Bool.eq_iff_iff,List.any_eq_true,List.any_eq_true]
 constructor
 ·rintro ⟨m,hm,hp⟩
  obtain ⟨i,hi,rfl⟩:=List.getElem_of_mem hm
  exact ⟨i,List.mem_range.2 hi,by rw [List.getD_eq_getElem?_getD,List.getElem?_eq_getElem hi];exact hp⟩
 ·rintro ⟨i,hi,hp⟩
  have hi':=List.mem_range.1 hi
  rw [List.getD_eq_getElem?_getD,List.getElem?_eq_getElem hi'] at hp
  exact ⟨_,List.getElem_mem hi',hp⟩
theorem bx_none:Bx (rst 0 []):=by
 refine ⟨rst_len _ _,fun j hj => ?_⟩
 rw [rst_at _ _ hj];simp
theorem ref_tot {P:PlanD} (hP:PlanOk P) (hQ:RelOk P) (hH:HdOk P) {R:Nat -> List Int -> Int} (hR:RowsOk P R) {nv:Nat} {l:List K.AD} {rl:List RfD} {RR:Nat -> Rws} (hS:LnkS P nv l rl) (hD:LnkD P R RR) (ys:List Int):wr (tK (refRows nv P.head l rl RR) ys) = wr (totP P (P.wor (cont P R)) ys):=by
 unfold refRows
 rw [jnL_tot P RR (patR l) (fun i => RR (relR l rl i)) ys (List.range' 0 l.length) (fun i hi => by
  have hi':i < l.length:=by
   obtain ⟨_,h2⟩:=List.mem_range'_1.1 hi
   omega
  exact ⟨hS.pat i hi',by rw [hS.rel i hi']⟩),tK_nil,Int.zero_add,hS.n,← List.range_eq_range']
 have hx0:rst 0 (rst 0 []) = rst 0 []:=rst_none _
 rw [join_is (pd:=pad) hP hQ hR (hD.ref hS.n3) hS.nv6 hS.vlt (U:=orL P.ms) hS.hlt ys (List.range P.ms.length) (fun i hi => List.mem_range.1 hi) (List.replicate nv (-1)) 0 (rst 0 []) 1 bx_none hx0 ⟨List.length_replicate,fun j hj => by
  rw [List.getD_eq_getElem?_getD,List.getElem?_eq_getElem (by simpa using hj)];simp⟩ (fun j _ => by
  rw [orL_bit,any_getD];simp),Int.one_mul,wor_sum hH hP.headlt]
 rfl
theorem ref_rise (nv:Nat) (head:List Nat) (l:List K.AD) (rl:List RfD) (RR:Nat -> Rws):RsL (refRows nv head l rl RR) /\ NzL (refRows nv head l rl RR):=jnL_rise _ _ _ _ rfl rows_nilL.1 rows_nilL.2
theorem rows_eq {P:PlanD} (hP:PlanOk P) (hQ:RelOk P) (hH:HdOk P) {R:Nat -> List Int -> Int} (hR:RowsOk P R) {nv:Nat} {l:List K.AD} {rl:List RfD} {RR:Nat -> Rws} (hS:LnkS P nv l rl) (hD:LnkD P R RR) {L:Rws} (hp:L.Perm (rowsL (hvals P.head) (P.wor (cont P R)) (live 6 (P.wor (cont P R))))) (hr:RiseL L):L = refRows nv P.head l rl RR:=by
 obtain ⟨q1,q2⟩:=ref_rise nv P.head l rl RR
 refine rows_uniq (rise_all (rows_rise hH hp hr (fun a ha => wor_fix ha))) q1 (rows_nzP hp) q2 (fun ys => ?_)
 rw [rows_totP hp ys,ref_tot hP hQ hH hR hS hD ys];rfl
theorem chL_tot (was now:Rws) (ys:List Int):wr (tK (chL was now) ys) = wr (tK now ys - tK was ys):=by
 unfold chL
 induction was generalizing now with
 | nil => exact wr_of (by rw [tK_nil];show tK now ys = _;omega)
 | cons r was ih =>
  rw [List.foldl_cons,ih,tK_cons]
  have h1:=addL_tot r.1 (wr (-r.2)) now ys
  rw [show tK (addL now r.1 (wr (-r.2))) ys - tK was ys = tK (addL now r.1 (wr (-r.2))) ys + (-(tK was ys)) by omega,← wr_add_l,h1,wr_add_l]
  split
  ·rw [show tK now ys + wr (-r.2) + -(tK was ys) = (tK now ys + -(tK was ys)) + wr (-r.2) by omega,wr_add_r];exact wr_of (by omega)
  ·exact wr_of (by omega)
theorem chL_rise {was now:Rws} (h1:RsL now) (h2:NzL now):RsL (chL was now) /\ NzL (chL was now) :=
 foldl_ind (fun b => RsL b /\ NzL b) _ _ _ ⟨h1,h2⟩ (fun _ _ _ hb => ⟨addL_rise hb.1,addL_nz hb.2 (wr_self _)⟩)
theorem chg_eq {P:PlanD} (hP:PlanOk P) (hQ:RelOk P) (hH:HdOk P) {R R':Nat -> List Int -> Int} (hR:RowsOk P R) (hR':RowsOk P R') {nv:Nat} {l:List K.AD} {rl:List RfD} {RR RR':Nat -> Rws} (hS:LnkS P nv l rl) (hD:LnkD P R RR) (hD':LnkD P R' RR') {L:Rws} (h1:RsL L) (h2:NzL L) (ht:∀ ys,wr (tK L ys) = wr (totP P (P.wor (cont P R')) ys - totP P (P.wor (cont P R)) ys)):L = chL (refRows nv P.head l rl RR) (refRows nv P.head l rl RR'):=by
 obtain ⟨q1,q2⟩:=ref_rise nv P.head l rl RR'
 obtain ⟨p1,p2⟩:=chL_rise (was:=refRows nv P.head l rl RR) q1 q2
 refine rows_uniq h1 p1 h2 p2 (fun ys => ?_)
 rw [ht,chL_tot]
 have e1:=ref_tot hP hQ hH hR hS hD ys
 have e2:=ref_tot hP hQ hH hR' hS hD' ys
 have n1:wr (-(tK (refRows nv P.head l rl RR) ys)) = wr (-(totP P (P.wor (cont P R)) ys)):=by rw [← wr_neg,e1,wr_neg]
 rw [Int.sub_eq_add_neg,Int.sub_eq_add_neg]
 exact (wr_two e2 n1).symm
theorem upd_eq {P:PlanD} (hP:PlanOk P) (hQ:RelOk P) (hH:HdOk P) {R R':Nat -> List Int -> Int} (hR:RowsOk P R) (hR':RowsOk P R') {nv:Nat} {l:List K.AD} {rl:List RfD} {RR RR':Nat -> Rws} (hS:LnkS P nv l rl) (hD:LnkD P R RR) (hD':LnkD P R' RR') {L:Rws} (hp:L.Perm (rowsL (hvals P.head) (fun a => P.wor (cont P R') a - P.wor (cont P R) a) (live 6 (fun a => P.wor (cont P R') a - P.wor (cont P R) a)))) (hr:RiseL L):L = chL (refRows nv P.head l rl RR) (refRows nv P.head l rl RR'):=by
 refine chg_eq hP hQ hH hR hR' hS hD hD' (rise_all (rows_rise hH hp hr (fun a ha => dlt_fix ha))) (rows_nzP hp) (fun ys => ?_)
 rw [rows_totP hp ys]
 refine wr_of ?_
 unfold totP
 rw [← S_sub]
 exact S_congr fun a _ => by split <;> omega
theorem tK_neg (L:Rws) (ys:List Int):wr (tK (L.map negR) ys) = wr (-(tK L ys)):=by
 induction L with
 | nil => rfl
 | cons r L ih =>
  rw [List.map_cons,tK_cons,tK_cons,wr_two (c:=tK (L.map negR) ys) (a:=if (negR r).1 = ys then (negR r).2 else 0) (b:=if r.1 = ys then -r.2 else 0) ?_ ih]
  ·exact wr_of (by split <;> omega)
  ·show wr (if r.1 = ys then wr (-r.2) else 0) = _
   split
   ·exact wr_self _
   ·rfl
theorem clr_eq {P:PlanD} (hP:PlanOk P) (hQ:RelOk P) (hH:HdOk P) {R R':Nat -> List Int -> Int} (hR:RowsOk P R) (hR':RowsOk P R') {nv:Nat} {l:List K.AD} {rl:List RfD} {RR RR':Nat -> Rws} (hS:LnkS P nv l rl) (hD:LnkD P R RR) (hD':LnkD P R' RR') (h0:∀ a,P.wor (cont P R') a = 0) {L:Rws} (hp:L.Perm (rowsL (hvals P.head) (P.wor (cont P R)) (live 6 (P.wor (cont P R))))) (hr:RiseL L):L.map negR = chL (refRows nv P.head l rl RR) (refRows nv P.head l rl RR'):=by
 have hri:=rise_all (rows_rise hH hp hr (fun a ha => wor_fix ha))
 have hnz:=rows_nzP hp
 refine chg_eq hP hQ hH hR hR' hS hD hD' ?_ ?_ (fun ys => ?_)
 ·unfold RsL;rw [List.pairwise_map];exact hri
 ·intro x hx
  obtain ⟨y,hy,rfl⟩:=List.mem_map.1 hx
  obtain ⟨n1,n2⟩:=hnz y hy
  refine ⟨fun e => n1 ?_,wr_self _⟩
  have e':wr (-y.2) = 0:=e
  have h3:wr (-(wr (-y.2))) = wr (- -y.2):=wr_neg _
  rw [e',Int.neg_neg,n2] at h3
  exact h3.symm
 ·rw [tK_neg,← wr_neg,rows_totP hp ys,wr_neg]
  refine wr_of ?_
  rw [show totP P (P.wor (cont P R')) ys = 0 from S_zero fun a _ => by rw [h0];split <;> rfl]
  unfold totP;omega
theorem pad_inj {xs ys:List Int} (hl:xs.length = ys.length) (h:pad xs = pad ys):xs = ys:=by
 unfold pad at h
 exact (List.append_inj h hl).1
theorem pad_take {xs:List Int} {n:Nat} (h:xs.length = n):(pad xs).take n = xs:=by
 subst h;unfold pad;rw [List.take_left'];rfl
theorem LnkD.val {P:PlanD} {R:Nat -> List Int -> Int} {RR:Nat -> Rws} (h:LnkD P R RR) {r:Nat} (hr:r < P.rels.length) {xs:List Int} (hx:xs.length = (P.rel r).2.1):R r (pad xs) = tK (RR r) xs:=by
 rw [h.eq r hr]
 unfold tK
 refine S_congr fun x hxm => ?_
 by_cases e:x.1 = xs
 ·rw [if_pos e,if_pos (by rw [e])]
 ·rw [if_neg e,if_neg (fun q => e (pad_inj ((h.bx r hr x hxm).1.trans hx.symm) q))]
theorem LnkD.mem {P:PlanD} {R:Nat -> List Int -> Int} {RR:Nat -> Rws} (h:LnkD P R RR) {r:Nat} (hr:r < P.rels.length) {x:List Int × Int} (hx:x ∈ RR r):R r (pad x.1) = x.2:=by
 rw [h.val hr (h.bx r hr x hx).1,tK_mem (h.rs r).1 hx]
theorem addG_sum (v:List Int) (c:Int) (t:List Int):∀ (l:Rws),(∀ x,x ∈ l -> wr (x.2 + c) = x.2 + c) -> Sg (addG v c l) (fun x => if pad x.1 = t then x.2 else 0) = Sg l (fun x => if pad x.1 = t then x.2 else 0) + if pad v = t then c else 0
 | [],_ => by unfold addG;rw [S_cons,S_nil];show (if pad v = t then c else 0) + 0 = 0 + _;omega
 | x :: l,hw => by
  have ih:=addG_sum v c t l (fun y hy => hw y (by simp [hy]))
  have hx:=hw x (by simp)
  unfold addG
  split
  ·rw [S_cons];show (if pad v = t then c else 0) + _ = _;omega
  ·split
   ·rename_i h0
    have e:=(cL_eq _ _).1 h0
    split
    ·rename_i hz
     rw [hx] at hz
     rw [S_cons,e]
     split <;> omega
    ·rw [S_cons,S_cons,e,hx]
     split <;> omega
   ·rw [S_cons,S_cons,ih];omega
theorem small_sum {a c:Int} (h1:-99 <= a /\ a <= 99) (h2:-9 <= c /\ c <= 9):wr (a + c) = a + c:=wr_small (by omega) (by omega)
theorem LnkD.upd {P:PlanD} {R:Nat -> List Int -> Int} {RR:Nat -> Rws} (h:LnkD P R RR) (hR:RowsOk P R) {r:Nat} (hr:r < P.rels.length) {xs:List Int} (hx:xs.length = (P.rel r).2.1) (hv:xs.all okV = true) {y:Int} (hy:-9 <= y /\ y <= 9):LnkD P (updR R r (pad xs) y) (putRR RR r (addL (RR r) xs y)):=by
 have hwy:wr y = y:=wr_small (by omega) (by omega)
 refine ⟨fun q => ?_,fun q hq x hxm => ?_,fun q hq t => ?_⟩
 ·unfold putRR
  split
  ·exact ⟨addL_rise (h.rs r).1,addL_nz (h.rs r).2 hwy⟩
  ·exact h.rs q
 ·unfold putRR at hxm
  by_cases e:q = r
  ·rw [if_pos e] at hxm
   subst e
   unfold addL at hxm
   split at hxm
   ·exact h.bx q hq x hxm
   ·rcases addG_key xs y (RR q) x hxm with k | ⟨z,hz,k⟩
    ·rw [k];exact ⟨hx,hv⟩
    ·rw [← k];exact h.bx q hq z hz
  ·rw [if_neg e] at hxm;exact h.bx q hq x hxm
 ·unfold updR putRR
  by_cases e:q = r
  ·subst e
   rw [if_pos rfl,if_pos rfl]
   unfold bump addL
   rw [h.eq q hq t]
   by_cases h0:y = 0
   ·rw [if_pos h0,h0];split <;> omega
   ·rw [if_neg h0,addG_sum xs y t (RR q) (fun x hxm => by rw [← h.mem hq hxm];exact small_sum (hR.bnd q hq _) hy)]
    by_cases e2:t = pad xs
    ·rw [if_pos e2,if_pos e2.symm]
    ·rw [if_neg e2,if_neg (fun k => e2 k.symm)]
  ·rw [if_neg e,if_neg e];exact h.eq q hq t
theorem upd_bad {P:PlanD} {R:Nat -> List Int -> Int} {RR:Nat -> Rws} (h:LnkD P R RR) (hR:RowsOk P R) {r:Nat} (hr:r < P.rels.length) {xs:List Int} (hx:xs.length = (P.rel r).2.1) {y:Int} (hy:-9 <= y /\ y <= 9):rowsBad (addL (RR r) xs y) = beyond (R r (pad xs) + y) 99:=by
 have hwy:wr y = y:=wr_small (by omega) (by omega)
 have hrs:RsL (addL (RR r) xs y):=addL_rise (h.rs r).1
 have hnz:NzL (addL (RR r) xs y):=addL_nz (h.rs r).2 hwy
 have hwx:∀ x,x ∈ addL (RR r) xs y -> x.1.length = (P.rel r).2.1:=fun x hxm => by
  unfold addL at hxm
  split at hxm
  ·exact (h.bx r hr x hxm).1
  ·rcases addG_key xs y (RR r) x hxm with k | ⟨z,hz,k⟩
   ·rw [k];exact hx
   ·rw [← k];exact (h.bx r hr z hz).1
 have hval:∀ x,x ∈ addL (RR r) xs y -> x.2 = R r (pad x.1) + if xs = x.1 then y else 0:=fun x hxm => by
  have h1:=addL_tot xs y (RR r) x.1
  rw [tK_mem hrs hxm,(hnz x hxm).2,← h.val hr (hwx x hxm)] at h1
  have hb:=hR.bnd r hr (pad x.1)
  rw [h1]
  refine wr_small ?_ ?_ <;> split <;> omega
 have hbn:∀ z:Int,badN z = beyond z 99:=fun _ => rfl
 rw [← hbn]
 cases hb:badN (R r (pad xs) + y)
 ·unfold rowsBad
  rw [List.any_eq_false]
  intro x hxm hbad
  have h1:=hval x hxm
  by_cases e:xs = x.1
  ·rw [if_pos e,← e] at h1
   rw [h1,hb] at hbad;cases hbad
  ·rw [if_neg e,Int.add_zero] at h1
   have h2:=hR.bnd r hr (pad x.1)
   rw [← h1] at h2
   unfold badN at hbad
   simp at hbad
   omega
 ·have hne:R r (pad xs) + y ≠ 0:=fun e => by rw [e] at hb;cases hb
  have h1:=addL_tot xs y (RR r) xs
  rw [if_pos rfl,← h.val hr hx,small_sum (hR.bnd r hr _) hy] at h1
  have hex:∃ x,x ∈ addL (RR r) xs y /\ x.1 = xs:=by
   refine Classical.byContradiction fun hn => hne ?_
   rw [← h1,tK_out (fun x hxm e => hn ⟨x,hxm,e⟩)];rfl
  obtain ⟨x,hxm,e⟩:=hex
  refine List.any_eq_true.2 ⟨x,hxm,?_⟩
  rw [hval x hxm,e,if_pos rfl];exact hb
theorem addG_new {v:List Int} {c:Int}:∀ {l:Rws},(∀ x,x ∈ l -> x.1 ≠ v) -> (addG v c l).length = l.length + 1
 | [],_ => rfl
 | x :: l,h => by
  unfold addG
  split
  ·rfl
  ·split
   ·rename_i h0;exact absurd ((cL_eq _ _).1 h0).symm (h x (by simp))
   ·rw [List.length_cons,addG_new (fun y hy => h y (by simp [hy])),List.length_cons]
theorem addG_old {v:List Int} {c:Int}:∀ {l:Rws},RsL l -> (∃ x,x ∈ l /\ x.1 = v) -> (addG v c l).length <= l.length
 | [],_,⟨x,hx,_⟩ => by cases hx
 | x :: l,hr,⟨z,hz,e⟩ => by
  have hr':=List.pairwise_cons.1 hr
  unfold addG
  split
  ·rename_i hlt
   exfalso
   rcases List.mem_cons.1 hz with k | k
   ·rw [← k,e,(cL_eq _ _).2 rfl] at hlt;omega
   ·have h1:=hr'.1 z k
    rw [e] at h1
    have:=cL_anti v x.1
    omega
  ·split
   ·split <;> simp
   ·rename_i h1 h0
    rcases List.mem_cons.1 hz with k | k
    ·exact absurd ((cL_eq _ _).2 (by rw [← k,e])) h0
    ·have:=addG_old (c:=c) hr'.2 ⟨z,k,e⟩
     simp only [List.length_cons];omega
theorem live_len {P:PlanD} {R:Nat -> List Int -> Int} {RR:Nat -> Rws} (h:LnkD P R RR) (hR:RowsOk P R) (h3:∀ r,r < P.rels.length -> (P.rel r).2.1 <= 3) {r:Nat} (hr:r < P.rels.length):(live 3 (R r)).length = (RR r).length:=by
 have hsm:∀ t,wr (R r t) = R r t:=fun t => by have:=hR.bnd r hr t;exact wr_small (by omega) (by omega)
 have hnd:((RR r).map fun x => pad x.1).Nodup:=by
  unfold List.Nodup
  rw [List.pairwise_map]
  refine (h.rs r).1.imp_of_mem fun {a b} ha hb hlt e => ?_
  rw [pad_inj ((h.bx r hr a ha).1.trans (h.bx r hr b hb).1.symm) e,(cL_eq _ _).2 rfl] at hlt
  omega
 apply Nat.le_antisymm
 ·have:=nodup_le (m:=(RR r).map fun x => pad x.1) (live_nodup 3 (R r)) (fun t ht => by
   have h1:=(mem_live.1 ht).2
   rw [hsm] at h1
   rw [h.eq r hr t] at h1
   obtain ⟨x,hx,hne⟩:=S_ne h1
   refine List.mem_map.2 ⟨x,hx,?_⟩
   exact Classical.byContradiction fun q => hne (if_neg q))
  rwa [List.length_map] at this
 ·have:=nodup_le (m:=live 3 (R r)) hnd (fun t ht => by
   obtain ⟨x,hx,rfl⟩:=List.mem_map.1 ht
   refine mem_live.2 ⟨pad_box (by rw [(h.bx r hr x hx).1];exact h3 r hr) (h.bx r hr x hx).2,?_⟩
   rw [hsm,h.mem hr hx]
   exact ((h.rs r).2 x hx).1)
  rwa [List.length_map] at this
theorem code_eq {P:PlanD} {R:Nat -> List Int -> Int} {nv:Nat} {l:List K.AD} {rl:List RfD} {RR:Nat -> Rws} (hS:LnkS P nv l rl) (h:LnkD P R RR) (hR:RowsOk P R) {r:Nat} (hr:r < P.rels.length) {name:ByteArray} (hI:rixOf P.rels name = (r:Int)) {xs:List Int} (hx:xs.length = (P.rel r).2.1) {y:Int} (hy:beyond y 9 = false) (hv:xs.all okV = true):rfCode rl RR name y xs = refus (R r (pad xs)) y (live 3 (R r)).length:=by
 have hy':-9 <= y /\ y <= 9:=by simp [beyond] at hy;omega
 unfold rfCode
 rw [hS.fx,hI,if_neg (by omega),Int.toNat_natCast,hS.nN r (by rw [hS.nr];exact hr),if_neg (by rw [hx];simp),if_neg (by omega),if_neg (by rw [hv];simp),upd_bad h hR hr hx hy']
 unfold refus
 cases hb:beyond (R r (pad xs) + y) 99
 ·simp only [Bool.false_eq_true,if_false]
  rw [live_len h hR hS.n3 hr]
  have hf:=hR.few r hr
  rw [live_len h hR hS.n3 hr] at hf
  unfold addL
  by_cases hy0:y = 0
  ·rw [if_pos hy0,if_neg (by omega),if_neg (fun q => q.2.1 hy0)]
  ·rw [if_neg hy0]
   by_cases hz:R r (pad xs) = 0
   ·have hno:∀ x,x ∈ RR r -> x.1 ≠ xs:=fun x hxm e => by
     have:=h.mem hr hxm
     rw [e,hz] at this
     exact ((h.rs r).2 x hxm).1 this.symm
    rw [addG_new hno]
    by_cases h12:(RR r).length = 12
    ·rw [if_pos (by omega),if_pos ⟨hz,hy0,h12⟩]
    ·rw [if_neg (by omega),if_neg (fun q => h12 q.2.2)]
   ·have hex:∃ x,x ∈ RR r /\ x.1 = xs:=by
     refine Classical.byContradiction fun hn => hz ?_
     rw [h.val hr hx,tK_out (fun x hxm e => hn ⟨x,hxm,e⟩)]
    have:=addG_old (c:=y) (h.rs r).1 hex
    rw [if_neg (by omega),if_neg (fun q => hz q.1)]
 ·rw [if_pos rfl,if_pos rfl]
theorem rel_eq {P:PlanD} {R:Nat -> List Int -> Int} {RR:Nat -> Rws} (h:LnkD P R RR) (hR:RowsOk P R) (h3:∀ r,r < P.rels.length -> (P.rel r).2.1 <= 3) {r:Nat} (hr:r < P.rels.length) {L:Rws} (hp:L.Perm (rowsL (fun t => t.take (P.rel r).2.1) (R r) (live 3 (R r)))) (hri:RiseL L):L = RR r:=by
 have hk:RsL L:=by
  have hnd:(L.map fun x => x.1).Nodup:=by
   have h1:(L.map fun x => x.1).Perm ((live 3 (R r)).map fun t => t.take (P.rel r).2.1):=by
    have:=hp.map (fun x => x.1)
    unfold rowsL at this
    rw [List.map_map] at this
    exact this
   refine h1.nodup_iff.2 ?_
   have h2:=live_nodup 3 (R r)
   unfold List.Nodup at h2 ⊢
   rw [List.pairwise_map]
   refine h2.imp_of_mem fun {a b} ha hb hne e => hne ?_
   have ba:=hR.box r hr a (wr_ne (mem_live.1 ha).2)
   have bb:=hR.box r hr b (wr_ne (mem_live.1 hb).2)
   have la:=box_length ba.1
   have lb:=box_length bb.1
   apply List.ext_getElem (by omega)
   intro j j1 j2
   have key:a.getD j 0 = b.getD j 0:=by
    by_cases hj:j < (P.rel r).2.1
    ·have e3:(a.take (P.rel r).2.1).getD j 0 = (b.take (P.rel r).2.1).getD j 0:=by rw [e]
     rw [List.getD_eq_getElem?_getD,List.getD_eq_getElem?_getD,List.getElem?_take,List.getElem?_take,if_pos hj,if_pos hj,← List.getD_eq_getElem?_getD,← List.getD_eq_getElem?_getD] at e3
     exact e3
    ·rw [ba.2 j (by omega),bb.2 j (by omega)]
   simpa [List.getD_eq_getElem?_getD,j1,j2] using key
  unfold RsL
  rw [List.pairwise_iff_getElem]
  intro i j hi hj hij
  have g1:=List.pairwise_iff_getElem.1 hri i j hi hj hij
  have g2:cmpL L[i].1 L[j].1 ≠ 0:=fun e => by
   have g3:=List.pairwise_iff_getElem.1 hnd i j (by simpa using hi) (by simpa using hj) hij
   simp at g3;exact g3 ((cL_eq _ _).1 e)
  have g3:=cL_anti L[i].1 L[j].1
  omega
 refine rows_uniq hk (h.rs r).1 (rows_nzP hp) (h.rs r).2 (fun ys => ?_)
 rw [rows_totP hp ys]
 refine wr_of ?_
 have e2:∀ a,(if a.take (P.rel r).2.1 = ys then R r a else 0) = if a.take (P.rel r).2.1 = ys then (Sg (RR r) fun x => if True /\ pad x.1 = a then x.2 else 0) * (1:Int) else 0:=fun a => by rw [h.eq r hr a,Int.mul_one];simp only [true_and]
 rw [S_congr fun a _ => e2 a,S_fib (C:=fun a => a.take (P.rel r).2.1 = ys) (D:=fun _ => True) (h:=fun x:List Int × Int => pad x.1) (E:=fun _ => (1:Int)) (boxN_nodup 3) (RR r) (fun x hx _ => pad_box (by rw [(h.bx r hr x hx).1];exact h3 r hr) (h.bx r hr x hx).2)]
 unfold tK
 refine S_congr fun x hx => ?_
 rw [pad_take (h.bx r hr x hx).1,Int.mul_one]
 simp only [true_and]
theorem LnkS.same {P:PlanD} {nv:Nat} {l:List K.AD} {rl rl':List RfD} (h:LnkS P nv l rl) (hs:SameN rl rl'):LnkS P nv l rl' :=
 ⟨h.n,h.pat,fun i hi => by rw [hs.relR];exact h.rel i hi,by rw [hs.len];exact h.nr,fun t => by rw [hs.fix];exact h.fx t,fun r hr => by rw [(hs.nam r (by rw [← hs.len];exact hr)).2];exact h.nN r (by rw [← hs.len];exact hr),fun r hr => by rw [(hs.nam r (by rw [← hs.len];exact hr)).1];exact h.nm r (by rw [← hs.len];exact hr),h.vlt,h.nv6,h.hlt,h.n3⟩
theorem same_put (rl:List RfD) (r:Nat) (v:Value):SameN rl (putV rl r v):=(SameN.refl rl).put r v
theorem namR_eq {P:PlanD} {nv:Nat} {l:List K.AD} {rl:List RfD} (h:LnkS P nv l rl) (names:List ByteArray) {r:Nat} (hr:r < rl.length):namR rl names r = namS P names r:=by
 unfold namR namS
 congr 1
 rw [Bool.eq_iff_iff,List.any_eq_true,List.any_eq_true]
 have e:=h.nm r hr
 constructor
 ·rintro ⟨s,hs,hp⟩;exact ⟨s,hs,by rw [beq_iff_eq] at hp ⊢;rw [← e,hp]⟩
 ·rintro ⟨s,hs,hp⟩;exact ⟨s,hs,by rw [beq_iff_eq] at hp ⊢;rw [e,hp]⟩
theorem LnkD.clr {P:PlanD} {R:Nat -> List Int -> Int} {RR:Nat -> Rws} (h:LnkD P R RR) (S S':Nat -> Bool) (hS:∀ r,r < P.rels.length -> S' r = S r):LnkD P (clrR S R) (clrRR S' P.rels.length RR):=by
 refine ⟨fun q => ?_,fun q hq x hx => ?_,fun q hq t => ?_⟩
 ·unfold clrRR;split
  ·exact rows_nilL
  ·exact h.rs q
 ·unfold clrRR at hx;split at hx
  ·cases hx
  ·exact h.bx q hq x hx
 ·unfold clrR clrRR
  by_cases e:S q = true
  ·rw [if_pos e,if_pos ⟨hq,by rw [hS q hq];exact e⟩];rfl
  ·rw [if_neg e,if_neg (fun k => e (by rw [← hS q hq];exact k.2))];exact h.eq q hq t
theorem tot_ref {head:List Nat} {xs:List Int} {f:List Int -> Int} {L:Rws} (hp:L.Perm (rowsL (hvals head) f (live 6 f))):wr (rtot L xs) = wr (Sg (live 6 f) (totT head xs f)):=by
 unfold rtot
 rw [S_perm hp]
 unfold rowsL
 rw [S_map]
 refine wr_Sg fun a _ => ?_
 unfold totT
 dsimp only
theorem code_name {P:PlanD} {nv:Nat} {l:List K.AD} {rl:List RfD} (RR:Nat -> Rws) (hS:LnkS P nv l rl) {name:ByteArray} (hI:rixOf P.rels name = -1) (y:Int) (xs:List Int):rfCode rl RR name y xs = 5:=by
 unfold rfCode;rw [hS.fx,hI,if_pos (by omega)]
theorem code_shape {P:PlanD} {nv:Nat} {l:List K.AD} {rl:List RfD} (RR:Nat -> Rws) (hS:LnkS P nv l rl) {name:ByteArray} {r:Nat} (hr:r < P.rels.length) (hI:rixOf P.rels name = (r:Int)) (y:Int) {xs:List Int} (hx:xs.length ≠ (P.rel r).2.1):rfCode rl RR name y xs = 6:=by
 unfold rfCode;rw [hS.fx,hI,if_neg (by omega),Int.toNat_natCast,hS.nN r (by rw [hS.nr];exact hr),if_pos hx]
theorem code_range {P:PlanD} {nv:Nat} {l:List K.AD} {rl:List RfD} (RR:Nat -> Rws) (hS:LnkS P nv l rl) {name:ByteArray} {r:Nat} (hr:r < P.rels.length) (hI:rixOf P.rels name = (r:Int)) {y:Int} {xs:List Int} (hx:xs.length = (P.rel r).2.1) (hb:(beyond y 9 || !xs.all okV) = true):rfCode rl RR name y xs = 8:=by
 unfold rfCode
 rw [hS.fx,hI,if_neg (by omega),Int.toNat_natCast,hS.nN r (by rw [hS.nr];exact hr),if_neg (by rw [hx];simp)]
 by_cases h1:y < -9 ∨ 9 < y
 ·rw [if_pos h1]
 ·rw [if_neg h1,if_pos]
  have:beyond y 9 = false:=by
   unfold beyond
   rw [decide_eq_false (by omega),decide_eq_false (by omega)];rfl
  rw [this,Bool.false_or] at hb
  simpa using hb
theorem VSt.ref {B rbase:Nat} {M:Nat -> Prop} {w w':World} {vb:Nat} {P:PlanD} {rb ib:List Nat} {wb:Nat} {R:Nat -> List Int -> Int} {g:Nat -> List Int -> Option Nat} {own:Nat -> Option (Nat × List Int)} (h:VSt w vb P rb ib wb R g own) (hf:Fr M w w') (hm:T140 B rbase w M):VSt w' vb P rb ib wb R g own:=by
 obtain ⟨c,hb⟩:=h.hb
 have hblk:∀ {b:Nat} {c:Array Value} {t:TypeId} {z:Nat × Nat},w.heap[b]? = some (.cells c t z) -> t ≠ 140 -> w'.heap[b]? = w.heap[b]?:=fun {b c t z} e ht => hf.block b (vlt_of_block e) (fun k => by obtain ⟨_,_,c',e'⟩:=hm b k;rw [e] at e';simp at e';exact ht e'.2.1)
 have hmap:∀ {b c:Nat} {es:Array MapEntry},w.heap[b]? = some (.map es c) -> w'.heap[b]? = w.heap[b]?:=fun {b c es} e => hf.block b (vlt_of_block e) (fun k => by obtain ⟨_,_,c',e'⟩:=hm b k;rw [e] at e';cases e')
 have hown:∀ {base e size:Nat} {v:Value} {n:Nat} {xs:List Value},w.ownsRow base e size v n xs -> e ≠ 140 -> w'.ownsRow base e size v n xs:=fun {base e size v n xs} ho he => by
  refine ⟨ho.1,?_⟩
  rcases ho.2 with hn | ⟨g,cap,cur,rfl,h1,h2,rest⟩
  ·exact .inl hn
  ·exact .inr ⟨g,cap,cur,rfl,h1,(hblk h2 he).trans h2,rest⟩
 have e:=hblk hb (by decide)
 obtain ⟨rv,b1,r1,r2⟩:=h.rows
 obtain ⟨iv,b2,i1,i2⟩:=h.ixs
 have hn:∀ i p,own i = some p -> w'.heap[i]? = w.heap[i]?:=fun i p hp => by
  obtain ⟨es,k,e⟩:=h.W.m i p hp
  exact hmap e
 have hpl:PlanSt w' vb P:=by
  obtain ⟨⟨hv,b1,h1,h2⟩,h3,⟨rv,b2,rvs,h4,h5,h6,h7⟩,⟨av,b3,pvs,h8,h9,h10,h11⟩,⟨lv,b4,h12,h13⟩,⟨wv,b5,wvs,h14,h15,h16,h17⟩⟩:=h.pl
  exact ⟨⟨hv,b1,cell_of_block h1 e,hown h2 (by decide)⟩,cell_of_block h3 e,⟨rv,b2,rvs,cell_of_block h4 e,hown h5 (by decide),h6,fun k hk => let ⟨b',h⟩:=h7 k hk;⟨b',hown h (by decide)⟩⟩,⟨av,b3,pvs,cell_of_block h8 e,hown h9 (by decide),h10,fun k hk => let ⟨b',h⟩:=h11 k hk;⟨b',hown h (by decide)⟩⟩,⟨lv,b4,cell_of_block h12 e,hown h13 (by decide)⟩,⟨wv,b5,wvs,cell_of_block h14 e,hown h15 (by decide),h16,fun k hk => let ⟨b',h⟩:=h17 k hk;⟨b',hown h (by decide)⟩⟩⟩
 refine ⟨h.ok,h.rel,h.rok,⟨c,e.trans hb⟩,cell_of_block h.h0 e,hpl,⟨rv,b1,cell_of_block r1 e,hown r2 (by decide)⟩,⟨iv,b2,cell_of_block i1 e,hown i2 (by decide)⟩,cell_of_block h.wo e,h.hrb,h.hil,fun r hr => ⟨(h.cr r hr).1.block (hn _ _ (h.cr r hr).2),(h.cr r hr).2⟩,fun l hl => (h.A l hl).block (hn _ _ (h.W.o l hl)) (fun k hk c hc => hn _ _ (h.W.i l hl k hk c hc)),⟨h.W.o,h.W.i,fun i p hp => ?_⟩,h.ow,h.cw.block (hn _ _ h.ow),h.no4⟩
 obtain ⟨es,k,e⟩:=h.W.m i p hp
 exact ⟨es,k,(hn i p hp).trans e⟩
theorem named_new (kd am:Int) (S T:ByteArray) (lv:Value) (w:World) (hlv:∃ a n c,lv = .slice a n c) :
  Calls Tryz.prog 19 #[.agg #[.int .i64 kd,.int .i64 am,.string S,.string T,lv]] w fun e w' => ∃ v,e = .returned v /\ SReads w' v (nmOf am S T) /\ UB w.heap.size v /\ Below w.heap.size w w':=by
 obtain ⟨la,ln,lc,rfl⟩:=hlv
 have hba:Below w.heap.size w (w.alloc (.cells #[.int .i64 kd,.int .i64 am,.string S,.string T,.slice la ln lc] 30)):=(Below.refl _ _).alloc (Nat.le_refl _) _
 cases h0:(am == 0)
 ·cases h1:(am == 1)
  ·have HE:Hid (nmOf am S T = [S,T]):=by
    unfold Hid nmOf;rw [if_neg (by simpa using h0),if_neg (by simpa using h1)]
   go_enter Tryz.func19,Tryz.ntmps19
   go_wp2_with fail
   go_ret
   refine ⟨_,rfl,?_,fun a n c e _ => ?_,hba.alloc hba.size _⟩
   ·rw [HE.out]
    refine ⟨_,_,rfl,fun _ => ⟨_,0,rfl,fun j hj => ?_⟩⟩
    match j,hj with
    | 0,_ => simp
    | 1,_ => simp
   ·simp at e
    rw [← e.1];simp
  ·have HE:Hid (nmOf am S T = [S]):=by
    unfold Hid nmOf;rw [if_neg (by simpa using h0),if_pos (by simpa using h1)]
   go_enter Tryz.func19,Tryz.ntmps19
   go_wp2_with fail
   go_ret
   refine ⟨_,rfl,?_,fun a n c e _ => ?_,hba.alloc hba.size _⟩
   ·rw [HE.out]
    refine ⟨_,_,rfl,fun _ => ⟨_,0,rfl,fun j hj => ?_⟩⟩
    match j,hj with
    | 0,_ => simp
   ·simp at e
    rw [← e.1];simp
 ·have HE:Hid (nmOf am S T = []):=by
   unfold Hid nmOf;rw [if_pos (by simpa using h0)]
  go_enter Tryz.func19,Tryz.ntmps19
  go_wp2_with fail
  go_ret
  refine ⟨_,rfl,?_,fun a n c e _ => ?_,hba⟩
  ·rw [HE.out]
   exact ⟨_,_,rfl,fun h => absurd h (by simp)⟩
  ·simp at e
end Go.Proofs.YtondkinefmjpjaaGreat
