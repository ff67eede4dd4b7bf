import Derived.Test.YtondkinefmjpjaaGreatI45
import Derived.Test.YtondkinefmjpjaaGreatI59
set_option maxHeartbeats 16000000
set_option maxRecDepth 100000
namespace Go.Proofs.YtondkinefmjpjaaGreat
open Go.RowKit
def rf0:RfD:=(ByteArray.empty,0,.slice none 0 0)
structure RVS (B:Nat) (w:World) (vb qb base rbase nv:Nat) (head:List Nat) (l:List K.AD) (rl:List RfD) (RR:Nat -> Rws):Prop where
 sz:B <= w.heap.size
 blk:∃ rv,w.heap[vb]? = some (.cells #[.pointer (some ⟨qb,0,none⟩),rv] 101 (0,0)) /\ w.ownsRow rbase 140 3 rv rl.length (rfcells rl) /\ ∀ k,rv.ownBlock = some k -> k < B
 q:∃ va vcap hv av,w.heap[qb]? = some (.cells #[.slice va nv vcap,hv,av] 97 (0,0)) /\ w.ownsRow base 3 1 hv head.length (nats head) /\ w.ownsRow base 138 3 av l.length (K.acells l)
 ts:∀ d,d ∈ l -> w.ownsRow base 203 2 d.tv d.ts.length (K.tcells d.ts)
 rows:∀ r,r < rl.length -> RReadB B w (rl.getD r rf0).2.2 (RR r)
theorem RVS.fr {B:Nat} {M:Nat -> Prop} {w w':World} {vb qb base rbase nv:Nat} {head:List Nat} {l:List K.AD} {rl:List RfD} {RR:Nat -> Rws} (h:RVS B w vb qb base rbase nv head l rl RR) (hf:Fr M w w') (hm:Mps w M):RVS B w' vb qb base rbase nv head l rl RR:=by
 have hb:∀ {i:Nat} {c:Array Value} {t:TypeId} {z:Nat × Nat},w.heap[i]? = some (.cells c t z) -> w'.heap[i]? = some (.cells c t z):=fun {i c t z} e => (hf.block i (vlt_of_block e) (fun hM => by obtain ⟨es,k,e'⟩:=hm i (vlt_of_block e) hM;rw [e] at e';cases e')).trans e
 obtain ⟨rv,r1,r2,r3⟩:=h.blk
 obtain ⟨va,vcap,hv,av,q1,q2,q3⟩:=h.q
 exact ⟨Nat.le_trans h.sz hf.size,⟨rv,hb r1,hf.own hm r2,r3⟩,⟨va,vcap,hv,av,hb q1,hf.own hm q2,hf.own hm q3⟩,fun d hd => hf.own hm (h.ts d hd),fun r hr => (h.rows r hr).fr hf hm⟩
theorem RVS.below {B:Nat} {w w':World} {vb qb base rbase nv:Nat} {head:List Nat} {l:List K.AD} {rl:List RfD} {RR:Nat -> Rws} (h:RVS B w vb qb base rbase nv head l rl RR) (hb:Below w.heap.size w w'):RVS B w' vb qb base rbase nv head l rl RR:=h.fr (Fr.of_below (M:=fun _ => False) hb) (mps_none _)
def ad0:K.AD:=⟨ByteArray.empty,.slice none 0 0,[],0⟩
def patR (l:List K.AD) (i:Nat):List (Bool × Int):=(l.getD i ad0).ts.map tOf
def relR (l:List K.AD) (rl:List RfD) (i:Nat):Nat:=(fixOf rl (l.getD i ad0).rel).toNat
structure RefOk (nv:Nat) (head:List Nat) (l:List K.AD) (rl:List RfD) (RR:Nat -> Rws):Prop where
 n4:l.length <= 4
 h6:head.length <= 6
 nv6:nv <= 6
 hlt:∀ n,n ∈ head -> n < nv
 tl:∀ d,d ∈ l -> d.ts.length <= 3 /\ ∀ t,t ∈ d.ts -> t.1 < nv
 fx:∀ i,i < l.length -> fixOf rl (l.getD i ad0).rel = (relR l rl i:Int) /\ relR l rl i < rl.length
 nr:rl.length <= 4
 rw':∀ i,i < l.length -> ∀ x,x ∈ RR (relR l rl i) -> x.1.length = (l.getD i ad0).ts.length
 few:∀ r,(RR r).length <= 12
def jnL (head:List Nat) (pat:Nat -> List (Bool × Int)) (rr:Nat -> Rws):List Nat -> List Int -> Int -> Rws -> Rws
 | [],o,c,acc => addL acc (head.map fun n => o.getD n 0) c
 | i :: is,o,c,acc => (rr i).foldl (fun acc r => match fitP (pat i) r.1 o with
  | some o' => jnL head pat rr is o' (wr (c * r.2)) acc
  | none => acc) acc
def WidL (n:Nat) (l:Rws):Prop:=∀ x,x ∈ l -> x.1.length = n
theorem addL_wid {n:Nat} {l:Rws} (h:WidL n l) {v:List Int} (hv:v.length = n) (c:Int):WidL n (addL l v c):=by
 unfold addL
 split
 ·exact h
 ·intro x hx
  rcases addG_key v c l x hx with e | ⟨y,hy,e⟩
  ·rw [e];exact hv
  ·rw [← e];exact h y hy
theorem foldl_ind {α β:Type} (p:β -> Prop) (f:β -> α -> β):∀ (l:List α) (b:β),p b -> (∀ b a,a ∈ l -> p b -> p (f b a)) -> p (l.foldl f b)
 | [],_,hb,_ => hb
 | x :: l,b,hb,h => foldl_ind p f l _ (h b x (by simp) hb) (fun b a ha hb => h b a (by simp [ha]) hb)
theorem jnL_wid (head:List Nat) (pat:Nat -> List (Bool × Int)) (rr:Nat -> Rws):∀ (is:List Nat) (o:List Int) (c:Int) (acc:Rws),WidL head.length acc -> WidL head.length (jnL head pat rr is o c acc)
 | [],o,c,acc,h => addL_wid h (by simp) c
 | i :: is,o,c,acc,h => by
  unfold jnL
  refine foldl_ind _ _ _ _ h (fun b a _ hb => ?_)
  split
  ·exact jnL_wid head pat rr is _ _ _ hb
  ·exact hb
theorem foldl_len {α:Type} (f:Rws -> α -> Rws) (K:Nat):∀ (l:List α) (b:Rws),(∀ b a,(f b a).length <= b.length + K) -> (l.foldl f b).length <= b.length + l.length * K
 | [],b,_ => by simp
 | x :: l,b,h => by
  have h1:=foldl_len f K l (f b x) h
  have h2:=h b x
  rw [List.foldl_cons,List.length_cons,Nat.add_mul]
  omega
theorem jnL_len (head:List Nat) (pat:Nat -> List (Bool × Int)) (rr:Nat -> Rws) (h12:∀ i,(rr i).length <= 12):∀ (is:List Nat) (o:List Int) (c:Int) (acc:Rws),(jnL head pat rr is o c acc).length <= acc.length + 12 ^ is.length
 | [],o,c,acc => by
  have:=addL_len acc (head.map fun n => o.getD n 0) c
  show (addL acc (head.map fun n => o.getD n 0) c).length <= acc.length + 1
  exact this
 | i :: is,o,c,acc => by
  unfold jnL
  have h1:=foldl_len (fun acc r => match fitP (pat i) r.1 o with
   | some o' => jnL head pat rr is o' (wr (c * r.2)) acc
   | none => acc) (12 ^ is.length) (rr i) acc (fun b a => by
    split
    ·exact jnL_len head pat rr h12 is _ _ _
    ·exact Nat.le_add_right _ _)
  have h2:=Nat.mul_le_mul_right (12 ^ is.length) (h12 i)
  rw [List.length_cons,Nat.pow_succ,Nat.mul_comm (12 ^ is.length) 12]
  exact Nat.le_trans h1 (by omega)
theorem enter63:∀ vs u,(callFunc 63 vs).run Tryz.prog u = .ok (.enter 63 vs) u:=enters_of Tryz.func63 (by kernel_rfl) rfl
theorem enter71:∀ vs u,(callFunc 71 vs).run Tryz.prog u = .ok (.enter 71 vs) u:=enters_of Tryz.func71 (by kernel_rfl) rfl
theorem find_step (vb base:Nat) (l:List RfD) (rv:Value) (t:ByteArray) (w:World) (hc:w.cell? ⟨vb,1,none⟩ = some rv) (ho:w.ownsRow base 140 3 rv l.length (rfcells l)) (hl:l.length <= 1000) {I:Int} (hI:fixOf l t = I) :
  Calls Tryz.prog 63 #[.pointer (some ⟨vb,0,none⟩),.string t] w fun x w' => ∃ v,x = .returned v /\ (v = .int .i64 I /\ w' = w):=by
 refine (find_any vb base l rv t w hc ho hl).mono ?_
 rintro e w' ⟨rfl,rfl⟩
 exact ⟨_,rfl,by rw [hI],rfl⟩
theorem fits_step (rel:ByteArray) (tv uv ov:Value) (at_ by_:Int) (base:Nat) (ts:List (Int × Int)) (xs o:List Int) (w:World) (ht:w.ownsRow base 203 2 tv ts.length (K.tcells ts)) (hu:Reads w uv xs) (ho:Reads w ov o) (h6:o.length <= 6) (hl:ts.length <= 100) (hx:ts.length <= xs.length) (hv:∀ t,t ∈ ts -> t.1 < o.length) {F:Option (List Int)} (hF:fitP (ts.map tOf) xs o = F) :
  Calls Tryz.prog 71 #[.agg #[.string rel,tv,.int .i64 at_],.agg #[uv,.int .i64 by_],ov] w fun e w' => ∃ q,e = .returned q /\ ∃ va vn vc b,q = .tuple #[.slice va vn vc,.bool b] /\ ((b = true /\ ∃ o',F = some o' /\ Reads w' (.slice va vn vc) o') ∨ (b = false /\ F = none)) /\ Below w.heap.size w w':=by
 refine (fits_any rel tv uv ov at_ by_ base ts xs o w ht hu ho h6 hl hx hv).mono ?_
 rw [hF]
 rintro e w' ⟨q,rfl,⟨v,b,rfl,hor⟩,hb⟩
 rcases hor with ⟨rfl,o',h1,h2⟩ | ⟨rfl,h1,rfl⟩
 ·have h3:=h2
  obtain ⟨va,vc,rfl,_⟩:=h3
  exact ⟨_,rfl,va,_,vc,true,rfl,Or.inl ⟨rfl,o',h1,h2⟩,hb⟩
 ·exact ⟨_,rfl,none,0,0,false,rfl,Or.inr ⟨rfl,h1⟩,hb⟩
theorem one_cell (w:World) (x:Value) (t:TypeId):∀ j u,[x][j]? = some u -> (w.alloc (.cells #[x] t)).cell? ((⟨w.heap.size,0,none⟩:Addr).add j) = some u:=by
 intro j u hj
 match j,hj with
 | 0,hj => simp at hj;subst hj;simp [Addr.add]
theorem rjoin_last {B:Nat} {w:World} {vb qb base rbase nv:Nat} {head:List Nat} {l:List K.AD} {rl:List RfD} {RR:Nat -> Rws} (h:RVS B w vb qb base rbase nv head l rl RR) (hO:RefOk nv head l rl RR) (o:List Int) (ov:Value) (ho:Reads w ov o) (hol:o.length = nv) (c:Int) (acc:Rws) (lv:Value) (hr:RReadB B w lv acc) (hw:WidL head.length acc) (hn:acc.length <= 1000000) :
  Calls Tryz.prog 43 #[.pointer (some ⟨vb,0,none⟩),.int .i64 (l.length:Int),ov,.int .i64 c,lv] w fun e w' => ∃ rv,e = .returned rv /\ RReadB B w' rv (addL acc (head.map fun n => o.getD n 0) c) /\ Below w.heap.size w w':=by
 obtain ⟨rv,r1,r2,_⟩:=h.blk
 have hsz:=h.sz
 obtain ⟨va,vcap,hv,av,q1,q2,q3⟩:=h.q
 obtain ⟨ha,hcap,rfl⟩:=vown_form q2
 obtain ⟨aa,acap,rfl⟩:=vown_form q3
 obtain ⟨oa,ocap,rfl,ho2⟩:=ho
 have HO2:Hid _:=ho2
 have HQ2:Hid (w.ownsRow base 3 1 (.slice ha head.length hcap) head.length (nats head)):=q2
 have c0:w.cell? ⟨vb,0,none⟩ = some (.pointer (some ⟨qb,0,none⟩)):=by simp [World.cell?,r1]
 have c1:w.cell? ⟨qb,1,none⟩ = some (.slice ha head.length hcap):=by simp [World.cell?,q1]
 have c2:w.cell? ⟨qb,2,none⟩ = some (.slice aa l.length acap):=by simp [World.cell?,q1]
 have HR:Hid (RReadB B w lv acc):=hr
 have hH6:=hO.h6
 have HOL:Hid (o.length = nv):=hol
 have HLT:Hid _:=hO.hlt
 have HWD:Hid (WidL head.length acc):=hw
 obtain ⟨la,lcap,rfl,_⟩:=hr
 obtain ⟨i0,hi,hz0,hz1,hz2⟩:=info_parts Tryz.info3
 have HI:Hid _:=hi
 have HZ0:Hid _:=hz0
 have HZ1:Hid _:=hz1
 have HZ2:Hid _:=hz2
 obtain ⟨HV,hHV⟩:∃ HV:List Int,(head.map fun n => o.getD n 0) = HV:=⟨_,rfl⟩
 have HHV:Hid _:=hHV
 rw [hHV]
 clear h r1 r2 q1 q2 q3 ho2 hi hz0 hz1 hz2 hO hw hHV hol
 go_enter Tryz.func43,Tryz.ntmps43
 go_wp2_with fail
 go_loopw [11,12] (fun xv kv wr => ∃ k:Nat,k <= head.length /\ kv = .int .i64 k /\ wr.ownsRow w.heap.size 3 1 xv k (i64s (HV.take k)) /\ Below w.heap.size w wr) (fun _ kv _ => head.length - (intOf kv).toNat)
 case atStart => exact ⟨0,Nat.zero_le _,rfl,World.ownsRow_nil _ _ _ _,Below.refl _ _⟩
 case round =>
  obtain ⟨k,hk,rfl,hrow,hb⟩:=hrel
  obtain ⟨sa,scap,hsv⟩:=vown_form hrow
  subst hsv
  have hws:w.heap.size <= wr.heap.size:=hb.size
  have hfb:=Fr.of_below (M:=fun _ => False) hb
  have d0:=hfb.cell (mps_none _) c0
  have d1:=hfb.cell (mps_none _) c1
  by_cases hlt:k < head.length
  ·have bk:(k:Int) < (head.length:Int):=by omega
   obtain ⟨hg,hcap',he⟩:=vown_some HQ2.out (by omega)
   simp only [Value.slice.injEq,true_and] at he
   obtain ⟨rfl,rfl⟩:=he
   have y0:=hfb.cell (mps_none _) (nats_at HQ2.out rfl k hlt)
   have hN:=HLT.out _ (getD_mem hlt)
   have hHVk:HV.getD k 0 = o.getD (head.getD k 0) 0:=by
    rw [← HHV.out,List.getD_eq_getElem?_getD,List.getElem?_map,List.getD_eq_getElem?_getD (l:=head),List.getElem?_eq_getElem hlt];rfl
   have hHl:HV.length = head.length:=by rw [← HHV.out,List.length_map]
   have HTK:Hid (i64s (HV.take (k + 1)) = i64s (HV.take k) ++ [.int .i64 (HV.getD k 0)]):=by
    unfold Hid i64s
    rw [List.take_succ_eq_append_getElem (by omega),List.map_append,List.getD_eq_getElem?_getD,List.getElem?_eq_getElem (by omega)];rfl
   rw [hHVk] at HTK
   obtain ⟨NN,hNN⟩:∃ NN,head.getD k 0 = NN:=⟨_,rfl⟩
   rw [hNN] at y0 hN HTK
   have hNo:NN < o.length:=by rw [HOL.out];exact hN
   obtain ⟨og,oo,rfl,qo⟩:=HO2.out (by omega)
   have y1:=hfb.cell (mps_none _) (qo NN hNo)
   obtain ⟨X,hX⟩:∃ X,o.getD NN 0 = X:=⟨_,rfl⟩
   rw [hX] at y1 HTK
   have bN:(NN:Int) < (o.length:Int):=by omega
   have HROW:Hid _:=hrow
   clear hHVk hHl hNN qo hX hfb
   go_wp2_with (at_builtin;refine wpList_append_own _ rfl (.tmp 40) (.tmp 54) 28 rfl w.heap.size 3 i0 (.int .i64 0) 1 8 Tryz.underlying28 HI.out HZ0.out HZ1.out HZ2.out rfl (by decide) (.slice sa k scap) _ _ rfl (hrow.alloc _) ⟨wr.heap.size,0,none⟩ 1 1 [.int .i64 X] rfl rfl (one_cell _ _ _) (by intro u hu;simp at hu;subst hu;rfl) (by unfold maxLen;omega) (by omega) (by simp;omega) ?_;intro v6 w6 hown6 hgrow6 hx6;clear hx6;obtain ⟨sa6,scap6,rfl⟩:=vown_form hown6)
   have hb6:Below w.heap.size w w6:=(hb.alloc hws _).grown hgrow6 (by simp;omega) (fun k hk => (hrow.lt k hk).1)
   clear hgrow6
   go_roundw
   case rel => exact ⟨k + 1,by omega,by go_num,by rw [HTK.out];exact hown6,hb6⟩
   case measure => simp [intOf];omega
  ·have bk:¬ (k:Int) < (head.length:Int):=by omega
   have hkk:k = head.length:=by omega
   have hHl:HV.length = head.length:=by rw [← HHV.out,List.length_map]
   have hRV:Reads wr (.slice sa k scap) HV:=by
    rw [hkk,← hHl,List.take_length] at hrow
    rw [hkk,← hHl]
    exact own_reads hrow
   have hub:UB B (.slice sa k scap):=fun a n c e _ => by
    simp only [Value.slice.injEq] at e
    obtain ⟨rfl,_,_⟩:=e
    rcases hrow.2 with ⟨h,_⟩ | ⟨g,cap',cur,h,h1,_⟩
    ·cases h
    ·simp only [Value.slice.injEq,Option.some.injEq] at h
     rw [h.1];exact Nat.le_trans hsz h1
   have ADD:=add_any B (.slice la acc.length lcap) (.slice sa k scap) acc HV c wr (Nat.le_trans hsz hb.size) (HR.out.below hb) hRV hub (by omega) (by omega) (fun j hj => by
    have e:rAt acc j = acc[j]:=by unfold rAt;rw [List.getD_eq_getElem?_getD,List.getElem?_eq_getElem hj];rfl
    have:=HWD.out acc[j] (List.getElem_mem hj)
    rw [e];omega)
   clear hrow hRV hkk hHl hub
   go_wp2_with (go_at_call 64;refine ADD.mono ?_;rintro e w2 ⟨rv2,rfl,hr2,hb2⟩)
   go_ret
   exact ⟨_,rfl,hr2,hb.trans (hb2.mono hb.size)⟩
theorem fitP_len:∀ (p:List (Bool × Int)) (xs o o':List Int),fitP p xs o = some o' -> o'.length = o.length
 | [],_,o,o',h => by cases h;rfl
 | t :: p,xs,o,o',h => by
  unfold fitP at h
  split at h
  ·split at h
   ·rw [fitP_len p _ _ _ h,List.length_set]
   ·split at h
    ·exact fitP_len p _ _ _ h
    ·cases h
  ·split at h
   ·exact fitP_len p _ _ _ h
   ·cases h
def jStep (head:List Nat) (pat:Nat -> List (Bool × Int)) (rr:Nat -> Rws) (i:Nat) (is:List Nat) (o:List Int) (c:Int) (acc:Rws) (r:List Int × Int):Rws :=
 match fitP (pat i) r.1 o with
  | some o' => jnL head pat rr is o' (wr (c * r.2)) acc
  | none => acc
theorem jnL_cons (head:List Nat) (pat:Nat -> List (Bool × Int)) (rr:Nat -> Rws) (i:Nat) (is:List Nat) (o:List Int) (c:Int) (acc:Rws):jnL head pat rr (i :: is) o c acc = (rr i).foldl (jStep head pat rr i is o c) acc:=by
 rw [jnL];rfl
theorem jStep_wid {head:List Nat} {pat:Nat -> List (Bool × Int)} {rr:Nat -> Rws} {i:Nat} {is:List Nat} {o:List Int} {c:Int} {acc:Rws} (r:List Int × Int) (h:WidL head.length acc):WidL head.length (jStep head pat rr i is o c acc r):=by
 unfold jStep;split
 ·exact jnL_wid head pat rr is _ _ _ h
 ·exact h
theorem jStep_len {head:List Nat} {pat:Nat -> List (Bool × Int)} {rr:Nat -> Rws} (h12:∀ i,(rr i).length <= 12) (i:Nat) (is:List Nat) (o:List Int) (c:Int) (acc:Rws) (r:List Int × Int):(jStep head pat rr i is o c acc r).length <= acc.length + 12 ^ is.length:=by
 unfold jStep;split
 ·exact jnL_len head pat rr h12 is _ _ _
 ·exact Nat.le_add_right _ _
theorem fold_take {f:Rws -> List Int × Int -> Rws} (L:Rws) (acc:Rws) (k:Nat) (hk:k < L.length):(L.take (k + 1)).foldl f acc = f ((L.take k).foldl f acc) (rAt L k):=by
 have e:rAt L k = L[k]:=by unfold rAt;rw [List.getD_eq_getElem?_getD,List.getElem?_eq_getElem hk];rfl
 rw [List.take_succ_eq_append_getElem hk,List.foldl_append,e];rfl
def FitQ (wx:World) (F:Option (List Int)) (nv okv:Value):Prop:=∃ va vn vc b,nv = .slice va vn vc /\ okv = .bool b /\ ((b = true /\ ∃ o',F = some o' /\ Reads wx (.slice va vn vc) o') ∨ (b = false /\ F = none))
def JoinC (B:Nat) (w:World) (L:Rws) (e:Ending) (w':World):Prop:=∃ ra rn rc,e = .returned (.slice ra rn rc) /\ RReadB B w' (.slice ra rn rc) L /\ Below w.heap.size w w'
theorem rjoin_step {B:Nat} {w:World} {vb qb base rbase nv:Nat} {head:List Nat} {l:List K.AD} {rl:List RfD} {RR:Nat -> Rws} (h:RVS B w vb qb base rbase nv head l rl RR) (hO:RefOk nv head l rl RR) (h12:∀ i,(RR (relR l rl i)).length <= 12) {i:Nat} (hi:i < l.length) (is:List Nat)
  (IH:∀ (u:World) (o:List Int) (ov:Value) (c:Int) (acc:Rws) (lv:Value),RVS B u vb qb base rbase nv head l rl RR -> Reads u ov o -> o.length = nv -> RReadB B u lv acc -> WidL head.length acc -> acc.length + 12 ^ is.length <= 1000000 -> Calls Tryz.prog 43 #[.pointer (some ⟨vb,0,none⟩),.int .i64 ((i:Int) + 1),ov,.int .i64 c,lv] u (JoinC B u (jnL head (patR l) (fun i => RR (relR l rl i)) is o c acc)))
  (o:List Int) (ov:Value) (ho:Reads w ov o) (hol:o.length = nv) (c:Int) (acc:Rws) (lv:Value) (hr:RReadB B w lv acc) (hw:WidL head.length acc) (hn:acc.length + 12 ^ (is.length + 1) <= 1000000) :
  Calls Tryz.prog 43 #[.pointer (some ⟨vb,0,none⟩),.int .i64 (i:Int),ov,.int .i64 c,lv] w (JoinC B w (jnL head (patR l) (fun i => RR (relR l rl i)) (i :: is) o c acc)):=by
 have H:Hid (RVS B w vb qb base rbase nv head l rl RR):=h
 obtain ⟨rv,r1,r2,_⟩:=h.blk
 obtain ⟨va,vcap,hv,av,q1,q2,q3⟩:=h.q
 obtain ⟨rfx,rlt⟩:=hO.fx i hi
 have hrr:=h.rows _ rlt
 obtain ⟨aa,acap,rfl⟩:=vown_some q3 (by omega)
 obtain ⟨ra,rcap,rfl⟩:=vown_some r2 (by omega)
 have hgd:l.getD i ad0 = l[i]:=by rw [List.getD_eq_getElem?_getD,List.getElem?_eq_getElem hi];rfl
 obtain ⟨x0,x1,x2⟩:=K.acells_at' l i hi
 have hts:=h.ts l[i] (List.getElem_mem hi)
 obtain ⟨htl,htv⟩:=hO.tl l[i] (List.getElem_mem hi)
 have hwid:=hO.rw' i hi
 have hpat:patR l i = l[i].ts.map tOf:=by unfold patR;rw [hgd]
 rw [hgd] at rfx hwid
 rw [jnL_cons]
 obtain ⟨F,hF⟩:∃ F,jStep head (patR l) (fun i => RR (relR l rl i)) i is o c = F:=⟨_,rfl⟩
 have HF:Hid _:=hF
 have h12i:=h12 i
 obtain ⟨r,hr0⟩:∃ r,relR l rl i = r:=⟨_,rfl⟩
 rw [hF]
 show Calls _ _ _ _ (JoinC B w ((RR (relR l rl i)).foldl F acc))
 rw [hr0] at rfx rlt hrr hwid h12i ⊢
 obtain ⟨L,hL⟩:∃ L,RR r = L:=⟨_,rfl⟩
 rw [hL] at hrr hwid h12i ⊢
 obtain ⟨z0,z1,z2⟩:=rfcells_at rl r rlt
 have hgr:rl.getD r rf0 = rl[r]:=by rw [List.getD_eq_getElem?_getD,List.getElem?_eq_getElem rlt];rfl
 rw [hgr] at hrr
 have c0:w.cell? ⟨vb,0,none⟩ = some (.pointer (some ⟨qb,0,none⟩)):=by simp [World.cell?,r1]
 have c1:w.cell? ⟨vb,1,none⟩ = some (.slice (some ⟨ra,0,none⟩) rl.length rcap):=by simp [World.cell?,r1]
 have c2:w.cell? ⟨qb,2,none⟩ = some (.slice (some ⟨aa,0,none⟩) l.length acap):=by simp [World.cell?,q1]
 have d0:=(q3.cellAt (i * 3) (by omega)).trans x0
 have d1:=(q3.cellAt (i * 3 + 1) (by omega)).trans x1
 have d2:=(q3.cellAt (i * 3 + 2) (by omega)).trans x2
 have d3:=(r2.cellAt (r * 3 + 2) (by omega)).trans z2
 obtain ⟨A,hA⟩:∃ A,l[i] = A:=⟨_,rfl⟩
 rw [hA] at d0 d1 d2 hts htl htv hpat rfx hwid
 obtain ⟨Arel,Atv,Ats,Aat⟩:=A
 simp only at d0 d1 d2 hts htl htv hpat rfx hwid
 obtain ⟨RVv,hRV⟩:∃ x,rl[r].2.2 = x:=⟨_,rfl⟩
 rw [hRV] at d3 hrr
 obtain ⟨La,Lcap,rfl,hrd⟩:=hrr
 obtain ⟨ta,tcap,rfl⟩:=vown_form hts
 have HTS:Hid (w.ownsRow base 203 2 (.slice ta Ats.length tcap) Ats.length (K.tcells Ats)):=hts
 have HRD:Hid _:=hrd
 have HO:Hid (Reads w ov o):=ho
 have HOL:Hid (o.length = nv):=hol
 have hnv6:=hO.nv6
 have HR0:Hid (RReadB B w lv acc):=hr
 obtain ⟨la,lcap,rfl,_⟩:=hr
 obtain ⟨oa,ocap,rfl,_⟩:=ho
 have hnl:=hO.n4
 have hnr:=hO.nr
 have hne:((i:Int) == (l.length:Int)) = false:=by simp;omega
 have bi:(i:Int) < (l.length:Int):=by omega
 have br:(r:Int) < (rl.length:Int):=by omega
 have lvb:=World.block_lt_of_cell? _ _ c0
 have lra:=World.block_lt_of_cell? _ _ d3
 have hba:Below w.heap.size w (w.alloc (.cells #[.string Arel,.slice ta Ats.length tcap,.int .i64 (Aat:Int)] 138)):=(Below.refl _ _).alloc (Nat.le_refl _) _
 have hfa:Fr (fun _ => False) w (w.alloc (.cells #[.string Arel,.slice ta Ats.length tcap,.int .i64 (Aat:Int)] 138)).drew:=(Fr.alloc _ _).trans (Fr.drew _) (fun _ _ h => h)
 have FND:=find_step vb rbase rl _ Arel _ (hfa.cell (mps_none _) c1) (hfa.own (mps_none _) r2) (by omega) rfx
 have HIH:Hid _:=IH
 have HPAT:Hid (patR l i = Ats.map tOf):=hpat
 have HTV:Hid _:=htv
 have HTL3:Hid (Ats.length <= 3):=htl
 have HWD:Hid _:=hwid
 have HW:Hid (WidL head.length acc):=hw
 have HFL:Hid (∀ acc r,(F acc r).length <= acc.length + 12 ^ is.length):=fun acc r => by rw [← hF];exact jStep_len (rr:=fun i => RR (relR l rl i)) h12 i is o c acc r
 have HFW:Hid (∀ acc r,WidL head.length acc -> WidL head.length (F acc r)):=fun acc r hw => by rw [← hF];exact jStep_wid r hw
 obtain ⟨PW,hPW⟩:∃ PW,12 ^ is.length = PW:=⟨_,rfl⟩
 rw [Nat.pow_succ,hPW] at hn
 have HPW:Hid _:=hPW
 have HLL:Hid (L.length <= 12):=h12i
 clear h hO r1 r2 q1 q2 q3 x0 x1 x2 z0 z1 z2 hts htl htv hpat rfx hwid hrd hw IH hfa hgd hgr hA hRV hF hL hr0 hPW h12 hol
 go_enter Tryz.func43,Tryz.ntmps43
 go_upto_region 9 with fail
 go_cut [14] from 70 to 81 (fun xv wx => xv = .slice La L.length Lcap /\ Below w.heap.size w wx /\ wx.heap[w.heap.size]? = some (.cells #[.string Arel,.slice ta Ats.length tcap,.int .i64 (Aat:Int)] 138 (0,0)))
 case first =>
  go_region_law (refine step_call rfl 63 #[.tmp 74,.tmp 76] #[24,9] rfl enter63 #[.pointer (some ⟨vb,0,none⟩),.string Arel] (by kernel_rfl) _ FND ?_;rintro v1 w2 ⟨rfl,hw2⟩;rw [hw2];clear hw2)
  all_goals (go_wp2_with fail;go_meet)
  all_goals exact ⟨rfl,hba.drew,vheap_alloc_new _ _⟩
 case rest =>
  obtain ⟨rfl,hb0,hbx⟩:=hcut
  go_wp2_with fail
  go_loopw [4,15,16,17] (fun xv kv _ _ wx => ∃ (k:Nat) (xa:Option Addr) (xn xc:Nat),k <= L.length /\ kv = .int .i64 k /\ xv = .slice xa xn xc /\ RReadB B wx xv ((L.take k).foldl F acc) /\ Below w.heap.size w wx /\ wx.heap[w.heap.size]? = some (.cells #[.string Arel,.slice ta Ats.length tcap,.int .i64 (Aat:Int)] 138 (0,0))) (fun _ kv _ _ _ => L.length - (intOf kv).toNat)
  case atStart => exact ⟨0,_,_,_,Nat.zero_le _,rfl,rfl,HR0.out.below hb0,hb0,hbx⟩
  case round =>
   clear hb0 hbx
   obtain ⟨k,xa,xn,xc,hk,rfl,rfl,hrk,hb,hbx⟩:=hrel
   have hfb:=Fr.of_below (M:=fun _ => False) hb
   by_cases hlt:k < L.length
   ·have bk:(k:Int) < (L.length:Int):=by omega
    obtain ⟨g,off,rfl,_,q⟩:=HRD.out (by omega)
    obtain ⟨⟨u,e1,e2,_⟩,e3⟩:=q k hlt
    have f1:=hfb.cell (mps_none _) e1
    have f3:=hfb.cell (mps_none _) e3
    have hu:=e2.below hb
    have hkw:=HWD.out (rAt L k) (by
     have e:rAt L k = L[k]:=by unfold rAt;rw [List.getD_eq_getElem?_getD,List.getElem?_eq_getElem hlt];rfl
     rw [e];exact List.getElem_mem hlt)
    have HST:Hid _:=fold_take (f:=F) L acc k hlt
    have hlen:=foldl_len F (12 ^ is.length) (L.take k) acc HFL.out
    have hwk:WidL head.length ((L.take k).foldl F acc):=foldl_ind _ _ _ _ HW.out (fun b a _ hb => HFW.out b a hb)
    have hbnd:((L.take k).foldl F acc).length + 12 ^ is.length <= 1000000:=by
     rw [List.length_take,Nat.min_eq_left hk,HPW.out] at hlen
     rw [HPW.out]
     have h1:(k + 1) * PW <= 12 * PW:=Nat.mul_le_mul_right PW (by have:=HLL.out;omega)
     rw [Nat.add_mul] at h1
     omega
    obtain ⟨AK,hAK⟩:∃ AK,(L.take k).foldl F acc = AK:=⟨_,rfl⟩
    rw [hAK] at HST hwk hbnd hrk
    obtain ⟨KV,KX,hKK⟩:∃ KV KX,rAt L k = (KV,KX):=⟨_,_,rfl⟩
    rw [hKK] at f3 hu hkw HST
    obtain ⟨FR,hFR⟩:∃ FR,fitP (Ats.map tOf) KV o = FR:=⟨_,rfl⟩
    have HFS0:Hid (FR = none -> F AK (KV,KX) = AK):=fun e => by
     rw [← HF.out];unfold jStep;simp only [HPAT.out,hFR,e]
    have HFS1:Hid (∀ o',FR = some o' -> F AK (KV,KX) = jnL head (patR l) (fun i => RR (relR l rl i)) is o' (Go.Proofs.YtondkinefmjpjaaGreat.wr (c * KX)) AK):=fun o' e => by
     rw [← HF.out];unfold jStep;simp only [HPAT.out,hFR,e]
    have HFL':Hid (∀ o',FR = some o' -> o'.length = nv):=fun o' e => by
     rw [← hFR] at e;rw [fitP_len _ _ _ _ e];exact HOL.out
    have hdr:Below wr.heap.size wr wr.drew:=(Below.refl _ _).drew
    have FIT:=fits_step Arel (.slice ta Ats.length tcap) u (.slice oa o.length ocap) (Aat:Int) KX base Ats KV o wr.drew (hfb.own (mps_none _) HTS.out) hu (HO.out.below hb.drew) (by rw [HOL.out];omega) (by have:=HTL3.out;omega) (by simp only at hkw;omega) (fun t ht => by rw [HOL.out];exact HTV.out t ht) hFR
    have HRK:Hid (RReadB B wr (.slice xa xn xc) AK):=hrk
    have HB:Hid (Below w.heap.size w wr):=hb
    have HWK:Hid _:=hwk
    have HBX:Hid _:=hbx
    have g0:wr.cell? ⟨w.heap.size,0,none⟩ = some (.string Arel):=by simp [World.cell?,hbx]
    have g1:wr.cell? ⟨w.heap.size,1,none⟩ = some (.slice ta Ats.length tcap):=by simp [World.cell?,hbx]
    have g2:wr.cell? ⟨w.heap.size,2,none⟩ = some (.int .i64 (Aat:Int)):=by simp [World.cell?,hbx]
    obtain ⟨ua,uc,rfl,_⟩:=hu
    have lf:=World.block_lt_of_cell? _ _ f1
    clear q e1 e2 e3 hKK hAK hlen hwk hrk hFR hkw hfb hbx
    go_upto_region 13 with fail
    go_cut [16,17] from 87 to 97 (fun nv okv wx => FitQ wx FR nv okv /\ Below wr.heap.size wr wx)
    case first =>
     go_region_law (refine step_call rfl 71 #[.tmp 88,.tmp 92,.tmp 93] #[138,103,28] rfl enter71 #[.agg #[.string Arel,.slice ta Ats.length tcap,.int .i64 (Aat:Int)],.agg #[.slice ua KV.length uc,.int .i64 KX],.slice oa o.length ocap] (by kernel_rfl) _ FIT ?_;rintro v1 w2 ⟨fa,fn,fc,fb,rfl,hor,hb2⟩)
     all_goals (go_wp2_with fail;go_meet)
     all_goals exact ⟨⟨fa,fn,fc,fb,rfl,rfl,hor⟩,hdr.trans (hb2.mono hdr.size)⟩
    case rest =>
     obtain ⟨⟨fa,fn,fc,fb,rfl,rfl,hor⟩,hb2⟩:=hcut
     obtain ⟨w2,hw2⟩:∃ w2:World,w2 = wc:=⟨_,rfl⟩
     subst hw2
     have hB2:Below w.heap.size w w2:=HB.out.trans (hb2.mono HB.out.size)
     have hbx2:=(hb2.block w.heap.size (vlt_of_block HBX.out)).trans HBX.out
     have f3':=(hb2.cell (World.block_lt_of_cell? _ _ f3)).trans f3
     have hr2:=HRK.out.below hb2
     cases fb
     ·have hF0:FR = none:=by
       rcases hor with ⟨h,_⟩ | ⟨_,h⟩
       ·cases h
       ·exact h
      have HNX:Hid (F AK (KV,KX) = AK):=HFS0.out hF0
      clear hor hF0
      go_wp2_with fail
      go_roundw
      case rel => exact ⟨k + 1,_,_,_,by omega,by go_num,rfl,by rw [HST.out,HNX.out];exact hr2,hB2,hbx2⟩
      case measure => simp [intOf];omega
     ·obtain ⟨o',hF1,hro⟩:∃ o',FR = some o' /\ Reads w2 (.slice fa fn fc) o':=by
       rcases hor with ⟨_,h⟩ | ⟨h,_⟩
       ·exact h
       ·cases h
      have HNX:Hid (F AK (KV,KX) = jnL head (patR l) (fun i => RR (relR l rl i)) is o' (wrap64 (c * KX)) AK):=by rw [Hid,HFS1.out o' hF1,wr_w64]
      have hol':=HFL'.out o' hF1
      have CJ:=HIH.out w2 o' (.slice fa fn fc) (wrap64 (c * KX)) AK (.slice xa xn xc) (H.out.below hB2) hro hol' hr2 HWK.out hbnd
      have hbig:(i:Int) + 1 < 100:=by omega
      clear hor hF1 hro hol' hr2
      go_wp2_with fail
      refine CJ.mono ?_
      rintro e w3 ⟨ya,yn,yc,rfl,hr3,hb3⟩
      have hB3:Below w.heap.size w w3:=hB2.trans (hb3.mono hB2.size)
      have hbx3:=(hb3.block w.heap.size (vlt_of_block hbx2)).trans hbx2
      go_wp2_with fail
      go_roundw
      case rel => exact ⟨k + 1,_,_,_,by omega,by go_num,rfl,by rw [HST.out,HNX.out];exact hr3,hB3,hbx3⟩
      case measure => simp [intOf];omega
   ·have bk:¬ (k:Int) < (L.length:Int):=by omega
    have hkk:k = L.length:=by omega
    rw [hkk,List.take_length] at hrk
    clear hkk
    go_wp2_with fail
    go_ret
    exact ⟨_,_,_,rfl,hrk,hb⟩
theorem rjoin_any {B:Nat} {vb qb base rbase nv:Nat} {head:List Nat} {l:List K.AD} {rl:List RfD} {RR:Nat -> Rws} (hO:RefOk nv head l rl RR):∀ (m i:Nat),i + m = l.length -> ∀ (w:World) (o:List Int) (ov:Value) (c:Int) (acc:Rws) (lv:Value),RVS B w vb qb base rbase nv head l rl RR -> Reads w ov o -> o.length = nv -> RReadB B w lv acc -> WidL head.length acc -> acc.length + 12 ^ m <= 1000000 ->
  Calls Tryz.prog 43 #[.pointer (some ⟨vb,0,none⟩),.int .i64 (i:Int),ov,.int .i64 c,lv] w (JoinC B w (jnL head (patR l) (fun i => RR (relR l rl i)) (List.range' i m) o c acc))
 | 0,i,hi,w,o,ov,c,acc,lv,h,ho,hol,hr,hw,hn => by
  have e:i = l.length:=by omega
  subst e
  refine (rjoin_last h hO o ov ho hol c acc lv hr hw (by omega)).mono ?_
  rintro e w' ⟨rv,rfl,h1,h2⟩
  have h3:=h1
  obtain ⟨a,cap,rfl,_⟩:=h3
  exact ⟨a,_,cap,rfl,h1,h2⟩
 | m + 1,i,hi,w,o,ov,c,acc,lv,h,ho,hol,hr,hw,hn => by
  rw [List.range'_succ]
  refine rjoin_step h hO (fun i => hO.few _) (by omega) _ (fun u o ov c acc lv h1 h2 h3 h4 h5 h6 => ?_) o ov ho hol c acc lv hr hw (by rw [List.length_range'];exact hn)
  rw [List.length_range'] at h6
  have:=rjoin_any hO m (i + 1) (by omega) u o ov c acc lv h1 h2 h3 h4 h5 h6
  have e:((i + 1:Nat):Int) = (i:Int) + 1:=by omega
  rw [e] at this
  exact this
def refRows (nv:Nat) (head:List Nat) (l:List K.AD) (rl:List RfD) (RR:Nat -> Rws):Rws:=jnL head (patR l) (fun i => RR (relR l rl i)) (List.range' 0 l.length) (List.replicate nv (-1)) 1 []
def ngK (n k:Nat):List Int:=List.replicate k (-1) ++ List.replicate (n - k) 0
theorem ngK_len (n k:Nat) (hk:k <= n):(ngK n k).length = n:=by simp [ngK];omega
theorem ngK_set (n k:Nat) (hk:k < n):(ngK n k).set k (-1) = ngK n (k + 1):=by
 unfold ngK
 rw [List.set_append_right _ _ (by simp),List.length_replicate,Nat.sub_self,show n - k = (n - (k + 1)) + 1 by omega,List.replicate_succ,List.set_cons_zero,List.replicate_succ',List.append_assoc]
 rfl
theorem RefRows_any {B:Nat} {w:World} {vb qb base rbase nv:Nat} {head:List Nat} {l:List K.AD} {rl:List RfD} {RR:Nat -> Rws} (h:RVS B w vb qb base rbase nv head l rl RR) (hO:RefOk nv head l rl RR) :
  Calls Tryz.prog 13 #[.pointer (some ⟨vb,0,none⟩)] w (JoinC B w (refRows nv head l rl RR)):=by
 obtain ⟨rv,r1,r2,_⟩:=h.blk
 obtain ⟨va,vcap,hv,av,q1,q2,q3⟩:=h.q
 have H:Hid _:=h
 have HO:Hid _:=hO
 have hnv:=hO.nv6
 have hn4:=hO.n4
 have c0:w.cell? ⟨vb,0,none⟩ = some (.pointer (some ⟨qb,0,none⟩)):=by simp [World.cell?,r1]
 have c1:w.cell? ⟨qb,0,none⟩ = some (.slice va nv vcap):=by simp [World.cell?,q1]
 obtain ⟨i0,hi0,hz0,hz1,hz2⟩:=info_parts Tryz.info3
 clear h hO r1 r2 q1 q2 q3
 go_enter Tryz.func13,Tryz.ntmps13
 go_wp2_with (at_make;refine wpList_make_full _ rfl (.tmp 12) (.tmp 12) 28 rfl w.heap.size 3 i0 (.int .i64 0) 1 Tryz.underlying28 hi0 hz0 hz1 .i64 .i64 (nv:Int) (nv:Int) nv rfl rfl rfl rfl (by rw [hz2];omega) (by unfold maxLen;omega) (Nat.le_refl _) ?_;intro w1 hown1 hgrow1)
 have hb1:Below w.heap.size w w1:=(Below.refl _ _).grown hgrow1 (Nat.le_refl _) (fun k e => by cases e)
 have hmk:i64s (ngK nv 0) = List.replicate nv (.int .i64 0):=by simp [i64s,ngK]
 rw [made_ints,← hmk] at hown1
 clear hgrow1 hi0 hz0 hz1 hz2 hmk
 go_loopw [4] (fun iv wr => ∃ k:Nat,k <= nv /\ iv = .int .i64 k /\ wr.ownsRow w.heap.size 3 1 (.slice (some ⟨w.heap.size,0,none⟩) nv nv) nv (i64s (ngK nv k)) /\ Below w.heap.size w wr) (fun iv _ => nv - (intOf iv).toNat)
 case atStart => exact ⟨0,Nat.zero_le _,rfl,hown1,hb1⟩
 case round =>
  clear hown1 hb1
  obtain ⟨k,hk,rfl,hrow,hb⟩:=hrel
  by_cases hlt:k < nv
  ·have hlen:=ngK_len nv k hk
   have z0:=(hrow.cellAt k (by omega)).trans (i64s_at (ngK nv k) k (by omega))
   have f0:=hrow.frozenAt k
   have hN:=(hrow.stored k (.int .i64 (-1))).1
   rw [i64s_set,ngK_set nv k hlt] at hN
   have hbN:Below w.heap.size w (wr.setCell ⟨w.heap.size,k,none⟩ (.int .i64 (-1))):=hb.setCell (p:=⟨w.heap.size,k,none⟩) (Nat.le_refl _) _
   have lOB:=(hrow.lt _ rfl).2
   have HN:Hid _:=hN
   have HBN:Hid _:=hbN
   have bk:(k:Int) < (nv:Int):=by omega
   clear hlen hN hrow hbN
   go_wp2_with fail
   go_roundw
   case rel => exact ⟨k + 1,by omega,by go_num,HN.out,HBN.out⟩
   case measure => simp [intOf];omega
  ·have bk:¬ (k:Int) < (nv:Int):=by omega
   have hkk:k = nv:=by omega
   rw [hkk] at hrow
   have hrd:Reads wr (.slice (some ⟨w.heap.size,0,none⟩) nv nv) (List.replicate nv (-1)):=by
    have e:ngK nv nv = List.replicate nv (-1):=by simp [ngK]
    rw [e] at hrow
    have e2:(List.replicate nv (-1:Int)).length = nv:=List.length_replicate
    have:=own_reads (w:=wr) (base:=w.heap.size) (v:=.slice (some ⟨w.heap.size,0,none⟩) nv nv) (o:=List.replicate nv (-1)) (by rw [e2];exact hrow)
    exact this
   have CJ:=rjoin_any HO.out l.length 0 (by omega) wr (List.replicate nv (-1)) _ 1 [] (.slice none 0 0) (H.out.below hb) hrd List.length_replicate (RReadB.nil B wr) (fun _ h => by cases h) (by
    have h2:12 ^ l.length <= 12 ^ 4:=Nat.pow_le_pow_right (by omega) hn4
    have h3:(12:Nat) ^ 4 = 20736:=rfl
    rw [h3] at h2
    simp only [List.length_nil];omega)
   have HRR:Hid (refRows nv head l rl RR = jnL head (patR l) (fun i => RR (relR l rl i)) (List.range' 0 l.length) (List.replicate nv (-1)) 1 []):=rfl
   clear hrow hrd hkk
   go_wp2_with fail
   refine CJ.mono ?_
   rintro e w2 ⟨ya,yn,yc,rfl,hr2,hb2⟩
   go_wp2_with fail
   go_ret
   exact ⟨_,_,_,rfl,by rw [HRR.out];exact hr2,hb.trans (hb2.mono hb.size)⟩
theorem enter64:∀ vs u,(callFunc 64 vs).run Tryz.prog u = .ok (.enter 64 vs) u:=enters_of Tryz.func64 (by kernel_rfl) rfl
def chL (was now:Rws):Rws:=was.foldl (fun l r => addL l r.1 (wr (-r.2))) now
theorem chL_take (was now:Rws) (k:Nat) (hk:k < was.length):chL (was.take (k + 1)) now = addL (chL (was.take k) now) (rAt was k).1 (wr (-(rAt was k).2)):=by
 unfold chL;rw [fold_take _ _ _ hk]
theorem chL_wid {n:Nat} {was now:Rws} (h1:WidL n was) (h2:WidL n now):WidL n (chL was now):=foldl_ind _ _ _ _ h2 (fun _ a ha hb => addL_wid hb (h1 a ha) _)
theorem chL_len (was now:Rws):(chL was now).length <= now.length + was.length:=by
 have:=foldl_len (fun l r => addL l r.1 (wr (-r.2))) 1 was now (fun b a => addL_len b _ _)
 unfold chL;omega
theorem add_step (B:Nat) (lv vv:Value) (l:Rws) (xs:List Int) (c:Int) (w:World) (hB:B <= w.heap.size) (h:RReadB B w lv l) (hv:Reads w vv xs) (hub:UB B vv) (n:Nat) (hn:n <= 6) (hx:xs.length = n) (hw:WidL n l) (hl:l.length <= 1000000) :
  Calls Tryz.prog 64 #[lv,vv,.int .i64 c] w fun e w' => ∃ v,e = .returned v /\ ∃ ra rn rc,v = .slice ra rn rc /\ RReadB B w' (.slice ra rn rc) (addL l xs c) /\ Below w.heap.size w w':=by
 refine (add_any B lv vv l xs c w hB h hv hub (by omega) (by omega) (fun j hj => ?_)).mono ?_
 ·have e:rAt l j = l[j]:=by unfold rAt;rw [List.getD_eq_getElem?_getD,List.getElem?_eq_getElem hj];rfl
  have:=hw l[j] (List.getElem_mem hj)
  rw [e];omega
 ·rintro e w' ⟨rv,rfl,h1,h2⟩
  have h3:=h1
  obtain ⟨a,cap,rfl,_⟩:=h3
  exact ⟨_,rfl,a,_,cap,rfl,h1,h2⟩
theorem change_ref (B:Nat) (wv iv:Value) (was now:Rws) (w:World) (hB:B <= w.heap.size) (h1:RReadB B w wv was) (h2:RReadB B w iv now) (n:Nat) (hn:n <= 6) (hw1:WidL n was) (hw2:WidL n now) (hl1:was.length <= 100000) (hl2:now.length <= 100000) :
  Calls Tryz.prog 65 #[wv,iv] w (JoinC B w (chL was now)):=by
 obtain ⟨wa,wcap,rfl,hrd⟩:=h1
 have HRD:Hid _:=hrd
 have H2:Hid (RReadB B w iv now):=h2
 obtain ⟨ia,icap,rfl,_⟩:=h2
 have HW1:Hid _:=hw1
 have HW2:Hid _:=hw2
 clear hrd hw1 hw2
 go_enter Tryz.func65,Tryz.ntmps65
 go_wp2_with fail
 go_loopw [5,6] (fun xv kv wx => ∃ (k:Nat) (xa:Option Addr) (xn xc:Nat),k <= was.length /\ kv = .int .i64 k /\ xv = .slice xa xn xc /\ RReadB B wx xv (chL (was.take k) now) /\ Below w.heap.size w wx) (fun _ kv _ => was.length - (intOf kv).toNat)
 case atStart => exact ⟨0,_,_,_,Nat.zero_le _,rfl,rfl,H2.out,Below.refl _ _⟩
 case round =>
  obtain ⟨k,xa,xn,xc,hk,rfl,rfl,hrk,hb⟩:=hrel
  by_cases hlt:k < was.length
  ·have bk:(k:Int) < (was.length:Int):=by omega
   obtain ⟨g,off,rfl,_,q⟩:=HRD.out (by omega)
   obtain ⟨⟨u,e1,e2,e4⟩,e3⟩:=q k hlt
   have hfb:=Fr.of_below (M:=fun _ => False) hb
   have f1:=hfb.cell (mps_none _) e1
   have f3:=hfb.cell (mps_none _) e3
   have HST:Hid _:=chL_take was now k hlt
   have hkw:=HW1.out (rAt was k) (by
    have e:rAt was k = was[k]:=by unfold rAt;rw [List.getD_eq_getElem?_getD,List.getElem?_eq_getElem hlt];rfl
    rw [e];exact List.getElem_mem hlt)
   have hlen:=chL_len (was.take k) now
   rw [List.length_take] at hlen
   have ADD:=add_step B (.slice xa xn xc) u (chL (was.take k) now) (rAt was k).1 (Go.Proofs.YtondkinefmjpjaaGreat.wr (-(rAt was k).2)) wr.drew (Nat.le_trans hB hb.drew.size) hrk (e2.below hb.drew) e4 n hn hkw (chL_wid (fun x hx => HW1.out x (List.mem_of_mem_take hx)) HW2.out) (by omega)
   obtain ⟨AK,hAK⟩:∃ AK,chL (was.take k) now = AK:=⟨_,rfl⟩
   rw [hAK] at HST ADD hrk
   obtain ⟨KV,KX,hKK⟩:∃ KV KX,rAt was k = (KV,KX):=⟨_,_,rfl⟩
   rw [hKK] at f3 HST ADD e2
   obtain ⟨ua,uc,rfl,_⟩:=e2
   simp only at ADD
   clear q e1 e3 e4 hKK hAK hlen hkw hfb
   go_wp2_with fail
   go_region_law (refine step_call rfl 64 #[.tmp 14,.tmp 19,.tmp 25] #[33,28,3] rfl enter64 #[.slice xa xn xc,.slice ua KV.length uc,.int .i64 (IntKind.i64.wrap (-KX))] (by kernel_rfl) _ ADD ?_;rintro v1 w2 ⟨ra,rn,rc,rfl,hr2,hb2⟩)
   all_goals have hB2:Below w.heap.size w w2:=hb.drew.trans (hb2.mono hb.drew.size)
   all_goals go_wp2_with fail
   all_goals go_roundw
   all_goals first
    | (simp [intOf];omega)
    | exact ⟨k + 1,_,_,_,by omega,by go_num,rfl,by rw [HST.out];exact hr2,hB2⟩
  ·have bk:¬ (k:Int) < (was.length:Int):=by omega
   have hkk:k = was.length:=by omega
   rw [hkk,List.take_length] at hrk
   clear hkk
   go_wp2_with fail
   go_ret
   exact ⟨_,_,_,rfl,hrk,hb⟩
def putV (rl:List RfD) (r:Nat) (v:Value):List RfD:=rl.set r ((rl.getD r rf0).1,(rl.getD r rf0).2.1,v)
def putRR (RR:Nat -> Rws) (r:Nat) (rows:Rws):Nat -> Rws:=fun q => if q = r then rows else RR q
theorem putV_len (rl:List RfD) (r:Nat) (v:Value):(putV rl r v).length = rl.length:=by simp [putV]
theorem putV_at (rl:List RfD) (r:Nat) (v:Value) (q:Nat) (hq:q < rl.length):((putV rl r v).getD q rf0).1 = (rl.getD q rf0).1 /\ ((putV rl r v).getD q rf0).2.1 = (rl.getD q rf0).2.1 /\ ((putV rl r v).getD q rf0).2.2 = if q = r then v else (rl.getD q rf0).2.2:=by
 unfold putV
 rw [List.getD_eq_getElem?_getD (l:=rl.set _ _),List.getElem?_set]
 by_cases e:r = q
 ·subst e
  simp [hq]
 ·have e':¬ q = r:=fun h => e h.symm
  rw [if_neg e,if_neg e',← List.getD_eq_getElem?_getD]
  exact ⟨rfl,rfl,rfl⟩
theorem fix_put (rl:List RfD) (r:Nat) (v:Value) (t:ByteArray):fixOf (putV rl r v) t = fixOf rl t:=by
 have h:∀ (rl:List RfD) (r:Nat) (w:RfD),(∀ h:r < rl.length,w.1 = rl[r].1) -> (rl.set r w).findIdx (fun p => p.1.toList == t.toList) = rl.findIdx (fun p => p.1.toList == t.toList):=by
  intro rl
  induction rl with
  | nil => intro r w _;rfl
  | cons d rl ih =>
   intro r w hw
   cases r with
   | zero =>
    have:w.1 = d.1:=hw (by simp)
    rw [List.set_cons_zero,List.findIdx_cons,List.findIdx_cons,this]
   | succ r =>
    rw [List.set_cons_succ,List.findIdx_cons,List.findIdx_cons,ih r w (fun h => by have:=hw (by simpa using h);simpa using this)]
 unfold fixOf putV
 rw [h rl r _ (fun hr => by rw [List.getD_eq_getElem?_getD,List.getElem?_eq_getElem hr];rfl),List.length_set]
theorem relR_put (l:List K.AD) (rl:List RfD) (r:Nat) (v:Value):relR l (putV rl r v) = relR l rl:=by
 funext i;unfold relR;rw [fix_put]
theorem rfcells_set (rl:List RfD) (r:Nat) (hr:r < rl.length) (v:Value):(rfcells rl).set (r * 3 + 2) v = rfcells (putV rl r v):=by
 unfold putV
 rw [List.getD_eq_getElem?_getD,List.getElem?_eq_getElem hr,Option.getD_some]
 induction rl generalizing r with
 | nil => simp at hr
 | cons d rl ih =>
  cases r with
  | zero => rfl
  | succ r =>
   have e:=ih r (by simpa using hr)
   have e1:∀ (d:RfD) (l:List RfD),rfcells (d :: l) = .string d.1 :: .int .i64 d.2.1 :: d.2.2 :: rfcells l:=fun d l => by simp [rfcells]
   rw [e1,show (r + 1) * 3 + 2 = (r * 3 + 2) + 1 + 1 + 1 by omega,List.set_cons_succ,List.set_cons_succ,List.set_cons_succ,List.set_cons_succ,e1,List.getElem_cons_succ,e]
def T140 (B rbase:Nat) (w:World) (M:Nat -> Prop):Prop:=∀ i,M i -> i < B /\ rbase <= i /\ ∃ c,w.heap[i]? = some (.cells c 140 (0,0))
theorem RVS.put {B:Nat} {w:World} {vb qb base rbase nv:Nat} {head:List Nat} {l:List K.AD} {rl:List RfD} {RR:Nat -> Rws} (h:RVS B w vb qb base rbase nv head l rl RR) {r:Nat} (hr:r < rl.length) {rg cap:Nat} (hc:w.cell? ⟨vb,1,none⟩ = some (.slice (some ⟨rg,0,none⟩) rl.length cap)) {rows:Rws} {v:Value} (hv:RReadB B w v rows) :
  RVS B (w.setCell ⟨rg,r * 3 + 2,none⟩ v) vb qb base rbase nv head l (putV rl r v) (putRR RR r rows) /\ Fr (fun i => i = rg) w (w.setCell ⟨rg,r * 3 + 2,none⟩ v) /\ T140 B rbase w (fun i => i = rg) /\ w.frozen? ⟨rg,r * 3 + 2,none⟩ = false /\ ∃ x,w.cell? ⟨rg,r * 3 + 2,none⟩ = some x:=by
 obtain ⟨rv,r1,r2,r3⟩:=h.blk
 have e:rv = .slice (some ⟨rg,0,none⟩) rl.length cap:=by
  have:w.cell? ⟨vb,1,none⟩ = some rv:=by simp [World.cell?,r1]
  rw [this] at hc;exact Option.some.inj hc
 subst e
 have hB:=r3 rg rfl
 have hblk:∃ c,w.heap[rg]? = some (.cells c 140 (0,0)):=by
  rcases r2.2 with ⟨h,_⟩ | ⟨g,cap',cur,h,_,h2,_⟩
  ·cases h
  ·simp only [Value.slice.injEq,Option.some.injEq,Addr.mk.injEq,and_true,true_and] at h
   rw [h.1];exact ⟨_,h2⟩
 obtain ⟨cc,hcc⟩:=hblk
 have hne:∀ {i:Nat} {c:Array Value} {t:TypeId} {z:Nat × Nat},w.heap[i]? = some (.cells c t z) -> t ≠ 140 -> (w.setCell ⟨rg,r * 3 + 2,none⟩ v).heap[i]? = some (.cells c t z):=fun {i c t z} e ht => (Below.heap_setCell _ _ _ _ (fun e' => by rw [e',hcc] at e;simp at e;exact ht e.2.1.symm)).trans e
 have hown:∀ {b e s:Nat} {v':Value} {n:Nat} {xs:List Value},w.ownsRow b e s v' n xs -> e ≠ 140 -> (w.setCell ⟨rg,r * 3 + 2,none⟩ v).ownsRow b e s v' n xs:=fun {b e s v' n xs} ho he => by
  refine ⟨ho.1,?_⟩
  rcases ho.2 with hn | ⟨g,cap',cur,rfl,h1,h2,rest⟩
  ·exact .inl hn
  ·exact .inr ⟨g,cap',cur,rfl,h1,hne h2 he,rest⟩
 obtain ⟨va,vcap,hv',av,q1,q2,q3⟩:=h.q
 obtain ⟨z0,z1,z2⟩:=rfcells_at rl r hr
 refine ⟨⟨by simpa using h.sz,⟨_,hne r1 (by decide),?_,r3⟩,⟨va,vcap,hv',av,hne q1 (by decide),hown q2 (by decide),hown q3 (by decide)⟩,fun d hd => hown (h.ts d hd) (by decide),fun q hq => ?_⟩,Fr.setCell (M:=fun i => i = rg) ⟨rg,r * 3 + 2,none⟩ v (fun _ => rfl),fun i hi => by rw [hi];exact ⟨hB,(r2.lt rg rfl).1,cc,hcc⟩,r2.frozenAt _,_,(r2.cellAt (r * 3 + 2) (by omega)).trans z2⟩
 ·rw [putV_len,← rfcells_set rl r hr v]
  exact (r2.stored (r * 3 + 2) v).1
 ·rw [putV_len] at hq
  rw [(putV_at rl r v q hq).2.2]
  unfold putRR
  by_cases e:q = r
  ·rw [if_pos e,if_pos e];exact hv.set (p:=⟨rg,r * 3 + 2,none⟩) hB v
  ·rw [if_neg e,if_neg e];exact (h.rows q hq).set (p:=⟨rg,r * 3 + 2,none⟩) hB v
theorem RefOk.put {nv:Nat} {head:List Nat} {l:List K.AD} {rl:List RfD} {RR:Nat -> Rws} (h:RefOk nv head l rl RR) {r:Nat} {rows:Rws} (v:Value) (hl:rows.length <= 12) (hw:∀ i,i < l.length -> relR l rl i = r -> WidL (l.getD i ad0).ts.length rows):RefOk nv head l (putV rl r v) (putRR RR r rows):=by
 refine ⟨h.n4,h.h6,h.nv6,h.hlt,h.tl,fun i hi => ?_,by rw [putV_len];exact h.nr,fun i hi x hx => ?_,fun q => ?_⟩
 ·rw [relR_put,fix_put,putV_len];exact h.fx i hi
 ·rw [relR_put] at hx
  unfold putRR at hx
  by_cases e:relR l rl i = r
  ·rw [if_pos e] at hx;exact hw i hi e x hx
  ·rw [if_neg e] at hx;exact h.rw' i hi x hx
 ·unfold putRR;split
  ·exact hl
  ·exact h.few q
theorem refRows_put (nv:Nat) (head:List Nat) (l:List K.AD) (rl:List RfD) (r:Nat) (v:Value) (RR:Nat -> Rws):refRows nv head l (putV rl r v) RR = refRows nv head l rl RR:=by
 unfold refRows;rw [relR_put]
theorem refRows_wid (nv:Nat) (head:List Nat) (l:List K.AD) (rl:List RfD) (RR:Nat -> Rws):WidL head.length (refRows nv head l rl RR):=jnL_wid _ _ _ _ _ _ _ (fun _ h => by cases h)
theorem refRows_len {nv:Nat} {head:List Nat} {l:List K.AD} {rl:List RfD} {RR:Nat -> Rws} (h:RefOk nv head l rl RR):(refRows nv head l rl RR).length <= 20736:=by
 have h1:=jnL_len head (patR l) (fun i => RR (relR l rl i)) (fun i => h.few _) (List.range' 0 l.length) (List.replicate nv (-1)) 1 []
 have h2:12 ^ l.length <= 12 ^ 4:=Nat.pow_le_pow_right (by omega) h.n4
 have h3:(12:Nat) ^ 4 = 20736:=rfl
 rw [List.length_range',List.length_nil] at h1
 unfold refRows
 omega
end Go.Proofs.YtondkinefmjpjaaGreat
