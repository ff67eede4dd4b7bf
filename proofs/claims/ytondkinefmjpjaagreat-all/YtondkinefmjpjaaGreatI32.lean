import Derived.Test.YtondkinefmjpjaaGreatI23
import Derived.Test.YtondkinefmjpjaaGreatI26
import Derived.Test.YtondkinefmjpjaaGreatI27
set_option maxHeartbeats 8000000
set_option maxRecDepth 100000
namespace Go.Proofs.YtondkinefmjpjaaGreat
open Go.RowKit Go.WideMaps Go.WideElems Go.Maps
theorem hv_any (pb po base:Nat) (head:List Nat) (hv:Value) (a:List Int) (w:World) (hc:w.cell? ⟨pb,po,none⟩ = some hv) (hrow:w.ownsRow base 3 1 hv head.length (nats head)) (hlen:head.length <= 6) (hlt:∀ n,n ∈ head -> n < 6) (ha:a.length = 6) :
  Calls Tryz.prog 42 #[.pointer (some ⟨pb,po,none⟩),.agg (i64s a).toArray] w fun e w' => ∃ g cap,e = .returned (.slice (some ⟨g,0,none⟩) head.length cap) /\ w'.ownsRow (w.heap.size + 1) 3 1 (.slice (some ⟨g,0,none⟩) head.length cap) head.length (i64s (hvals head a)) /\ Below w.heap.size w w':=by
 obtain ⟨ha1,hcap1,rfl⟩:=vown_form hrow
 have lp:=World.block_lt_of_cell? _ _ hc
 obtain ⟨a0,a1,a2,a3,a4,a5,hae⟩:=six a ha
 have hA:(i64s a).toArray = #[.int .i64 a0,.int .i64 a1,.int .i64 a2,.int .i64 a3,.int .i64 a4,.int .i64 a5]:=by rw [hae];rfl
 obtain ⟨i0,hi0,hz0,hz1,hz2⟩:=info_parts Tryz.info3
 have HLT:Hid (∀ n,n ∈ head -> n < 6):=hlt
 have HEND:Hid (i64s (hvK head a head.length) = i64s (hvals head a)):=by unfold Hid;rw [hvK_end]
 have bx:(w.alloc (.cells #[.int .i64 a0,.int .i64 a1,.int .i64 a2,.int .i64 a3,.int .i64 a4,.int .i64 a5] 93)).heap[w.heap.size]? = some (.cells (i64s a).toArray 93 (0,0)):=by rw [hA];exact vheap_alloc_new _ _
 rw [hA]
 clear hlt hA
 go_enter Tryz.func42,Tryz.ntmps42
 go_wp2_with (at_make;refine wpList_make_full _ rfl (.tmp 12) (.tmp 12) 28 rfl (w.heap.size + 1) 3 i0 (.int .i64 0) 1 Tryz.underlying28 hi0 hz0 hz1 .i64 .i64 (head.length:Int) (head.length:Int) head.length rfl rfl rfl rfl (by rw [hz2];omega) (by unfold maxLen;omega) (by simp) ?_;intro w1 hown1 hgrow1;have hb1:Below w.heap.size w w1:=((Below.refl _ _).alloc (Nat.le_refl _) _).grown hgrow1 (by simp) (fun k e => by cases e);have hc1:=(hb1.cell (p:=⟨pb,po,none⟩) lp).trans hc)
 have bx1:=(hgrow1.block w.heap.size (by simp) (by simp)).trans bx
 rw [made_ints,← hvK_zero head a] at hown1
 simp only [World.size_alloc] at hown1
 have lx1:=vlt_of_block bx1
 clear hgrow1 hi0 hz0 hz1 hz2 bx
 go_loopw [6,7,19] (fun _ _ iv wr => ∃ k:Nat,k <= head.length /\ iv = .int .i64 k /\ wr.ownsRow (w.heap.size + 1) 3 1 (.slice (some ⟨w.heap.size + 1,0,none⟩) head.length head.length) head.length (i64s (hvK head a k)) /\ Below w.heap.size w wr /\ wr.heap[w.heap.size]? = some (.cells (i64s a).toArray 93 (0,0))) (fun _ _ iv _ => head.length - (intOf iv).toNat)
 case atStart => exact ⟨0,Nat.zero_le _,rfl,hown1,hb1,bx1⟩
 case round =>
  obtain ⟨k,hk,rfl,hown,hb,hbx⟩:=hrel
  by_cases hkl:k < head.length
  ·obtain ⟨g,cap',he⟩:=vown_some hrow (by omega)
   simp only [Value.slice.injEq,true_and] at he
   obtain ⟨rfl,rfl⟩:=he
   have lg:g < w.heap.size:=(hrow.lt g rfl).2
   have h1:=(hb.cell (p:=⟨g,k,none⟩) lg).trans (nats_at hrow rfl k hkl)
   have hN:=HLT.out _ (getD_mem hkl)
   have HS:Hid _:=hvK_step head a k hkl
   obtain ⟨N,hNN⟩:∃ N,head.getD k 0 = N:=⟨_,rfl⟩
   rw [hNN] at h1 hN HS
   clear hNN
   have h2:=blk_cell hbx N (by omega)
   obtain ⟨V,hV⟩:∃ V,a.getD N 0 = V:=⟨_,rfl⟩
   rw [hV] at h2 HS
   clear hV
   have st:=hown.stored k (.int .i64 V)
   have s0:=hown.cellAt k (by omega)
   have s1:wr.cell? ⟨w.heap.size + 1,k,none⟩ = some (.int .i64 ((hvK head a k).getD k 0)):=by
    rw [s0];simp [i64s,hvK,List.getD,hkl]
   have f0:=hown.frozenAt k
   have lw1:w.heap.size + 1 < wr.heap.size:=(hown.lt _ rfl).2
   have ST:Hid _:=st
   have bk:(k:Int) < (head.length:Int):=by omega
   have bN:(N:Int) < 6:=by omega
   clear s0 st
   go_wp2_with fail
   go_roundw
   case rel =>
    refine ⟨k + 1,by omega,by go_num,by rw [HS.out];exact ST.out.1,hb.setCell (p:=⟨w.heap.size + 1,k,none⟩) (by simp) _,?_⟩
    rw [Below.heap_setCell _ _ _ _ (by show w.heap.size ≠ w.heap.size + 1;omega)];exact hbx
   case measure => simp [intOf];omega
  ·have hkk:k = head.length:=by omega
   subst hkk
   go_wp2_with fail
   go_ret
   exact ⟨_,_,rfl,by rw [← HEND.out];exact hown,hb⟩
def rowsL (vals:List Int -> List Int) (f:List Int -> Int) (l:List (List Int)):Rws:=l.map fun a => (vals a,wr (f a))
def doneL (N:Nat) (f:List Int -> Int) (left:Lit -> Bool):List (List Int):=(live N f).filter fun a => !left (klOf a)
theorem doneL_start {N:Nat} {f:List Int -> Int} {left:Lit -> Bool} (h:∀ a,a ∈ live N f -> left (klOf a) = true):doneL N f left = []:=by
 unfold doneL;rw [List.filter_eq_nil_iff];intro a ha;simp [h a ha]
theorem doneL_end {N:Nat} {f:List Int -> Int} {left:Lit -> Bool} (h:∀ kl,left kl = false):doneL N f left = live N f:=by
 unfold doneL;rw [List.filter_eq_self];intro a _;simp [h]
theorem filter_one_more {α:Type} [DecidableEq α] {l:List α} (hn:l.Nodup) {x:α} (hx:x ∈ l) (p:α -> Bool) (hp:p x = false):(l.filter fun a => p a || decide (a = x)).Perm (l.filter p ++ [x]):=by
 induction l with
 | nil => simp at hx
 | cons a l ih =>
  rw [List.nodup_cons] at hn
  by_cases e:a = x
  ·subst e
   have h1:(l.filter fun b => p b || decide (b = a)) = l.filter p:=by
    refine List.filter_congr fun b hb => ?_
    have:b ≠ a:=fun e => hn.1 (e ▸ hb)
    simp [this]
   rw [List.filter_cons,List.filter_cons]
   simp only [hp,decide_true,Bool.or_true,if_true,Bool.false_eq_true,if_false,h1]
   exact (List.perm_append_comm (l₁:=[a]) (l₂:=l.filter p))
  ·have hx':x ∈ l:=by rcases List.mem_cons.1 hx with e' | h;exact absurd e'.symm e;exact h
   have:=ih hn.2 hx'
   rw [List.filter_cons,List.filter_cons]
   simp only [e,decide_false,Bool.or_false]
   split
   ·rw [List.cons_append];exact this.cons a
   ·exact this
theorem doneL_step {N:Nat} (hN:N = 6 ∨ N = 3) {f:List Int -> Int} {left:Lit -> Bool} {x:List Int} (hx:x ∈ live N f) (hl:left (klOf x) = true):(doneL N f (fun z => left z && !z.sameKey (klOf x))).Perm (doneL N f left ++ [x]):=by
 have h1:doneL N f (fun z => left z && !z.sameKey (klOf x)) = (live N f).filter fun a => !left (klOf a) || decide (a = x):=by
  refine List.filter_congr fun a ha => ?_
  by_cases e:a = x
  ·subst e;simp [sameKey_self]
  ·have:(klOf a).sameKey (klOf x) = false:=sameKey_ne (fun h => e (kl_inj hN (mem_live.1 ha).1 (mem_live.1 hx).1 h))
   simp [this,e]
 rw [h1]
 exact filter_one_more (live_nodup N f) hx (fun a => !left (klOf a)) (by simp [hl])
theorem doneL_len {N:Nat} {f:List Int -> Int} {left:Lit -> Bool}:(doneL N f left).length <= (live N f).length:=List.length_filter_le _ _
def TL (N k:Nat) (w wr:World) (b r n:Nat) (D:DataW Unit) (vals:List Int -> List Int) (f:List Int -> Int) (rv:Value):Prop :=
 ∃ left cnt us l,wr.ranges (H:=Unit) Tryz.prog k (plainElem Tryz.prog 3) b r n D left cnt /\ (∀ kl,left kl = true -> has D kl = true) /\ RNew 55 w.heap.size wr rv us l /\ l.Perm (rowsL vals f (doneL N f left)) /\ Below w.heap.size w wr /\ (l = [] -> rv = .slice none 0 0)
theorem key_live {N:Nat} {D:DataW Unit} {f:List Int -> Int} (hr:Rep N D f) {x:List Int} {cc:Int} (hinj:∀ y,y ∈ boxN N -> klOf x = klOf y -> x = y) (hh:has D (klOf x) = true) (hat:∀ zd,D.atKey (klOf x) zd = i64d cc):x ∈ live N f /\ cc = wr (f x):=by
 obtain ⟨x',hx',e⟩:=hr.1 _ hh
 have:=hinj x' hx' e
 subst this
 rw [hr.2.1 x hx'] at hh
 have hp:wr (f x) ≠ 0:=by simpa using hh
 have hc:=(hat (i64d 0)).symm.trans (hr.2.2 x hx')
 simp only [i64d,DataW.lit.injEq,Lit.int.injEq,true_and] at hc
 exact ⟨mem_live.2 ⟨hx',hp⟩,hc⟩
theorem ranges_iter {w:World} {k:TypeId} {R:Value -> Option (DataW Unit × List MemPlace)} {b r n:Nat} {D:DataW Unit} {left:Lit -> Bool} {cnt:Nat} (h:w.ranges Tryz.prog k R b r n D left cnt):∃ m s seen c,w.heap[r]? = some (.mapIter m s seen c):=by
 obtain ⟨es,clock,since,seen,c0,h1,h2,h3,h4,h5,h6⟩:=h
 exact ⟨_,_,_,_,h5⟩
theorem own_turn {w w1:World} {B:Nat} {e:TypeId} {size:Nat} {v:Value} {n r:Nat} {xs:List Value} (h:w.ownsRow B e size v n xs) (hg:w.grownBy w1 (some r)) (hi:∃ m s seen c,w.heap[r]? = some (.mapIter m s seen c)):w1.ownsRow B e size v n xs:=by
 refine ⟨h.1,?_⟩
 rcases h.2 with hn | ⟨g,cap,cur,rfl,h1,h2,rest⟩
 ·exact .inl hn
 ·refine .inr ⟨g,cap,cur,rfl,h1,(hg.block g (vlt_of_block h2) (fun e => ?_)).trans h2,rest⟩
  obtain ⟨m,s,seen,c,hi⟩:=hi
  have:g = r:=by simpa using e
  subst this
  rw [hi] at h2;cases h2
theorem rnew_turn {e:TypeId} {B r:Nat} {w w1:World} {v:Value} {us:List Value} {l:Rws} (h:RNew e B w v us l) (hg:w.grownBy w1 (some r)) (hi:∃ m s seen c,w.heap[r]? = some (.mapIter m s seen c)):RNew e B w1 v us l :=
 ⟨h.1,own_turn h.2.1 hg hi,fun j hj => own_turn (h.2.2 j hj) hg hi⟩
theorem own_blk_ne {w:World} {B:Nat} {e:TypeId} {size:Nat} {v:Value} {n i:Nat} {xs:List Value} (h:w.ownsRow B e size v n xs) (hi:∀ c t z,w.heap[i]? ≠ some (.cells c t z)):some i ≠ v.ownBlock:=by
 rcases h.2 with ⟨rfl,_⟩ | ⟨g,cap,cur,rfl,h1,h2,rest⟩
 ·simp [Value.ownBlock]
 ·intro e
  have:i = g:=by simpa [Value.ownBlock] using e
  subst this
  exact hi _ _ _ h2
theorem TL.next {N k:Nat} (hN:N = 6 ∨ N = 3) {w w1 w2 w6:World} {b n:Nat} {D:DataW Unit} {vals:List Int -> List Int} {f:List Int -> Int} {left:Lit -> Bool} {cnt1:Nat} {us:List Value} {l:Rws} {rv v6 u:Value} {X:List Int} {A:Obj} {hl:Nat} (hlx:left (klOf X) = true) (hxl:X ∈ live N f) (hleft:∀ kl,left kl = true -> has D kl = true)
  (hrg1:w1.ranges (H:=Unit) Tryz.prog k (plainElem Tryz.prog 3) b w.heap.size n D (fun z => left z && !z.sameKey (klOf X)) cnt1) (hrw1:RNew 55 w.heap.size w1 rv us l) (hperm:l.Perm (rowsL vals f (doneL N f left))) (hb1:Below w.heap.size w w1) (hvl:(vals X).length = hl)
  (bu:Below (w1.alloc A).heap.size (w1.alloc A) w2) (ou:w2.ownsRow ((w1.alloc A).heap.size + 1) 3 1 u hl (i64s (vals X))) (hown6:w6.ownsRow w.heap.size 55 2 v6 (l.length + 1) (rcells us l ++ [u,.int .i64 (wr (f X))])) (hgrow6:(w2.alloc (.cells #[u,.int .i64 (wr (f X))] 55)).grownBy w6 rv.ownBlock) :
  TL N k w w6 b w.heap.size n D vals f v6 /\ w6.rangeLeft b w.heap.size = cnt1:=by
 have hF:Fr (fun _ => False) w1 (w2.alloc (.cells #[u,.int .i64 (wr (f X))] 55)):=((Fr.alloc _ _).trans (Fr.of_below bu) (fun _ _ h => h)).trans (Fr.alloc _ _) (fun _ _ h => h)
 have ho2:=hF.own (mps_none _) hrw1.2.1
 obtain ⟨es,clock,since,seen,c0,q1,q2,q3,q4,q5,q6⟩:=hrg1
 have hrg1:w1.ranges (H:=Unit) Tryz.prog k (plainElem Tryz.prog 3) b w.heap.size n D (fun z => left z && !z.sameKey (klOf X)) cnt1:=⟨es,clock,since,seen,c0,q1,q2,q3,q4,q5,q6⟩
 have hk1:=(hF.block b (vlt_of_block q1) (fun h => h))
 have hk2:=(hF.block w.heap.size (vlt_of_block q5) (fun h => h))
 have e1:w6.heap[b]? = w1.heap[b]?:=(hgrow6.block b (by have:=hF.size;have:=vlt_of_block q1;omega) (own_blk_ne ho2 (fun c t z h => by rw [hk1,q1] at h;cases h))).trans hk1
 have e2:w6.heap[w.heap.size]? = w1.heap[w.heap.size]?:=(hgrow6.block w.heap.size (by have:=hF.size;have:=vlt_of_block q5;omega) (own_blk_ne ho2 (fun c t z h => by rw [hk2,q5] at h;cases h))).trans hk2
 have hrg6:=ranges_block hrg1 e1 e2
 have hs1:=hb1.size
 refine ⟨⟨_,cnt1,us ++ [u],l ++ [(vals X,wr (f X))],hrg6,fun kl h => hleft kl (by simp only [Bool.and_eq_true] at h;exact h.1),?_,?_,?_,fun h => by simp at h⟩,hrg6.left_eq⟩
 ·refine RNew.snoc ⟨hrw1.1,ho2,fun j hj => hF.own (mps_none _) (hrw1.2.2 j hj)⟩ (by decide) ?_ hown6 hgrow6
  rw [hvl]
  exact own_weak (ou.alloc _) (by simp;omega)
 ·refine (hperm.append_right _).trans ?_
  have:=(doneL_step hN hxl hlx).symm
  have h2:=this.map (fun a => (vals a,wr (f a)))
  rw [List.map_append] at h2
  exact h2
 ·refine (((hb1.alloc hs1 A).trans (bu.mono (by simp;omega))).alloc (by have:=bu.size;simp at this;omega) _).grown hgrow6 (by have:=bu.size;simp at this ⊢;omega) (fun j hj => ?_)
  exact (ho2.lt j hj).1
theorem tellA_loop (pb po base:Nat) (head:List Nat) (hv:Value) (b:Nat) (f:List Int -> Int) (w:World) (hc:w.cell? ⟨pb,po,none⟩ = some hv) (hrow:w.ownsRow base 3 1 hv head.length (nats head)) (hlen:head.length <= 6) (hhl:∀ n,n ∈ head -> n < 6) (hCF:CF 93 6 w b f) (hsm:(live 6 f).length <= 1000000)
  (Q:Ending -> World -> Prop) (hQ0:∀ w',live 6 f = [] -> Below w.heap.size w w' -> Calls Tryz.prog 68 #[.slice none 0 0,.func (.func 69) #[] #[]] w' fun e w2 => e = .returned (.tuple #[]) /\ Q (.returned (.slice none 0 0)) w2)
  (hQ:∀ w' us l a cap,RNew 55 w.heap.size w' (.slice (some a) l.length cap) us l -> 0 < l.length -> l.Perm (rowsL (hvals head) f (live 6 f)) -> Below w.heap.size w w' -> Calls Tryz.prog 68 #[.slice (some a) l.length cap,.func (.func 69) #[] #[]] w' fun e w2 => e = .returned (.tuple #[]) /\ Q (.returned (.slice (some a) l.length cap)) w2) :
  Calls Tryz.prog 41 #[.map (some b),.func (.func 42) #[.pointer (some ⟨pb,po,none⟩)] #[]] w Q:=by
 obtain ⟨D,hown,hrep,hsz⟩:=hCF.tight (Or.inl ⟨rfl,rfl⟩)
 obtain ⟨n,hn⟩:∃ n,(live 6 f).length = n:=⟨_,rfl⟩
 rw [hn] at hown hsz
 have HN:Hid ((live 6 f).length = n):=hn
 rw [hn] at hsm
 obtain ⟨i0,hi,hz0,hz1,hz2⟩:=info_parts Tryz.info55
 have HI:Hid _:=hi
 have HZ0:Hid _:=hz0
 have HZ1:Hid _:=hz1
 have HZ2:Hid _:=hz2
 have HREP:Hid _:=hrep
 have HQ0:Hid _:=hQ0
 have HQ:Hid _:=hQ
 have HHL:Hid _:=hhl
 have lb:=hown.lt
 clear hi hz0 hz1 hz2 hrep hn hQ0 hQ hhl
 go_enter Tryz.func41,Tryz.ntmps41
 go_wp2_with (first | (at_range;refine wpList_range_own _ rfl _ 86 rfl 93 3 (Keyed.of_law lawA) Tryz.underlying86 (plainElem Tryz.prog 3) b n D rfl hown ?_;intro w0 hrg0 hg0 hs0) | go_in)
 go_frame
 have T0:Hid (TL 6 93 w w0 b w.heap.size n D (hvals head) f (.slice none 0 0)) :=
  ⟨_,_,[],[],hrg0,fun _ h => h,⟨rfl,World.ownsRow_nil _ _ _ _,fun j hj => absurd hj (by simp)⟩,by rw [doneL_start (fun a ha => by rw [HREP.out.2.1 a (mem_live.1 ha).1];simpa using (mem_live.1 ha).2)];exact List.Perm.refl _,(Below.refl _ _).grown hg0 (Nat.le_refl _) (fun j hj => by cases hj),fun _ => rfl⟩
 clear hrg0 hg0 hs0
 go_loopw [5,6,7] (fun rv _ _ wr => TL 6 93 w wr b w.heap.size n D (hvals head) f rv) (fun _ _ _ wr => wr.rangeLeft b w.heap.size)
 case atStart => exact T0.out
 case round =>
  obtain ⟨left,cnt,us,l,hrg,hleft,hrw,hperm,hb,hnl⟩:=hrel
  have ho:=hrw.2.1
  obtain ⟨ra,rcap,hrv⟩:=vown_form ho
  subst hrv
  have HRW:Hid (RNew 55 w.heap.size wr (.slice ra l.length rcap) us l):=hrw
  have HP:Hid _:=hperm
  have HLF:Hid _:=hleft
  have HB:Hid (Below w.heap.size w wr):=hb
  have hll:l.length <= n:=by
   have h1:=hperm.length_eq
   rw [rowsL,List.length_map] at h1
   have h2:=doneL_len (N:=6) (f:=f) (left:=left)
   have:=HN.out
   omega
  have hws:=hb.size
  have hc1:=(hb.cell (World.block_lt_of_cell? _ _ hc)).trans hc
  have hr1:=vown_below hrow hb
  clear hrw hperm hleft hb
  go_wp2_with (first | (at_next;refine wpList_next_A _ rfl _ rfl b w.heap.size n D _ _ rfl hrg ?_ ?_) | go_in)
  ·intro hl0
   have hp:=HP.out
   rw [doneL_end hl0] at hp
   have HP2:Hid _:=hp
   clear hl0 hp
   by_cases h0:l = []
   ·subst h0
    have hnil:live 6 f = []:=by
     have:=HP2.out.length_eq
     rw [rowsL,List.length_map] at this
     exact List.eq_nil_of_length_eq_zero this.symm
    have hrn:=hnl rfl
    simp only [Value.slice.injEq] at hrn
    obtain ⟨rfl,_,rfl⟩:=hrn
    have CALL:=HQ0.out wr hnil HB.out
    clear hnil hnl ho hr1 hc1
    go_wp2_with (go_at_call 68;refine CALL.mono ?_;rintro e w2 ⟨rfl,hq⟩)
    exact hq
   ·have hpos:0 < l.length:=List.length_pos_iff.2 h0
    obtain ⟨g,cap',he⟩:=vown_some ho hpos
    simp only [Value.slice.injEq,true_and] at he
    obtain ⟨rfl,rfl⟩:=he
    have CALL:=HQ.out wr us l _ _ HRW.out hpos HP2.out HB.out
    clear hnl ho hr1 hc1 h0
    go_wp2_with (go_at_call 68;refine CALL.mono ?_;rintro e w2 ⟨rfl,hq⟩)
    exact hq
  ·intro x0 x1 x2 x3 x4 x5 cc w1 cnt1 hlx hat hwx hrg1 hlt hg1 hs1 hen
   obtain ⟨hxl,rfl⟩:=key_live (x:=[x0,x1,x2,x3,x4,x5]) HREP.out (fun y hy e => klOf_inj rfl (box_length hy) hwx (box_wf hy) e) (HLF.out _ hlx) hat
   obtain ⟨X,hX⟩:∃ X:List Int,[x0,x1,x2,x3,x4,x5] = X:=⟨_,rfl⟩
   have hX6:(i64s X).toArray = #[.int .i64 x0,.int .i64 x1,.int .i64 x2,.int .i64 x3,.int .i64 x4,.int .i64 x5]:=by rw [← hX];rfl
   have hXl:X.length = 6:=by rw [← hX];rfl
   rw [hX] at hxl hlx hrg1 hen ⊢
   obtain ⟨Y,hY⟩:∃ Y,Go.Proofs.YtondkinefmjpjaaGreat.wr (f X) = Y:=⟨_,rfl⟩
   rw [hY] at hen ⊢
   have nbr:b ≠ w.heap.size:=by omega
   have hb1:Below w.heap.size w w1:=HB.out.grown hg1 hws (fun j hj => by cases hj;exact Nat.le_refl _)
   have hc2:=(hb1.cell (World.block_lt_of_cell? _ _ hc)).trans hc
   have lp:=World.block_lt_of_cell? _ _ hc2
   have HV:=fun (u:World) (h:Fr (fun _ => False) w1 u) => hv_any pb po base head hv X u (h.cell (mps_none _) hc2) (h.own (mps_none _) (vown_below hrow hb1)) hlen HHL.out hXl
   rw [hX6] at HV
   have lw1:w.heap.size < w1.heap.size:=by rw [hs1];exact hrg.lt
   have hrw1:RNew 55 w.heap.size w1 (.slice ra l.length rcap) us l:=rnew_turn HRW.out hg1 (ranges_iter hrg)
   have ho1:=hrw1.2.1
   have HRW1:Hid _:=hrw1
   have HRG1:Hid _:=hrg1
   have HB1:Hid (Below w.heap.size w w1):=hb1
   clear hX hX6 hXl hr1 hc1 hrw1 hrg1 ho hnl hs1
   go_wp2_with (first | (go_at_call 42;refine (HV _ (Fr.alloc _ _)).mono ?_;rintro e w2 ⟨ug,uc,rfl,ou,bu⟩) | (at_builtin;refine wpList_append_own _ rfl (.tmp 15) (.tmp 21) 31 rfl w.heap.size 55 i0 (.agg #[.slice none 0 0,.int .i64 0]) 2 32 Tryz.underlying31 HI.out HZ0.out HZ1.out HZ2.out rfl (by decide) (.slice ra l.length rcap) _ _ rfl ((vown_below (vown_below ho1 ((Below.refl _ _).alloc (Nat.le_refl _) _)) bu).alloc _) ⟨w2.heap.size,0,none⟩ 1 1 [.slice (some ⟨ug,0,none⟩) head.length uc,.int .i64 Y] rfl rfl (vtwo_new _ _ _ _) (by intro u hu;simp at hu;rcases hu with rfl | rfl <;> rfl) (by unfold maxLen;omega) (by omega) (by have:=bu.size;simp at this ⊢;omega) ?_;intro v6 w6 hown6 hgrow6 _;obtain ⟨ra6,rcap6,rfl⟩:=vown_form hown6) | go_in)
   rw [← hY] at hown6 hgrow6
   obtain ⟨t1,t2⟩:=TL.next (Or.inl rfl) hlx hxl HLF.out HRG1.out HRW1.out HP.out HB1.out (by simp [hvals]) bu ou hown6 hgrow6
   exact ⟨t1,by rw [t2,hrg.left_eq];exact hlt⟩
end Go.Proofs.YtondkinefmjpjaaGreat
namespace Go.Proofs.YtondkinefmjpjaaGreat
open Go.RowKit Go.WideMaps Go.WideElems Go.Maps Go.Shelf Go.Lib Go.Sort
def RiseL (l:Rws):Prop:=l.Pairwise fun x y => ¬ cmpL y.1 x.1 < 0
theorem rcells_flat {w:World} {blk:Nat} [Inhabited (RV w blk)] (d:Array (RV w blk)):rcells (d.toList.map fun r => r.v) (d.toList.map fun r => (r.xs,r.n)) = (flatK encR 2 d).toList:=by
 have h:∀ l:List (RV w blk),rcells (l.map fun r => r.v) (l.map fun r => (r.xs,r.n)) = l.flatMap encR:=by
  intro l
  induction l with
  | nil => rfl
  | cons x l ih => simp only [List.map_cons,rcells,List.flatMap_cons,encR] at ih ⊢;rw [ih];rfl
 rw [h]
 apply List.ext_getElem
 ·have e0:(flatK encR 2 d).toList.length = d.size * 2:=by rw [Array.length_toList,size_flatK]
  have e1:∀ l:List (RV w blk),(l.flatMap encR).length = l.length * 2:=by
   intro l
   induction l with
   | nil => rfl
   | cons x l ih => rw [List.flatMap_cons,List.length_append,ih,List.length_cons];simp [encR];omega
  rw [e0,e1,Array.length_toList]
 ·intro j h1 h2
  have h2':j < d.size * 2:=by rw [Array.length_toList,size_flatK] at h2;exact h2
  have e1:(flatK encR 2 d).toList[j] = (flatK encR 2 d)[j]!:=by rw [getElem!_pos _ j (by rw [size_flatK];exact h2')];rfl
  rw [e1,get_flatK encR 2 d j h2']
  have hget:∀ (l:List (RV w blk)) (j:Nat) (hj:j < (l.flatMap encR).length) (h3:j / 2 < l.length),(l.flatMap encR)[j] = (encR l[j / 2])[j % 2]!:=by
   intro l
   induction l with
   | nil => intro j hj;simp at hj
   | cons x l ih =>
    intro j hj h3
    match j,hj,h3 with
    | 0,_,_ => simp [encR]
    | 1,_,_ => simp [encR]
    | j + 2,hj,h3 =>
     have e2:(j + 2) / 2 = j / 2 + 1:=by omega
     have e3:(j + 2) % 2 = j % 2:=by omega
     have h4:j / 2 < l.length:=by simp at h3;omega
     have:=ih j (by simp [encR] at hj ⊢;omega) h4
     simp only [e2,e3,List.getElem_cons_succ]
     rw [← this]
     simp [List.flatMap_cons,encR]
  have h3:j / 2 < d.toList.length:=by rw [Array.length_toList];omega
  rw [hget d.toList j h1 h3,getElem!_pos d (j / 2) (by omega)]
  rfl
theorem sorted_own {w:World} {blk n B cap:Nat} [Inhabited (RV w blk)] {d d':Array (RV w blk)} {os:Array Obj} {us:List Value} {l:Rws} (ho:w.ownsRow B 55 2 (.slice (some ⟨blk,0,none⟩) l.length cap) l.length (rcells us l)) (hd:d.size = l.length) (hs:d'.size = d.size) :
  (sortWorldK encR 2 w blk 0 n d' os).ownsRow B 55 2 (.slice (some ⟨blk,0,none⟩) l.length cap) l.length (rcells (d'.toList.map fun r => r.v) (d'.toList.map fun r => (r.xs,r.n))):=by
 rcases ho.2 with ⟨h,_⟩ | ⟨g,cap',cur,h,h1,h2,h3,h4,h5,h6⟩
 ·cases h
 ·simp only [Value.slice.injEq,Option.some.injEq,Addr.mk.injEq,and_true,true_and] at h
  obtain ⟨rfl,rfl⟩:=h
  have hlen:(rcells (d'.toList.map fun r => r.v) (d'.toList.map fun r => (r.xs,r.n))).length = l.length * 2:=by rw [rcells_flat,Array.length_toList,size_flatK,hs,hd]
  refine ⟨hlen,Or.inr ⟨blk,cap,putCells id 0 (flatK encR 2 d') cur,rfl,h1,?_,h3,h4,by unfold putCells;rw [Array.size_mapIdx];exact h5,?_⟩⟩
  ·have hlt:=vlt_of_block h2
   unfold sortWorldK grow putRowK putRow mapBlock
   show ((w.heap.modify blk _) ++ os)[blk]? = _
   rw [Array.getElem?_append_left (by simpa using hlt),Array.getElem?_modify]
   simp [h2,onCells]
  ·rw [rcells_flat]
   have hsz:(flatK encR 2 d').size = l.length * 2:=by rw [size_flatK,hs,hd]
   have hcur:l.length * 2 <= cur.size:=by rw [h5];exact Nat.mul_le_mul_right 2 h3
   apply List.ext_getElem
   ·simp [putCells,hsz,hcur]
   ·intro j j1 j2
    have hj:j < l.length * 2:=by rw [Array.length_toList,hsz] at j2;exact j2
    simp only [List.getElem_take,Array.getElem_toList,putCells,Array.getElem_mapIdx]
    rw [if_pos ⟨Nat.zero_le _,by rw [Nat.zero_add,hsz];exact hj⟩,Nat.sub_zero,getElem!_pos _ j (by rw [hsz];exact hj)]
    rfl
theorem sortWorld_fr {w:World} {blk n:Nat} [Inhabited (RV w blk)] {d':Array (RV w blk)} {os:Array Obj} (_hblk:blk < w.heap.size):Fr (fun i => i = blk) w (sortWorldK encR 2 w blk 0 n d' os):=by
 refine ⟨?_,rfl,rfl,rfl,fun i hi hn => ?_⟩
 ·unfold sortWorldK grow putRowK putRow mapBlock
  show w.heap.size <= ((w.heap.modify blk _) ++ os).size
  simp
 ·unfold sortWorldK grow putRowK putRow mapBlock
  show ((w.heap.modify blk _) ++ os)[i]? = _
  rw [Array.getElem?_append_left (by simpa using hi),Array.getElem?_modify,if_neg (fun e => hn e.symm)]
theorem sort_gen (c : Nat) (SA : ∀ (w : World) (blk cap : Nat) [Inhabited (RV w blk)] (d : Array (RV w blk)), HoldsK encR 2 w blk 0 d → blk < w.heap.size → d.size < 4611686018427387904 → Calls Tryz.prog 68 #[.slice (some ⟨blk, 0, none⟩) d.size cap, .func (.func c) #[] #[]] w fun e w' => e = .returned (.tuple #[]) ∧ ∃ d' n os, PermIn 0 d.size d d' ∧ SortedIn (ltOf cfR) 0 d.size d' ∧ w' = sortWorldK encR 2 w blk 0 n d' os) (B : Nat) (w : World) (a : Addr) (cap : Nat) (us : List Value) (l : Rws) (h : RNew 55 B w (.slice (some a) l.length cap) us l) (h0 : 0 < l.length) (hl6 : ∀ r, r ∈ l → r.1.length ≤ 6) (hsz : l.length < 4611686018427387904) :
    Calls Tryz.prog 68 #[.slice (some a) l.length cap, .func (.func c) #[] #[]] w fun e w2 => e = .returned (.tuple #[]) ∧ ∃ us' l', l'.length = l.length ∧ RNew 55 B w2 (.slice (some a) l.length cap) us' l' ∧ l'.Perm l ∧ RiseL l' ∧ Fr (fun i => B ≤ i) w w2 := by
  have hal : ∃ blk, a = ⟨blk, 0, none⟩ := by
    obtain ⟨g, cap', he⟩ := vown_some h.2.1 h0
    simp only [Value.slice.injEq, Option.some.injEq, true_and] at he
    exact ⟨g, he.1⟩
  obtain ⟨blk, rfl⟩ := hal
  obtain ⟨hul, ho, hin⟩ := h
  have hblk : blk < w.heap.size := (ho.lt blk rfl).2
  have hB : B ≤ blk := (ho.lt blk rfl).1
  have hmem : ∀ j, j < l.length → rAt l j ∈ l := fun j hj => by unfold rAt; rw [List.getD_eq_getElem?_getD, List.getElem?_eq_getElem hj]; exact List.getElem_mem hj
  have hout : ∀ j, j < l.length → ∀ g off c, us.getD j undef = .slice (some ⟨g, off, none⟩) (rAt l j).1.length c → g ≠ blk := by
    intro j hj g off c e hg
    rcases own_ne (hin j hj) ho (by decide) with h1 | h1
    · rw [e] at h1; simp [Value.ownBlock] at h1
    · rw [e, hg] at h1; exact h1 rfl
  haveI := rvDef w blk
  let mk : (j : Nat) → j < l.length → RV w blk := fun j hj => ⟨us.getD j undef, (rAt l j).2, (rAt l j).1, reads_own (hin j hj) rfl, hl6 _ (hmem j hj), hout j hj⟩
  let dl : List (RV w blk) := (List.range l.length).attach.map fun j => mk j.1 (List.mem_range.1 j.2)
  have dlen : dl.length = l.length := by simp [dl]
  have dget : ∀ j (hj : j < l.length), dl[j]'(by rw [dlen]; exact hj) = mk j hj := fun j hj => by simp [dl]
  have dv : (dl.toArray.toList.map fun r => r.v) = us := by
    apply List.ext_getElem (by simp [dlen, hul])
    intro j h1 h2
    have hj : j < l.length := by rw [← hul]; exact h2
    simp only [List.getElem_map]
    rw [dget j hj]
    show us.getD j undef = _
    rw [List.getD_eq_getElem?_getD, List.getElem?_eq_getElem h2]; rfl
  have dr : (dl.toArray.toList.map fun r => (r.xs, r.n)) = l := by
    apply List.ext_getElem (by simp [dlen])
    intro j h1 h2
    simp only [List.getElem_map]
    rw [dget j h2]
    show ((rAt l j).1, (rAt l j).2) = _
    unfold rAt
    rw [List.getD_eq_getElem?_getD, List.getElem?_eq_getElem h2]; rfl
  have hflat := rcells_flat dl.toArray
  rw [dv, dr] at hflat
  have hd : dl.toArray.size = l.length := by simp [dlen]
  have hH : HoldsK encR 2 w blk 0 dl.toArray := by
    intro j hj
    rw [size_flatK, hd] at hj
    rw [Nat.zero_add]
    refine ⟨?_, ho.frozenAt j⟩
    rw [ho.cellAt j (by omega), hflat, getElem!_pos _ j (by rw [size_flatK, hd]; exact hj)]
    rw [List.getElem?_eq_getElem (by rw [Array.length_toList, size_flatK, hd]; exact hj)]
    rfl
  have hprop : ∀ r, r ∈ dl → w.ownsRow B 3 1 r.v r.xs.length (i64s r.xs) := by
    intro r hr
    obtain ⟨j, hj, rfl⟩ := List.mem_iff_getElem.1 hr
    rw [dlen] at hj
    rw [dget j hj]
    exact hin j hj
  have hsort := SA w blk cap dl.toArray hH hblk (by rw [hd]; exact hsz)
  rw [hd] at hsort
  refine hsort.mono ?_
  rintro e w2 ⟨rfl, d', n, os, hp, hso, rfl⟩
  have hds : d'.size = l.length := hp.1.trans hd
  have hperm : d'.toList.Perm dl := by
    have := hp.2.2
    rw [Array.extract_eq_self_of_le (by omega), Array.extract_eq_self_of_le (by omega)] at this
    simpa using this
  have hfr := sortWorld_fr (n := n) (d' := d') (os := os) hblk
  refine ⟨rfl, d'.toList.map (fun r => r.v), d'.toList.map (fun r => (r.xs, r.n)), by simp [hds], ⟨by simp, ?_, ?_⟩, ?_, ?_, hfr.mono (fun i _ e => by rw [e]; exact hB)⟩
  · rw [show (d'.toList.map fun r => (r.xs, r.n)).length = l.length by simp [hds]]
    exact sorted_own ho hd hp.1
  · intro j hj
    have hj' : j < d'.toList.length := by simpa using hj
    have hr : d'.toList[j] ∈ dl := hperm.mem_iff.1 (List.getElem_mem hj')
    have e1 : (d'.toList.map fun r => r.v).getD j undef = d'.toList[j].v := by rw [List.getD_eq_getElem?_getD, List.getElem?_map, List.getElem?_eq_getElem hj']; rfl
    have e2 : rAt (d'.toList.map fun r => (r.xs, r.n)) j = (d'.toList[j].xs, d'.toList[j].n) := by unfold rAt; rw [List.getD_eq_getElem?_getD, List.getElem?_map, List.getElem?_eq_getElem hj']; rfl
    rw [e1, e2]
    have q := hprop _ hr
    refine ⟨q.1, ?_⟩
    rcases q.2 with hn | ⟨g, cap', cur, e, h1, h2, rest⟩
    · exact .inl hn
    · refine .inr ⟨g, cap', cur, e, h1, (hfr.block g (vlt_of_block h2) (fun e' => d'.toList[j].out g 0 cap' e e')).trans h2, rest⟩
  · have := hperm.map (fun r => (r.xs, r.n))
    rw [show dl.map (fun r => (r.xs, r.n)) = l from by simpa using dr] at this
    exact this
  · unfold RiseL
    rw [List.pairwise_map, List.pairwise_iff_getElem]
    intro i j hi hj hij
    have := hso i j (Nat.zero_le _) hij (by have : j < d'.size := by simpa using hj
                                            omega)
    have hj1 : j < d'.size := by simpa using hj
    have hi1 : i < d'.size := by simpa using hi
    rw [getElem!_pos d' j hj1, getElem!_pos d' i hi1] at this
    unfold ltOf cfR at this
    simpa using this
theorem sort_new (B:Nat) (w:World) (a:Addr) (cap:Nat) (us:List Value) (l:Rws) (h:RNew 55 B w (.slice (some a) l.length cap) us l) (h0:0 < l.length) (hl6:∀ r,r ∈ l -> r.1.length <= 6) (hsz:l.length < 4611686018427387904) :
  Calls Tryz.prog 68 #[.slice (some a) l.length cap,.func (.func 69) #[] #[]] w fun e w2 => e = .returned (.tuple #[]) /\ ∃ us' l',l'.length = l.length /\ RNew 55 B w2 (.slice (some a) l.length cap) us' l' /\ l'.Perm l /\ RiseL l' /\ Fr (fun i => B <= i) w w2 :=
 sort_gen 69 (fun w blk cap _ d h1 h2 h3 => sort_any w blk cap d h1 h2 h3) B w a cap us l h h0 hl6 hsz
theorem sortT_new (B:Nat) (w:World) (a:Addr) (cap:Nat) (us:List Value) (l:Rws) (h:RNew 55 B w (.slice (some a) l.length cap) us l) (h0:0 < l.length) (hl6:∀ r,r ∈ l -> r.1.length <= 6) (hsz:l.length < 4611686018427387904) :
  Calls Tryz.prog 68 #[.slice (some a) l.length cap,.func (.func 91) #[] #[]] w fun e w2 => e = .returned (.tuple #[]) /\ ∃ us' l',l'.length = l.length /\ RNew 55 B w2 (.slice (some a) l.length cap) us' l' /\ l'.Perm l /\ RiseL l' /\ Fr (fun i => B <= i) w w2 :=
 sort_gen 91 (fun w blk cap _ d h1 h2 h3 => sortT_any w blk cap d h1 h2 h3) B w a cap us l h h0 hl6 hsz
end Go.Proofs.YtondkinefmjpjaaGreat
namespace Go.Proofs.YtondkinefmjpjaaGreat
open Go.RowKit
theorem len64_zero (w:World):Calls Tryz.prog 146 #[.int .u64 0] w fun e w' => e = .returned (.int .i64 0) /\ w' = w:=by
 go_enter Tryz.func146,Tryz.ntmps146
 go_wp2
 go_ret
 exact ⟨vret_int (by kernel_rfl),rfl⟩
theorem len_zero (w:World):Calls Tryz.prog 108 #[.int .u64 0] w fun e w' => e = .returned (.int .i64 0) /\ w' = w:=by
 go_enter Tryz.func108,Tryz.ntmps108
 go_wp2_with (go_at_call 146;refine (len64_zero _).mono ?_;rintro e w' ⟨rfl,rfl⟩)
 go_ret
 exact ⟨rfl,rfl⟩
theorem ins_zero (c:Value) (w:World):Calls Tryz.prog 137 #[.slice none 0 0,.int .i64 0,.int .i64 0,c] w fun e w' => e = .returned (.tuple #[]) /\ w' = w:=by
 go_enter Tryz.func137,Tryz.ntmps137
 go_wp2_with fail
 refine wp_loop_rounds 1 ?_
 rw [rounds_succ]
 go_wp2_with fail
 go_end0
 exact ⟨rfl,rfl⟩
theorem pdq_zero (c:Value) (w:World):Calls Tryz.prog 107 #[.slice none 0 0,.int .i64 0,.int .i64 0,.int .i64 0,c] w fun e w' => e = .returned (.tuple #[]) /\ w' = w:=by
 go_enter Tryz.func107,Tryz.ntmps107
 go_wp2_with fail
 refine wp_loop_rounds 1 ?_
 rw [rounds_succ]
 go_wp2_with (go_at_call 137;refine (ins_zero _ _).mono ?_;rintro e w' ⟨rfl,rfl⟩)
 refine bodyPost_ret (results_none rfl _ _ _) rfl ?_
 exact ⟨rfl,rfl⟩
theorem sort_nil (c:Value) (w:World):Calls Tryz.prog 68 #[.slice none 0 0,c] w fun e w' => e = .returned (.tuple #[]) /\ w' = w:=by
 go_enter Tryz.func68,Tryz.ntmps68
 go_wp2_with (first | (go_at_call 108;refine (len_zero _).mono ?_;rintro e w' ⟨rfl,rfl⟩) | (go_at_call 107;refine (pdq_zero _ _).mono ?_;rintro e w' ⟨rfl,rfl⟩))
 go_end0
 exact ⟨rfl,rfl⟩
open Go.WideMaps Go.WideElems Go.Maps in
theorem tellA_any (pb po base:Nat) (head:List Nat) (hv:Value) (b:Nat) (f:List Int -> Int) (w:World) (hc:w.cell? ⟨pb,po,none⟩ = some hv) (hrow:w.ownsRow base 3 1 hv head.length (nats head)) (hlen:head.length <= 6) (hhl:∀ n,n ∈ head -> n < 6) (hCF:CF 93 6 w b f) (hsm:(live 6 f).length <= 1000000) :
  Calls Tryz.prog 41 #[.map (some b),.func (.func 42) #[.pointer (some ⟨pb,po,none⟩)] #[]] w fun e w' => ∃ v us l,e = .returned v /\ RNew 55 w.heap.size w' v us l /\ l.Perm (rowsL (hvals head) f (live 6 f)) /\ RiseL l /\ Below w.heap.size w w':=by
 refine tellA_loop pb po base head hv b f w hc hrow hlen hhl hCF hsm _ (fun w' h0 hb => ?_) (fun w' us l a cap h hpos hp hb => ?_)
 ·refine (sort_nil _ w').mono ?_
  rintro e w2 ⟨rfl,rfl⟩
  exact ⟨rfl,_,[],[],rfl,⟨rfl,World.ownsRow_nil _ _ _ _,fun j hj => absurd hj (by simp)⟩,by rw [h0];exact List.Perm.refl _,List.Pairwise.nil,hb⟩
 ·have hll:l.length <= 1000000:=by
   have:=hp.length_eq
   rw [rowsL,List.length_map] at this
   omega
  refine (sort_new w.heap.size w' a cap us l h hpos (fun r hr => ?_) (by omega)).mono ?_
  ·have:=hp.mem_iff.1 hr
   rw [rowsL,List.mem_map] at this
   obtain ⟨x,_,rfl⟩:=this
   simp only [hvals,List.length_map];exact hlen
  ·rintro e w2 ⟨rfl,us',l',hl,hn,hp',hr,hf⟩
   refine ⟨rfl,_,us',l',rfl,by rw [← hl] at hn;rw [← hl];exact hn,hp'.trans hp,hr,?_⟩
   have hs:=hb.size
   exact ⟨hf.os.trans hb.os,hf.tape.trans hb.tape,hf.output.trans hb.output,Nat.le_trans hs hf.size,fun i hi => (hf.block i (by omega) (by omega)).trans (hb.block i hi)⟩
end Go.Proofs.YtondkinefmjpjaaGreat
