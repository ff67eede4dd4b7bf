import Derived.Laws.CopyOwn
import Derived.Test.YtondkinefmjpjaaGreatI26
import Derived.Test.YtondkinefmjpjaaGreatI30
import Derived.Test.YtondkinefmjpjaaGreatI31
import Derived.Test.YtondkinefmjpjaaGreatI33
set_option maxHeartbeats 8000000
set_option maxRecDepth 100000
namespace Go.Proofs.YtondkinefmjpjaaGreat
open Go.RowKit Go.WideMaps Go.WideElems Go.Maps
def begL (ys xs:List Int):Bool:=decide (ys.take xs.length = xs)
theorem take_step {ys xs:List Int} {k:Nat} (hk:k < xs.length) (hy:k < ys.length) (h:ys.take k = xs.take k) (e:ys.getD k 0 = xs.getD k 0):ys.take (k + 1) = xs.take (k + 1):=by
 rw [List.take_succ_eq_append_getElem hk,List.take_succ_eq_append_getElem hy,h]
 have e1:ys[k] = ys.getD k 0:=by rw [List.getD_eq_getElem?_getD,List.getElem?_eq_getElem hy];rfl
 have e2:xs[k] = xs.getD k 0:=by rw [List.getD_eq_getElem?_getD,List.getElem?_eq_getElem hk];rfl
 rw [e1,e2,e]
theorem beg_no {ys xs:List Int} {k:Nat} (hk:k < xs.length) (e:ys.getD k 0 ≠ xs.getD k 0):begL ys xs = false:=by
 unfold begL
 refine decide_eq_false fun h => e ?_
 have:=congrArg (fun l => l.getD k 0) h
 simp only [List.getD_eq_getElem?_getD,List.getElem?_take,hk,if_true] at this
 simpa [List.getD_eq_getElem?_getD] using this
theorem headBegins_any (pb po base:Nat) (head:List Nat) (hv:Value) (a:List Int) (v:Value) (xs:List Int) (w:World) (hc:w.cell? ⟨pb,po,none⟩ = some hv) (hrow:w.ownsRow base 3 1 hv head.length (nats head)) (hlen:head.length <= 6) (hlt:∀ n,n ∈ head -> n < 6) (ha:a.length = 6) (hr:Reads w v xs) (hx:xs.length <= head.length) :
  Calls Tryz.prog 57 #[.pointer (some ⟨pb,po,none⟩),.agg (i64s a).toArray,v] w fun e w' => e = .returned (.bool (begL (hvals head a) xs)) /\ Below w.heap.size w w':=by
 obtain ⟨B,hB⟩:∃ B,begL (hvals head a) xs = B:=⟨_,rfl⟩
 have HB:Hid (begL (hvals head a) xs = B):=hB
 rw [hB]
 clear hB
 obtain ⟨ha1,hcap1,rfl⟩:=vown_form hrow
 obtain ⟨va,vc,rfl,hrd⟩:=hr
 have lp:=World.block_lt_of_cell? _ _ hc
 obtain ⟨a0,a1,a2,a3,a4,a5,hae⟩:=six a ha
 have hA:(i64s a).toArray = #[.int .i64 a0,.int .i64 a1,.int .i64 a2,.int .i64 a3,.int .i64 a4,.int .i64 a5]:=by rw [hae];rfl
 have HLT:Hid (∀ n,n ∈ head -> n < 6):=hlt
 have HRD:Hid _:=hrd
 have bx:Hid ((w.alloc (.cells #[.int .i64 a0,.int .i64 a1,.int .i64 a2,.int .i64 a3,.int .i64 a4,.int .i64 a5] 93)).heap[w.heap.size]? = some (.cells (i64s a).toArray 93 (0,0))):=by rw [Hid,hA];exact vheap_alloc_new _ _
 have hb0:Hid (Below w.heap.size w (w.alloc (.cells #[.int .i64 a0,.int .i64 a1,.int .i64 a2,.int .i64 a3,.int .i64 a4,.int .i64 a5] 93))):=(Below.refl _ _).alloc (Nat.le_refl _) _
 rw [hA]
 clear hlt hA hrd
 go_enter Tryz.func57,Tryz.ntmps57
 go_wp2_with fail
 go_loopw [7,8,11] (fun _ _ iv wr => ∃ k:Nat,k <= xs.length /\ iv = .int .i64 k /\ (hvals head a).take k = xs.take k /\ Below w.heap.size w wr /\ wr.heap[w.heap.size]? = some (.cells (i64s a).toArray 93 (0,0))) (fun _ _ iv _ => xs.length - (intOf iv).toNat)
 case atStart => exact ⟨0,Nat.zero_le _,rfl,rfl,hb0.out,bx.out⟩
 case round =>
  obtain ⟨k,hk,rfl,htk,hb,hbx⟩:=hrel
  have HTK:Hid _:=htk
  clear htk
  by_cases hkl:k < xs.length
  ·obtain ⟨vg,vo,rfl,hcs⟩:=HRD.out (by omega)
   have d0:=(hb.cell (World.block_lt_of_cell? _ _ (hcs k hkl))).trans (hcs k hkl)
   have ld:=World.block_lt_of_cell? _ _ d0
   obtain ⟨g,cap',he⟩:=vown_some hrow (by omega)
   simp only [Value.slice.injEq,true_and] at he
   obtain ⟨rfl,rfl⟩:=he
   have lg:g < w.heap.size:=(hrow.lt g rfl).2
   have hkh:k < head.length:=by omega
   have h1:=(hb.cell (p:=⟨g,k,none⟩) lg).trans (nats_at hrow rfl k hkh)
   have h2':=(hb.cell (p:=⟨pb,po,none⟩) lp).trans hc
   have hN:=HLT.out _ (getD_mem hkh)
   have hvk:(hvals head a).getD k 0 = a.getD (head.getD k 0) 0:=by
    simp [hvals,List.getD_eq_getElem?_getD,List.getElem?_map,List.getElem?_eq_getElem hkh]
   obtain ⟨N,hNN⟩:∃ N,head.getD k 0 = N:=⟨_,rfl⟩
   rw [hNN] at h1 hN hvk
   clear hNN hcs
   have h2:=blk_cell hbx N (by omega)
   obtain ⟨V,hV⟩:∃ V,a.getD N 0 = V:=⟨_,rfl⟩
   obtain ⟨X,hX⟩:∃ X,xs.getD k 0 = X:=⟨_,rfl⟩
   rw [hV] at h2 hvk
   rw [hX] at d0
   have HVK:Hid _:=hvk
   have HX:Hid _:=hX
   clear hV hX hvk
   have bk:(k:Int) < (head.length:Int):=by omega
   have bkx:(k:Int) < (xs.length:Int):=by omega
   have bN:(N:Int) < 6:=by omega
   have lb:=vlt_of_block hbx
   by_cases hVX:V = X
   ·have NX:Hid ((hvals head a).take (k + 1) = xs.take (k + 1)):=take_step hkl (by simp [hvals];omega) HTK.out (by rw [HVK.out,HX.out];exact hVX)
    have e1:(V != X) = false:=by simp [hVX]
    clear hVX
    go_wp2_with fail
    go_roundw
    case rel => exact ⟨k + 1,by omega,by go_num,NX.out,hb,hbx⟩
    case measure => simp [intOf];omega
   ·have h3:Hid (B = false):=by rw [Hid,← HB.out];exact beg_no hkl (by rw [HVK.out,HX.out];exact hVX)
    have e1:(V != X) = true:=by simp [hVX]
    clear hVX
    go_wp2_with fail
    go_ret
    exact ⟨vret_bool h3.out.symm,hb⟩
  ·have hkk:k = xs.length:=by omega
   subst hkk
   have h3:Hid (B = true):=by rw [Hid,← HB.out];unfold begL;rw [HTK.out,List.take_length];simp
   go_wp2_with fail
   go_ret
   exact ⟨vret_bool h3.out.symm,hb⟩
end Go.Proofs.YtondkinefmjpjaaGreat
namespace Go.Proofs.YtondkinefmjpjaaGreat
open Go.RowKit Go.WideMaps Go.WideElems Go.Maps Go.Shelf Go.MuLone
theorem Reads.lock {w:World} {vb:Nat} {v:Value} {xs:List Int} (h:Reads w v xs) (h0:w.cell? ⟨vb,0,none⟩ = some (.int .i32 0)) (L:Value):Reads (w.setCell ⟨vb,0,none⟩ L) v xs:=by
 obtain ⟨a,cap,rfl,h2⟩:=h
 refine ⟨a,cap,rfl,fun hl => ?_⟩
 obtain ⟨g,off,rfl,h3⟩:=h2 hl
 refine ⟨g,off,rfl,fun j hj => ?_⟩
 rw [World.cell?_setCell_other w ⟨vb,0,none⟩ ⟨g,off + j,none⟩ L (fun e => ?_)]
 ·exact h3 j hj
 ·have:=h3 j hj
  rw [← e,h0] at this
  simp at this
def totT (head:List Nat) (xs:List Int) (f:List Int -> Int) (a:List Int):Int:=if begL (hvals head a) xs = true then wr (f a) else 0
def TT (W wr:World) (b r n:Nat) (D:DataW Unit) (head:List Nat) (xs:List Int) (f:List Int -> Int) (tv:Value):Prop :=
 ∃ left cnt,wr.ranges (H:=Unit) Tryz.prog 93 (plainElem Tryz.prog 3) b r n D left cnt /\ (∀ kl,left kl = true -> has D kl = true) /\ tv = .int .i64 (Go.Proofs.YtondkinefmjpjaaGreat.wr (Sg (doneL 6 f left) (totT head xs f))) /\ Below W.heap.size W wr
theorem enter57:∀ vs u,(callFunc 57 vs).run Tryz.prog u = .ok (.enter 57 vs) u:=enters_of Tryz.func57 (by kernel_rfl) rfl
theorem hb_step (pb po base:Nat) (head:List Nat) (hv:Value) (a:List Int) (v:Value) (xs:List Int) (w:World) (hc:w.cell? ⟨pb,po,none⟩ = some hv) (hrow:w.ownsRow base 3 1 hv head.length (nats head)) (hlen:head.length <= 6) (hlt:∀ n,n ∈ head -> n < 6) (ha:a.length = 6) (hr:Reads w v xs) (hx:xs.length <= head.length) :
  Calls Tryz.prog 57 #[.pointer (some ⟨pb,po,none⟩),.agg (i64s a).toArray,v] w fun e w' => ∃ y,e = .returned y /\ (y = .bool (begL (hvals head a) xs) /\ Below w.heap.size w w'):=by
 refine (headBegins_any pb po base head hv a v xs w hc hrow hlen hlt ha hr hx).mono ?_
 rintro e w' ⟨rfl,h⟩
 exact ⟨_,rfl,rfl,h⟩
theorem Reads.fr {w w':World} {v:Value} {xs:List Int} (h:Reads w v xs) (hf:Fr (fun _ => False) w w'):Reads w' v xs:=by
 obtain ⟨a,cap,rfl,h2⟩:=h
 refine ⟨a,cap,rfl,fun hl => ?_⟩
 obtain ⟨g,off,rfl,h3⟩:=h2 hl
 exact ⟨g,off,rfl,fun j hj => hf.cell (mps_none _) (h3 j hj)⟩
theorem ranges_fr {w w':World} {b r n cnt:Nat} {D:DataW Unit} {left:Lit -> Bool} {k:TypeId} {R:Value -> Option (DataW Unit × List MemPlace)} (h:w.ranges Tryz.prog k R b r n D left cnt) (hf:Fr (fun _ => False) w w'):w'.ranges Tryz.prog k R b r n D left cnt:=by
 have h2:=h
 obtain ⟨es,clock,since,seen,c0,h1,_,_,_,h5,_⟩:=h2
 exact ranges_block h (hf.block b (vlt_of_block h1) (fun h => h)) (hf.block r (vlt_of_block h5) (fun h => h))
theorem Sg_done {f:List Int -> Int} {left:Lit -> Bool} (t:List Int -> Int) {x:List Int} (hx:x ∈ live 6 f) (hl:left (klOf x) = true):Sg (doneL 6 f (fun z => left z && !z.sameKey (klOf x))) t = Sg (doneL 6 f left) t + t x:=by
 rw [S_perm (doneL_step (Or.inl rfl) hx hl) t,S_append]
 simp only [S_cons,S_nil];omega
theorem Total_any (vb wb:Nat) (P:PlanD) (hP:PlanOk P) (f:List Int -> Int) (v:Value) (xs:List Int) (w:World) (c:Array Value) (hb:w.heap[vb]? = some (.cells c 90 (0,0))) (h0:w.cell? ⟨vb,0,none⟩ = some (.int .i32 0)) (hpl:PlanSt w vb P) (hwo:w.cell? ⟨vb,10,none⟩ = some (.map (some wb))) (hcw:CF 93 6 w wb f) (hr:Reads w v xs) (hx:xs.length <= P.head.length) :
  Calls Tryz.prog 29 #[.pointer (some ⟨vb,0,none⟩),v] w fun e w' => e = .returned (.tuple #[.int .i64 (wr (Sg (live 6 f) (totT P.head xs f))),.int .i64 0]) /\ Below w.heap.size w w':=by
 obtain ⟨hv,b1,q1,q2⟩:=(hpl.lock hb (.int .i32 1)).head
 obtain ⟨es,k,hm⟩:=hcw.isMap
 have hne:wb ≠ vb:=fun e => by rw [e,hb] at hm;cases hm
 have hcw1:CF 93 6 (w.setCell ⟨vb,0,none⟩ (.int .i32 1)) wb f:=hcw.block (Below.heap_setCell _ _ _ _ hne)
 have q10:=(lock_cell (w:=w) (vb:=vb) (L:=.int .i32 1) (p:=⟨vb,10,none⟩) (Or.inr (by simp))).trans hwo
 have hr1:=hr.lock h0 (.int .i32 1)
 have f0:=blk_free hb 0
 have lv:=vlt_of_block hb
 have HLB:Hid (∀ w2,Below w.heap.size (w.setCell ⟨vb,0,none⟩ (.int .i32 1)) w2 -> (w2.cell? ⟨vb,0,none⟩ = some (.int .i32 1) /\ w2.frozen? ⟨vb,0,none⟩ = false) /\ Below w.heap.size w (w2.setCell ⟨vb,0,none⟩ (.int .i32 0))):=fun w2 h => ⟨lock_held hb h0 (h.block vb lv),lock_below hb h0 h⟩
 obtain ⟨D,hown,hrep,_⟩:=hcw1.tight (Or.inl ⟨rfl,rfl⟩)
 obtain ⟨n,hn⟩:∃ n,(live 6 f).length = n:=⟨_,rfl⟩
 rw [hn] at hown
 obtain ⟨W,hW⟩:∃ W,w.setCell ⟨vb,0,none⟩ (.int .i32 1) = W:=⟨_,rfl⟩
 have hWs:W.heap.size = w.heap.size:=by rw [← hW];simp
 rw [hW] at q1 q2 q10 hr1 HLB hown
 rw [← hWs] at HLB
 obtain ⟨ha1,hcap1,rfl⟩:=vown_form q2
 obtain ⟨va,vc,hve,_⟩:=hr
 subst hve
 have HREP:Hid _:=hrep
 have HW:Hid (w.setCell ⟨vb,0,none⟩ (.int .i32 1) = W):=hW
 have HWS:Hid (W.heap.size = w.heap.size):=hWs
 have HR1:Hid (Reads W (.slice va xs.length vc) xs):=hr1
 have HQ2:Hid (W.ownsRow b1 3 1 (.slice ha1 P.head.length hcap1) P.head.length (nats P.head)):=q2
 obtain ⟨T,hT⟩:∃ T,wr (Sg (live 6 f) (totT P.head xs f)) = T:=⟨_,rfl⟩
 have HT:Hid _:=hT
 rw [hT]
 have hnx:¬ ((P.head.length:Int) < (xs.length:Int)):=by omega
 have lw:=World.block_lt_of_cell? _ _ q10
 clear hb hpl hwo hcw hcw1 hm hrep hn hW hr1 hT q2 hWs
 go_enter_defers Tryz.func29,Tryz.ntmps29
 go_wp2_with (first | (go_at_call 39;refine (lock_free Tryz.muLib ⟨vb,0,none⟩ _ h0 f0).mono ?_;rintro e w' ⟨rfl,rfl⟩;rw [HW.out]) | (at_range;refine wpList_range_own _ rfl _ 86 rfl 93 3 (Keyed.of_law lawA) Tryz.underlying86 (plainElem Tryz.prog 3) wb n D rfl hown ?_;intro w0 hrg0 hg0 hs0) | go_in)
 go_frame
 have T0:Hid (TT W w0 wb W.heap.size n D P.head xs f (.int .i64 0)) :=
  ⟨_,_,hrg0,fun _ h => h,by rw [doneL_start (fun a ha => by rw [HREP.out.2.1 a (mem_live.1 ha).1];simpa using (mem_live.1 ha).2)];rfl,(Below.refl _ _).grown hg0 (Nat.le_refl _) (fun j hj => by cases hj)⟩
 clear hrg0 hg0 hs0
 go_loopw [6,7,8] (fun tv _ _ wr => TT W wr wb W.heap.size n D P.head xs f tv) (fun _ _ _ wr => wr.rangeLeft wb W.heap.size)
 case atStart => exact T0.out
 case round =>
  obtain ⟨left,cnt,hrg,hleft,rfl,hbl⟩:=hrel
  have HLF:Hid _:=hleft
  have HBL:Hid (Below W.heap.size W wr):=hbl
  clear hleft hbl
  go_wp2_with (first | (at_next;refine wpList_next_A _ rfl _ rfl wb W.heap.size n D _ _ rfl hrg ?_ ?_) | go_in)
  ·intro hl0
   have e1:Hid (Go.Proofs.YtondkinefmjpjaaGreat.wr (Sg (doneL 6 f left) (totT P.head xs f)) = T):=by rw [Hid,doneL_end hl0];exact HT.out
   clear hl0
   rw [e1.out]
   go_wp2_with fail
   refine leaves_cons (f:=40) (args:=#[.pointer (some ⟨vb,0,none⟩)]) (by simp) (by simp [go_sem]) ?_
   obtain ⟨⟨k1,k2⟩,k3⟩:=HLB.out wr HBL.out
   refine (unlock_deferred Tryz.muLib ⟨vb,0,none⟩ .returning _ k1 k2).mono ?_
   rintro e u' w3 ⟨rfl,rfl,rfl⟩
   exact ⟨_,results_tmp2 rfl _ _ _,rfl,by rw [← HWS.out];exact k3⟩
  ·intro x0 x1 x2 x3 x4 x5 cc w1 cnt1 hlx hat hwx hrg1 hlt hg1 hs1 hen
   obtain ⟨hxl,rfl⟩:=key_live (x:=[x0,x1,x2,x3,x4,x5]) HREP.out (fun y hy e => klOf_inj rfl (box_length hy) hwx (box_wf hy) e) (HLF.out _ hlx) hat
   obtain ⟨X,hX⟩:∃ X:List Int,[x0,x1,x2,x3,x4,x5] = X:=⟨_,rfl⟩
   have hX6:(i64s X).toArray = #[.int .i64 x0,.int .i64 x1,.int .i64 x2,.int .i64 x3,.int .i64 x4,.int .i64 x5]:=by rw [← hX];rfl
   have hXl:X.length = 6:=by rw [← hX];rfl
   rw [hX] at hxl hlx hrg1 hen ⊢
   have hbl1:Below W.heap.size W w1:=HBL.out.grown hg1 HBL.out.size (fun j hj => by cases hj;exact Nat.le_refl _)
   have hF:Fr (fun _ => False) W w1:=⟨hbl1.size,hbl1.os,hbl1.tape,hbl1.output,fun i hi _ => hbl1.block i hi⟩
   have qq:=hF.cell (mps_none _) q1
   have lqq:=World.block_lt_of_cell? _ _ qq
   have HBG:=fun (u:World) (h:Fr (fun _ => False) w1 u) => hb_step vb 2 b1 P.head _ X (.slice va xs.length vc) xs u (h.cell (mps_none _) qq) (h.own (mps_none _) (hF.own (mps_none _) HQ2.out)) hP.head6 hP.headlt hXl ((HR1.out.fr hF).fr h) hx
   rw [hX6] at HBG
   have STEP:=Sg_done (totT P.head xs f) hxl hlx
   obtain ⟨Y,hY⟩:∃ Y,Go.Proofs.YtondkinefmjpjaaGreat.wr (f X) = Y:=⟨_,rfl⟩
   obtain ⟨Z,hZ⟩:∃ Z,Go.Proofs.YtondkinefmjpjaaGreat.wr (Sg (doneL 6 f left) (totT P.head xs f)) = Z:=⟨_,rfl⟩
   rw [hY] at hen ⊢
   rw [hZ]
   have hF1:Fr (fun _ => False) w1 (w1.alloc (.cells #[.int .i64 x0,.int .i64 x1,.int .i64 x2,.int .i64 x3,.int .i64 x4,.int .i64 x5] 93)).drew:=(Fr.alloc _ _).trans (Fr.drew _) (fun _ _ h => h)
   have HC1:=HBG _ hF1
   obtain ⟨BB,hBB⟩:∃ BB,begL (hvals P.head X) xs = BB:=⟨_,rfl⟩
   rw [hBB] at HC1
   have NX:∀ w2,Below (w1.alloc (.cells #[.int .i64 x0,.int .i64 x1,.int .i64 x2,.int .i64 x3,.int .i64 x4,.int .i64 x5] 93)).drew.heap.size (w1.alloc (.cells #[.int .i64 x0,.int .i64 x1,.int .i64 x2,.int .i64 x3,.int .i64 x4,.int .i64 x5] 93)).drew w2 -> w2.ranges (H:=Unit) Tryz.prog 93 (plainElem Tryz.prog 3) wb W.heap.size n D (fun z => left z && !z.sameKey (klOf X)) cnt1 /\ Below W.heap.size W w2:=by
    intro w2 hb2
    have hF2:Fr (fun _ => False) w1 w2:=hF1.trans (Fr.of_below hb2) (fun _ _ h => h)
    refine ⟨ranges_fr hrg1 hF2,?_⟩
    have hs:=hbl1.size
    exact ⟨hF2.os.trans hbl1.os,hF2.tape.trans hbl1.tape,hF2.output.trans hbl1.output,Nat.le_trans hs hF2.size,fun i hi => (hF2.block i (by omega) (fun h => h)).trans (hbl1.block i hi)⟩
   have HNX:Hid _:=NX
   have HST:Hid _:=STEP
   have HY:Hid _:=hY
   have HZ:Hid _:=hZ
   have HBB:Hid _:=hBB
   have hsub:Hid (∀ kl,(left kl && !kl.sameKey (klOf X)) = true -> has D kl = true):=fun kl h => HLF.out kl (by simp only [Bool.and_eq_true] at h;exact h.1)
   clear hX hX6 hXl hrg1 hbl1 hF hF1 qq HBG NX STEP hY hZ hBB hs1
   go_upto_region 9 with fail
   go_cut [41] from 31 to 44 (fun y wx => y = .bool BB /\ wx.ranges (H:=Unit) Tryz.prog 93 (plainElem Tryz.prog 3) wb W.heap.size n D (fun z => left z && !z.sameKey (klOf X)) cnt1 /\ Below W.heap.size W wx)
   case first =>
    first | go_region_law (refine step_call rfl 57 #[.tmp 38,.tmp 39,.tmp 40] #[83,93,28] rfl enter57 #[.pointer (some ⟨vb,2,none⟩),.agg #[.int .i64 x0,.int .i64 x1,.int .i64 x2,.int .i64 x3,.int .i64 x4,.int .i64 x5],.slice va xs.length vc] (by kernel_rfl) _ HC1 ?_;rintro y w2 ⟨rfl,hb2⟩) | fail
    all_goals (go_wp2_with fail;go_meet)
    all_goals exact ⟨rfl,HNX.out w2 hb2⟩
   case rest =>
    obtain ⟨rfl,n1,n2⟩:=hcut
    obtain ⟨w2,hw2⟩:∃ w2:World,w2 = wc:=⟨_,rfl⟩
    subst hw2
    cases BB
    ·have NT:Hid (Z = Go.Proofs.YtondkinefmjpjaaGreat.wr (Sg (doneL 6 f (fun z => left z && !z.sameKey (klOf X))) (totT P.head xs f))):=by
      rw [Hid,HST.out,totT,HBB.out,← HZ.out];simp
     go_wp2_with fail
     go_roundw
     case rel => exact ⟨_,_,n1,hsub.out,by rw [← NT.out],n2⟩
     case measure => rw [n1.left_eq,hrg.left_eq];exact hlt
    ·have NT:Hid (IntKind.i64.wrap (Z + Y) = Go.Proofs.YtondkinefmjpjaaGreat.wr (Sg (doneL 6 f (fun z => left z && !z.sameKey (klOf X))) (totT P.head xs f))):=by
      rw [Hid,HST.out,totT,HBB.out,← HZ.out,← HY.out]
      simp only [if_true]
      exact (wr_add _ _).trans (by rw [wr_add_r])
     go_wp2_with fail
     go_roundw
     case rel => exact ⟨_,_,n1,hsub.out,by rw [← NT.out,IntKind.wrap_i64,wrap64],n2⟩
     case measure => rw [n1.left_eq,hrg.left_eq];exact hlt
structure VSt (w:World) (vb:Nat) (P:PlanD) (rb ib:List Nat) (wb:Nat) (R:Nat -> List Int -> Int) (g:Nat -> List Int -> Option Nat) (own:Nat -> Option (Nat × List Int)):Prop where
 ok:PlanOk P
 rel:RelOk P
 rok:RowsOk P R
 hb:∃ c,w.heap[vb]? = some (.cells c 90 (0,0))
 h0:w.cell? ⟨vb,0,none⟩ = some (.int .i32 0)
 pl:PlanSt w vb P
 rows:∃ rv base,w.cell? ⟨vb,8,none⟩ = some rv /\ w.ownsRow base 130 1 rv rb.length (mapVs rb)
 ixs:∃ iv base,w.cell? ⟨vb,9,none⟩ = some iv /\ w.ownsRow base 166 1 iv ib.length (mapVs ib)
 wo:w.cell? ⟨vb,10,none⟩ = some (.map (some wb))
 hrb:rb.length = P.rels.length
 hil:ib.length = P.lk.length
 cr:∀ r,r < P.rels.length -> CF 110 3 w (rb.getD r 0) (R r) /\ own (rb.getD r 0) = some (1,[(r:Int)])
 A:IxAll w P.ms P.lk ib (fun l => cont P R (P.lk.getD l (0,0)).2) g
 W:Own w ib P.lk.length g own
 ow:own wb = some (0,[])
 cw:CF 93 6 w wb (P.wor (cont P R))
 no4:∀ i r,own i = some r -> r.1 ≠ 4
theorem VSt.fr {w w':World} {vb:Nat} {P:PlanD} {rb ib:List Nat} {wb:Nat} {R:Nat -> List Int -> Int} {g:Nat -> List Int -> Option Nat} {own:Nat -> Option (Nat × List Int)} (h:VSt w vb P rb ib wb R g own) (hf:Fr (fun _ => False) w w'):VSt w' vb P rb ib wb R g own:=by
 obtain ⟨c,hb⟩:=h.hb
 obtain ⟨rv,b1,r1,r2⟩:=h.rows
 obtain ⟨iv,b2,i1,i2⟩:=h.ixs
 exact ⟨h.ok,h.rel,h.rok,⟨c,(hf.block vb (vlt_of_block hb) (fun h => h)).trans hb⟩,hf.cell (mps_none _) h.h0,h.pl.fr hf (mps_none _),⟨rv,b1,hf.cell (mps_none _) r1,hf.own (mps_none _) r2⟩,⟨iv,b2,hf.cell (mps_none _) i1,hf.own (mps_none _) i2⟩,hf.cell (mps_none _) h.wo,h.hrb,h.hil,fun r hr => ⟨(h.cr r hr).1.fr hf (fun h => h),(h.cr r hr).2⟩,h.A.fr hf,h.W.fr hf,h.ow,h.cw.fr hf (fun h => h),h.no4⟩
theorem fr_below {w w':World} (h:Below w.heap.size w w'):Fr (fun _ => False) w w':=Fr.of_below h
def pad (vals:List Int):List Int:=vals ++ List.replicate (3 - vals.length) 0
theorem pad_box {vals:List Int} (h:vals.length <= 3) (hv:vals.all okV = true):pad vals ∈ boxN 3:=by
 rw [mem_boxN]
 refine ⟨by simp [pad];omega,fun x hx => ?_⟩
 rcases List.mem_append.1 hx with hx | hx
 ·have:=List.all_eq_true.1 hv x hx
  simp [okV] at this;exact this
 ·have:=List.eq_of_mem_replicate hx
  omega
theorem pad_tail {vals:List Int} (j:Nat) (hj:vals.length <= j):(pad vals).getD j 0 = 0:=by
 unfold pad
 rw [List.getD_eq_getElem?_getD,List.getElem?_append_right hj,List.getElem?_replicate]
 split <;> rfl
theorem upd_lock {w:World} {vb:Nat} {P:PlanD} {rb ib:List Nat} {wb:Nat} {R:Nat -> List Int -> Int} {g:Nat -> List Int -> Option Nat} {own:Nat -> Option (Nat × List Int)} (h:VSt w vb P rb ib wb R g own) {v:Value} {xs:List Int} (hr:Reads w v xs) {W:World} (hW:(w.alloc (.cells #[.pointer (some ⟨vb,0,none⟩)] 23)).setCell ⟨vb,0,none⟩ (.int .i32 1) = W) :
  PlanSt W vb P /\ (∃ rv base,W.cell? ⟨vb,8,none⟩ = some rv /\ W.ownsRow base 130 1 rv rb.length (mapVs rb)) /\ (∃ iv base,W.cell? ⟨vb,9,none⟩ = some iv /\ W.ownsRow base 166 1 iv ib.length (mapVs ib)) /\ W.cell? ⟨vb,10,none⟩ = some (.map (some wb)) /\ W.cell? ⟨w.heap.size,0,none⟩ = some (.pointer (some ⟨vb,0,none⟩)) /\ Reads W v xs /\ W.heap.size = w.heap.size + 1 /\ Fr (fun i => i = vb) w W /\
   ∀ w2,Below w.heap.size W w2 -> (w2.cell? ⟨vb,0,none⟩ = some (.int .i32 1) /\ w2.frozen? ⟨vb,0,none⟩ = false) /\ Below w.heap.size w (w2.setCell ⟨vb,0,none⟩ (.int .i32 0)):=by
 obtain ⟨c,hb⟩:=h.hb
 have hfa:Fr (fun _ => False) w (w.alloc (.cells #[.pointer (some ⟨vb,0,none⟩)] 23)):=Fr.alloc _ _
 have hA:=h.fr hfa
 obtain ⟨cA,hbA⟩:=hA.hb
 obtain ⟨rv,b1,r1,r2⟩:=hA.rows
 obtain ⟨iv,b2,i1,i2⟩:=hA.ixs
 have lv:=vlt_of_block hb
 subst hW
 refine ⟨hA.pl.lock hbA _,⟨rv,b1,(lock_cell (Or.inr (by simp))).trans r1,lock_own hbA r2 (by decide)⟩,⟨iv,b2,(lock_cell (Or.inr (by simp))).trans i1,lock_own hbA i2 (by decide)⟩,(lock_cell (Or.inr (by simp))).trans hA.wo,?_,(hr.fr hfa).lock hA.h0 _,by simp,(Fr.alloc _ _).trans (Fr.setCell (M:=fun i => i = vb) ⟨vb,0,none⟩ _ (fun _ => rfl)) (fun _ _ h => h),fun w2 hw2 => ?_⟩
 ·rw [lock_cell (Or.inl (by simp;omega))]
  unfold World.cell?
  rw [vheap_alloc_new];rfl
 ·refine ⟨lock_held hbA hA.h0 (hw2.block vb lv),hw2.os,hw2.tape,hw2.output,by have:=hw2.size;simp at this ⊢;omega,fun i hi => ?_⟩
  by_cases e:i = vb
  ·subst e
   exact (lock_back hbA hA.h0 rfl (hw2.block i hi)).trans (Below.heap_alloc _ _ _ hi)
  ·rw [Below.heap_setCell _ _ _ _ e,hw2.block i hi,Below.heap_setCell _ _ _ _ e]
   exact Below.heap_alloc _ _ _ hi
end Go.Proofs.YtondkinefmjpjaaGreat
