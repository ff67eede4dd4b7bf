import Derived.Test.YtondkinefmjpjaaGreatI35
import Derived.Test.YtondkinefmjpjaaGreatI36
set_option maxHeartbeats 8000000
set_option maxRecDepth 100000
namespace Go.Proofs.YtondkinefmjpjaaGreat
open Go.RowKit Go.WideMaps Go.WideElems Go.Maps Go.Shelf Go.MuLone
theorem RNew.weak {e:TypeId} {B B':Nat} {w:World} {v:Value} {us:List Value} {l:Rws} (h:RNew e B w v us l) (hB:B' <= B):RNew e B' w v us l :=
 ⟨h.1,own_weak h.2.1 hB,fun j hj => own_weak (h.2.2 j hj) hB⟩
def dlt (P:PlanD) (R:Nat -> List Int -> Int) (r:Nat) (t:List Int) (x:Int) (h:List Int):Int:=P.wor (cont P (updR R r t x)) h - P.wor (cont P R) h
theorem upd_change {w u:World} {vb ob OB:Nat} {P:PlanD} {rb ib:List Nat} {wb:Nat} {R:Nat -> List Int -> Int} {g:Nat -> List Int -> Option Nat} {own ownu:Nat -> Option (Nat × List Int)} (h:VSt w vb P rb ib wb R g own) (hp:UpPre w u vb ob OB P rb ib wb R g own ownu) {r:Nat} (hr:r < P.rels.length) {t:List Int} (ht:t ∈ boxN 3) (hz:∀ j,(P.rel r).2.1 <= j -> t.getD j 0 = 0) {x:Int} (hx:-9 <= x /\ x <= 9) (hn:refus (R r t) x (live 3 (R r)).length = 0) :
  Calls Tryz.prog 48 #[.pointer (some ⟨vb,0,none⟩),.int .i64 r,.agg (i64s t).toArray,.int .i64 x,.func (.func 49) #[] #[.pointer (some ⟨OB,0,none⟩),.pointer (some ⟨w.heap.size,0,none⟩)]] u fun e w5 => e = .returned (.tuple #[]) /\ ∃ g' own',(∃ hv base,w5.cell? ⟨vb,2,none⟩ = some hv /\ w5.ownsRow base 3 1 hv P.head.length (nats P.head)) /\ w5.cell? ⟨OB,0,none⟩ = some (.map (some ob)) /\ w5.cell? ⟨w.heap.size,0,none⟩ = some (.pointer (some ⟨vb,0,none⟩)) /\ CF 93 6 w5 ob (dlt P R r t x) /\ (live 6 (dlt P R r t x)).length <= 1000000 /\ w.heap.size <= w5.heap.size /\ w5.heap[vb]? = ((w.alloc (.cells #[.pointer (some ⟨vb,0,none⟩)] 23)).setCell ⟨vb,0,none⟩ (.int .i32 1)).heap[vb]? /\
   ∀ w6,Below w5.heap.size w5 w6 -> VSt (w6.setCell ⟨vb,0,none⟩ (.int .i32 0)) vb P rb ib wb (updR R r t x) g' own' /\ VUp w (w6.setCell ⟨vb,0,none⟩ (.int .i32 0)) own own':=by
 refine (change_any vb ob wb OB w.heap.size r P h.ok ib rb (cont P R) (cont_tame h.ok h.rel h.rok) (R r) (fun _ => 0) ownu g t ht x hx u hp.pl hp.ixs h.hil hp.rows h.hrb hr (hp.cr r hr).1 hp.o hp.v2 hp.wo hp.A hp.W ⟨hp.ow.1,hp.ow.2,(hp.cr r hr).2⟩ hp.cw hp.co).mono ?_
 rintro e w5 ⟨rfl,g',own',hc⟩
 have hm:=mps_ow hp.W
 have F5:=hc.up.fr
 obtain ⟨hv,b,q1,q2⟩:=hp.pl.head
 have hrok:=rows_upd h.rok hr ht hz hx hn
 refine ⟨rfl,g',_,⟨hv,b,F5.cell hm q1,F5.own hm q2⟩,F5.cell hm hp.o,F5.cell hm hp.v2,hc.co.congr (fun y _ => ?_),diff_few (wor_few h.ok h.rel hrok) (wor_few h.ok h.rel h.rok),Nat.le_trans hp.fr.size F5.size,?_,fun w6 h6 => upd_fin h hp hr ht hz hx hn hc h6⟩
 ·unfold dlt;rw [cont_upd h.ok h.rel R hr ht x,Int.zero_add]
 ·obtain ⟨c,hb⟩:=h.hb
  have hA:=h.fr (Fr.alloc w (.cells #[.pointer (some ⟨vb,0,none⟩)] 23))
  obtain ⟨cA,hbA⟩:=hA.hb
  have hbu:=hp.vbk.trans (blk_setCell hbA 0 (.int .i32 1))
  rw [← hp.vbk]
  exact F5.block vb (vlt_of_block hbu) (fun ⟨q,hq⟩ => by obtain ⟨es,k,e⟩:=hp.W.m vb q hq;rw [hbu] at e;cases e)
theorem Update_ok {w:World} {vb:Nat} {P:PlanD} {rb ib:List Nat} {wb:Nat} {R:Nat -> List Int -> Int} {g:Nat -> List Int -> Option Nat} {own:Nat -> Option (Nat × List Int)} (h:VSt w vb P rb ib wb R g own) (name:ByteArray) (x:Int) {v:Value} {xs:List Int} (hr:Reads w v xs) {r:Nat} (hrl:r < P.rels.length) (hI:rixOf P.rels name = (r:Int)) (heq:xs.length = (P.rel r).2.1) (hx3:xs.length <= 3) (hx:beyond x 9 = false) (hvs:xs.all okV = true) (hrf:refus (R r (pad xs)) x (live 3 (R r)).length = 0) :
  Calls Tryz.prog 16 #[.pointer (some ⟨vb,0,none⟩),.string name,.int .i64 x,v] w fun e w' => ∃ vv us l g' own',e = .returned (.tuple #[vv,.int .i64 0]) /\ RNew 55 w.heap.size w' vv us l /\ l.Perm (rowsL (hvals P.head) (dlt P R r (pad xs) x) (live 6 (dlt P R r (pad xs) x))) /\ RiseL l /\ VSt w' vb P rb ib wb (updR R r (pad xs) x) g' own' /\ VUp w w' own own':=by
 obtain ⟨W,hW⟩:∃ W,(w.alloc (.cells #[.pointer (some ⟨vb,0,none⟩)] 23)).setCell ⟨vb,0,none⟩ (.int .i32 1) = W:=⟨_,rfl⟩
 obtain ⟨p1,p2,_,_,p5,p6,p7,p8,p9⟩:=upd_lock h hr hW
 have RN:=relNum_at h.ok p1 name hI
 obtain ⟨lg,lcap,aa,ac,bat,c4,c4t,_,_⟩:=p1.relat hrl
 have hA:=h.fr (Fr.alloc w (.cells #[.pointer (some ⟨vb,0,none⟩)] 23))
 obtain ⟨cA,hbA⟩:=hA.hb
 have f0:=blk_free hbA 0
 have h0:=hA.h0
 have HW:Hid _:=hW
 have H9:Hid _:=p9
 have H7:Hid _:=p7
 obtain ⟨c,hb⟩:=h.hb
 have lv:=vlt_of_block hb
 have hpb:=pad_box hx3 hvs
 have hxb:-9 <= x /\ x <= 9:=by simp [beyond] at hx;omega
 obtain ⟨cr1,_⟩:=h.cr r hrl
 have hcrW:CF 110 3 W (rb.getD r 0) (R r):=cr1.fr p8 (fun e => by obtain ⟨es,k,hm⟩:=cr1.isMap;rw [e,hb] at hm;cases hm)
 have hnr:=h.ok.nrel
 have hrbl:=h.hrb
 have hbnd:=h.rok.bnd r hrl (pad xs)
 have REF:=fun (u:World) (hf:Fr (fun _ => False) W u) => refusal_step vb r rb (R r) (pad xs) x u (by omega) (by omega) (by obtain ⟨rv,b1,r1,r2⟩:=p2;exact ⟨rv,b1,hf.cell (mps_none _) r1,hf.own (mps_none _) r2⟩) (hcrW.fr hf (fun h => h)) hpb hbnd hxb
 obtain ⟨C,hC⟩:∃ C,refus (R r (pad xs)) x (live 3 (R r)).length = C:=⟨_,rfl⟩
 have hrf0:=hrf
 rw [hC] at hrf REF
 obtain ⟨t0,t1,t2,hte⟩:=three (pad xs) (box_length hpb)
 have hTT:(i64s (pad xs)).toArray = #[.int .i64 t0,.int .i64 t1,.int .i64 t2]:=by rw [hte];rfl
 rw [hTT] at REF
 have HTT:Hid _:=hTT
 have hCne:(C != 0) = false:=by simp [hrf]
 have hz:∀ j,(P.rel r).2.1 <= j -> (pad xs).getD j 0 = 0:=fun j hj => pad_tail j (by omega)
 have CHG:=fun (wc:World) (hwc:Below W.heap.size W wc) => upd_change h (upd_pre h hr hW hwc) hrl hpb hz hxb hrf0
 obtain ⟨hv,bhd,hd1,hd2⟩:=p1.head
 obtain ⟨T,hT⟩:∃ T,(P.rel r).2.1 = T:=⟨_,rfl⟩
 rw [hT] at c4t
 have brl:(r:Int) < (P.rels.length:Int):=by omega
 have brn:¬ ((r:Int) < 0):=by omega
 obtain ⟨va,vc,hve,hrd⟩:=p6
 subst hve
 have HRD:Hid (0 < xs.length -> ∃ g off,va = some ⟨g,off,none⟩ /\ ∀ j,j < xs.length -> W.cell? ⟨g,off + j,none⟩ = some (.int .i64 (xs.getD j 0))):=hrd
 have hsh:((xs.length:Int) != (T:Int)) = false:=by rw [hT] at heq;simp;omega
 have IB:=fun (u:World) => isBeyond_any x 9 u (by decide) (by decide)
 have AV:=fun (u:World) (hf:Fr (fun _ => False) W u) => areValues_any (.slice va xs.length vc) xs u (Reads.fr ⟨va,vc,rfl,hrd⟩ hf) (by omega)
 rw [hx] at IB
 rw [hvs] at AV
 have HX3:Hid (xs.length <= 3):=hx3
 have lW:=World.block_lt_of_cell? _ _ p5
 rw [hTT] at CHG
 have HCHG:Hid _:=CHG
 have hmm:=@run_makeMap Tryz.prog
 have HSZ:Hid (W.heap.size = w.heap.size + 1):=p7
 have HLH:Hid (∀ w6:World,w6.heap[vb]? = ((w.alloc (.cells #[.pointer (some ⟨vb,0,none⟩)] 23)).setCell ⟨vb,0,none⟩ (.int .i32 1)).heap[vb]? -> w6.cell? ⟨vb,0,none⟩ = some (.int .i32 1) /\ w6.frozen? ⟨vb,0,none⟩ = false):=fun w6 he => lock_held hbA hA.h0 he
 have HP:Hid (P.head.length <= 6 /\ ∀ n,n ∈ P.head -> n < 6):=⟨h.ok.head6,h.ok.headlt⟩
 clear h hA p1 hbA hW p9 p7 p8 hb hI hrd hr hx hvs heq hT hrf hrf0 hC hTT hte hpb hxb cr1 hcrW hrbl hnr hbnd p2 hx3 hz CHG hd1 hd2
 go_enter_defers Tryz.func16,Tryz.ntmps16
 go_upto_region 8 with (first | (go_at_call 39;refine (lock_free Tryz.muLib ⟨vb,0,none⟩ _ h0 f0).mono ?_;rintro e w' ⟨rfl,rfl⟩;rw [HW.out]) | (go_at_call 44;refine RN.mono ?_;rintro e w2 ⟨rfl,hb2⟩;have e5:=(fr_below hb2).cell (mps_none _) p5;have e4:=(fr_below hb2).cell (mps_none _) c4;have e4t:=(fr_below hb2).cell (mps_none _) c4t))
 go_upto_region 11 with (first | (go_at_call 45;refine (IB _).mono ?_;rintro e w' ⟨rfl,hw'⟩;rw [hw'];clear hw') | (go_at_call 46;refine (AV _ (fr_below hb2)).mono ?_;rintro e w'' ⟨rfl,hw''⟩;rw [hw''];clear hw''))
 have CP:=copy_facts hb2 HRD.out HX3.out
 have HCP:Hid _:=CP
 have HSP:Hid ((splice [Value.int .i64 0,.int .i64 0,.int .i64 0] 0 (i64s xs)).toArray = #[.int .i64 t0,.int .i64 t1,.int .i64 t2]):=by rw [Hid,splice_pad HX3.out];exact HTT.out
 clear CP
 go_upto_region 12 with (refine wpList_copy_splice rfl (.tmp 47) (.tmp 48) 28 28 rfl 3 Tryz.underlying28 info3size (some ⟨w2.heap.size,0,none⟩) va 3 3 xs.length vc rfl rfl w2.heap.size 0 [.int .i64 0,.int .i64 0,.int .i64 0] 110 (vheap_alloc_new _ _) (i64s xs) HCP.out.1 HCP.out.2.1 HCP.out.2.2.1 HCP.out.2.2.2.1 W.heap.size W HCP.out.2.2.2.2.1 HCP.out.2.2.2.2.2 ?_;intro w3 hg3 hb3)
 have hg3':w3.heap[w2.heap.size]? = some (.cells #[.int .i64 t0,.int .i64 t1,.int .i64 t2] 110 (0,0)):=by rw [hg3.out,HSP.out]
 have hf3:=fr_below hb3
 have d5:=hf3.cell (mps_none _) p5
 have z0:w3.cell? ⟨w2.heap.size,0,none⟩ = some (.int .i64 t0):=by simp [World.cell?,hg3']
 have z1:w3.cell? ⟨w2.heap.size,1,none⟩ = some (.int .i64 t1):=by simp [World.cell?,hg3']
 have z2:w3.cell? ⟨w2.heap.size,2,none⟩ = some (.int .i64 t2):=by simp [World.cell?,hg3']
 have RF:=REF w3.drew (hf3.trans (Fr.drew _) (fun _ _ h => h))
 have HB3:Hid (Below W.heap.size W w3):=hb3
 clear hg3 hg3' hf3 hb3 REF IB AV HCP e5 e4 e4t
 go_frame
 go_cut [12] from 50 to 56 (fun ev wx => ev = .int .i64 C /\ Below w3.heap.size w3 wx)
 case first =>
  first | go_region_law (refine step_call rfl 47 #[.tmp 52,.tmp 53,.tmp 54,.tmp 55] #[88,3,110,3] rfl enter47 #[.pointer (some ⟨vb,8,none⟩),.int .i64 r,.agg #[.int .i64 t0,.int .i64 t1,.int .i64 t2],.int .i64 x] (by kernel_rfl) _ RF ?_;rintro v1 w4 ⟨rfl,hb4⟩) | fail
  all_goals (go_wp2_with fail;go_meet)
  all_goals exact ⟨rfl,⟨hb4.os,hb4.tape,hb4.output,hb4.size,hb4.block⟩⟩
 case rest =>
  obtain ⟨rfl,hb4⟩:=hcut
  have hf4:=fr_below hb4
  have y5:=hf4.cell (mps_none _) d5
  have y0:=hf4.cell (mps_none _) z0
  have y1:=hf4.cell (mps_none _) z1
  have y2:=hf4.cell (mps_none _) z2
  have hbW:Below W.heap.size W wc:=HB3.out.trans (hb4.mono HB3.out.size)
  have l5:=World.block_lt_of_cell? _ _ y5
  have l0:=World.block_lt_of_cell? _ _ y0
  have CH:=HCHG.out wc hbW
  clear hb4 RF z0 z1 z2 d5 hf4 HCHG
  go_upto_region 17 with (go_at_call 48;refine CH.mono ?_;rintro e w5 ⟨rfl,g',own',hT5⟩)
  obtain ⟨⟨hv5,bh5,k1,k2⟩,k3,k4,k5,k6,k7,k8,k9⟩:=hT5
  have TELL:=tell_step vb 2 bh5 P.head hv5 (wc.heap.size) (dlt P R r (pad xs) x) w5.drew k1 k2 HP.out.1 HP.out.2 (k5.block rfl) k6
  have HK8:Hid _:=k8
  have HK9:Hid _:=k9
  have lv5:vb < w5.heap.size:=Nat.lt_of_lt_of_le lv k7
  have HFIN:Hid (∀ w6 vv us l,RNew 55 w5.drew.heap.size w6 vv us l -> Below w5.drew.heap.size w5.drew w6 -> (w6.cell? ⟨vb,0,none⟩ = some (.int .i32 1) /\ w6.frozen? ⟨vb,0,none⟩ = false) /\ RNew 55 w.heap.size (w6.setCell ⟨vb,0,none⟩ (.int .i32 0)) vv us l /\ VSt (w6.setCell ⟨vb,0,none⟩ (.int .i32 0)) vb P rb ib wb (updR R r (pad xs) x) g' own' /\ VUp w (w6.setCell ⟨vb,0,none⟩ (.int .i32 0)) own own'):=by
   intro w6 vv us l hn6 hb6
   have hb6':Below w5.heap.size w5 w6:=⟨hb6.os,hb6.tape,hb6.output,hb6.size,hb6.block⟩
   refine ⟨HLH.out w6 ((hb6'.block vb lv5).trans HK8.out),?_,HK9.out w6 hb6'⟩
   exact (hn6.set (p:=⟨vb,0,none⟩) lv5 _).weak k7
  clear k1 k2 k5 k8 k9 CH y0 y1 y2 hbW HK8 HK9
  first | go_region_law (refine step_call rfl 41 #[.tmp 67,.tmp 71] #[86,94] rfl enter41 #[.map (some wc.heap.size),.func (.func 42) #[.pointer (some ⟨vb,2,none⟩)] #[]] (by kernel_rfl) _ TELL ?_;rintro v1 w6 ⟨us,l,r1,r2,r3,r4⟩;obtain ⟨va6,vc6,rfl⟩:=vown_form r1.2.1) | fail
  all_goals go_wp2_with fail
  all_goals refine leaves_cons (f:=40) (args:=#[.pointer (some ⟨vb,0,none⟩)]) (by simp) (by simp [go_sem]) ?_
  all_goals obtain ⟨⟨m1,m2⟩,m3,m4,m5⟩:=HFIN.out w6 _ us l r1 r4
  all_goals refine (unlock_deferred Tryz.muLib ⟨vb,0,none⟩ .returning _ m1 m2).mono ?_
  all_goals rintro e u' w7 ⟨rfl,rfl,rfl⟩
  all_goals exact ⟨_,results_tmp2 rfl _ _ _,.slice va6 l.length vc6,us,l,g',own',rfl,m3,r2,r3,m4,m5⟩
end Go.Proofs.YtondkinefmjpjaaGreat
namespace Go.Proofs.YtondkinefmjpjaaGreat
open Go.RowKit Go.WideMaps Go.WideElems Go.Maps Go.Shelf
theorem rix_cases (rels:List RelD) (t:ByteArray):rixOf rels t = -1 ∨ ∃ r:Nat,r < rels.length /\ rixOf rels t = (r:Int):=by
 unfold rixOf
 split
 ·rename_i h;exact Or.inr ⟨_,h,rfl⟩
 ·exact Or.inl rfl
end Go.Proofs.YtondkinefmjpjaaGreat
