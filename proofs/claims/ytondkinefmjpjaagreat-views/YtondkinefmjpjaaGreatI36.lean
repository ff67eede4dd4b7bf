import Derived.Test.YtondkinefmjpjaaGreatI35
set_option maxHeartbeats 8000000
set_option maxRecDepth 100000
namespace Go.Proofs.YtondkinefmjpjaaGreat
open Go.RowKit Go.WideMaps Go.WideElems Go.Maps Go.Shelf Go.MuLone
theorem enter47:∀ vs u,(callFunc 47 vs).run Tryz.prog u = .ok (.enter 47 vs) u:=enters_of Tryz.func47 (by kernel_rfl) rfl
theorem info3size:(Tryz.prog.info? 3).map (·.size) = some 1:=by kernel_rfl
theorem splice_pad {xs:List Int} (h:xs.length <= 3):splice [Value.int .i64 0,.int .i64 0,.int .i64 0] 0 (i64s xs) = i64s (pad xs):=by
 match xs,h with
 | [],_ => rfl
 | [_],_ => rfl
 | [_,_],_ => rfl
 | [_,_,_],_ => rfl
theorem refusal_step (vb r:Nat) (rb:List Nat) (f:List Int -> Int) (t:List Int) (x:Int) (w:World) (hr:r < rb.length) (hrl:rb.length < 100) (hv:∃ rv base,w.cell? ⟨vb,8,none⟩ = some rv /\ w.ownsRow base 130 1 rv rb.length (mapVs rb)) (hf:CF 110 3 w (rb.getD r 0) f) (ht:t ∈ boxN 3)
  (hT:-99 <= f t /\ f t <= 99) (hx:-9 <= x /\ x <= 9) :
  Calls Tryz.prog 47 #[.pointer (some ⟨vb,8,none⟩),.int .i64 r,.agg (i64s t).toArray,.int .i64 x] w fun e w' => ∃ v,e = .returned v /\ (v = .int .i64 (refus (f t) x (live 3 f).length) /\ Below w.heap.size w w'):=by
 obtain ⟨rv,base,h1,h2⟩:=hv
 refine (refusal_any vb base r rb f t x w hr hrl ⟨rv,h1,h2⟩ hf ht hT hx).mono ?_
 rintro e w' ⟨rfl,h⟩
 exact ⟨_,rfl,rfl,h⟩
theorem copy_facts {W w2:World} {va:Option Addr} {xs:List Int} (hb2:Below W.heap.size W w2) (hrd:0 < xs.length -> ∃ g off,va = some ⟨g,off,none⟩ /\ ∀ j,j < xs.length -> W.cell? ⟨g,off + j,none⟩ = some (.int .i64 (xs.getD j 0))) (h3:xs.length <= 3) :
  (i64s xs).length = Nat.min xs.length 3 /\ (0 < (i64s xs).length -> (some ⟨w2.heap.size,0,none⟩:Option Addr) = some ⟨w2.heap.size,0,none⟩ /\ ∃ ad,va = some ad /\ ∀ j v,(i64s xs)[j]? = some v -> (w2.alloc (.cells #[.int .i64 0,.int .i64 0,.int .i64 0] 110)).cell? (ad.add j) = some v) /\ 0 + (i64s xs).length <= [Value.int .i64 0,.int .i64 0,.int .i64 0].length /\ (∀ v ∈ i64s xs,v.oneCell' = true) /\ Below W.heap.size W (w2.alloc (.cells #[.int .i64 0,.int .i64 0,.int .i64 0] 110)) /\ W.heap.size <= w2.heap.size:=by
 have hl:(i64s xs).length = xs.length:=by simp [i64s]
 refine ⟨by rw [hl];exact (Nat.min_eq_left h3).symm,fun hp => ⟨rfl,?_⟩,by rw [hl];simpa using h3,fun v hv => ?_,hb2.alloc hb2.size _,hb2.size⟩
 ·obtain ⟨g,off,rfl,hc⟩:=hrd (by rw [hl] at hp;exact hp)
  refine ⟨_,rfl,fun j v hj => ?_⟩
  have hjl:j < xs.length:=by
   have:=(List.getElem?_eq_some_iff.1 hj).1
   rw [hl] at this;exact this
  have e1:=hc j hjl
  have hF:Fr (fun _ => False) W (w2.alloc (.cells #[.int .i64 0,.int .i64 0,.int .i64 0] 110)):=(fr_below hb2).trans (Fr.alloc _ _) (fun _ _ h => h)
  have e2:=hF.cell (mps_none _) e1
  have e3:v = .int .i64 (xs.getD j 0):=by
   simp [i64s,List.getElem?_map,List.getElem?_eq_getElem hjl] at hj
   rw [← hj,List.getD_eq_getElem?_getD,List.getElem?_eq_getElem hjl];rfl
  rw [e3]
  by_cases hj0:j = 0
  ·subst hj0;simpa [Addr.add] using e2
  ·simpa [Addr.add,hj0] using e2
 ·obtain ⟨y,_,rfl⟩:=List.mem_map.1 hv
  rfl
theorem Update_refus {w:World} {vb:Nat} {P:PlanD} {rb ib:List Nat} {wb:Nat} {R:Nat -> List Int -> Int} {g:Nat -> List Int -> Option Nat} {own:Nat -> Option (Nat × List Int)} (h:VSt w vb P rb ib wb R g own) (name:ByteArray) (x:Int) {v:Value} {xs:List Int} (hr:Reads w v xs) {r:Nat} (hrl:r < P.rels.length) (hI:rixOf P.rels name = (r:Int)) (heq:xs.length = (P.rel r).2.1) (hx3:xs.length <= 3) (hx:beyond x 9 = false) (hvs:xs.all okV = true) (hrf:refus (R r (pad xs)) x (live 3 (R r)).length ≠ 0) :
  Calls Tryz.prog 16 #[.pointer (some ⟨vb,0,none⟩),.string name,.int .i64 x,v] w fun e w' => e = .returned (.tuple #[.slice none 0 0,.int .i64 (refus (R r (pad xs)) x (live 3 (R r)).length)]) /\ Below w.heap.size w w':=by
 obtain ⟨W,hW⟩:∃ W,(w.alloc (.cells #[.pointer (some ⟨vb,0,none⟩)] 23)).setCell ⟨vb,0,none⟩ (.int .i32 1) = W:=⟨_,rfl⟩
 obtain ⟨p1,p2,_,_,p5,p6,p7,p8,p9⟩:=upd_lock h hr hW
 have RN:=relNum_at h.ok p1 name hI
 obtain ⟨lg,lcap,aa,ac,bat,c4,c4t,_,_⟩:=p1.relat hrl
 have hA:=h.fr (Fr.alloc w (.cells #[.pointer (some ⟨vb,0,none⟩)] 23))
 obtain ⟨cA,hbA⟩:=hA.hb
 have f0:=blk_free hbA 0
 have h0:=hA.h0
 have HW:Hid _:=hW
 have H9:Hid _:=p9
 have H7:Hid _:=p7
 obtain ⟨c,hb⟩:=h.hb
 have lv:=vlt_of_block hb
 have hpb:=pad_box hx3 hvs
 have hxb:-9 <= x /\ x <= 9:=by simp [beyond] at hx;omega
 obtain ⟨cr1,_⟩:=h.cr r hrl
 have hcrW:CF 110 3 W (rb.getD r 0) (R r):=cr1.fr p8 (fun e => by obtain ⟨es,k,hm⟩:=cr1.isMap;rw [e,hb] at hm;cases hm)
 have hnr:=h.ok.nrel
 have hrbl:=h.hrb
 have hbnd:=h.rok.bnd r hrl (pad xs)
 have REF:=fun (u:World) (hf:Fr (fun _ => False) W u) => refusal_step vb r rb (R r) (pad xs) x u (by omega) (by omega) (by obtain ⟨rv,b1,r1,r2⟩:=p2;exact ⟨rv,b1,hf.cell (mps_none _) r1,hf.own (mps_none _) r2⟩) (hcrW.fr hf (fun h => h)) hpb hbnd hxb
 obtain ⟨C,hC⟩:∃ C,refus (R r (pad xs)) x (live 3 (R r)).length = C:=⟨_,rfl⟩
 rw [hC] at hrf REF ⊢
 obtain ⟨t0,t1,t2,hte⟩:=three (pad xs) (box_length hpb)
 have hTT:(i64s (pad xs)).toArray = #[.int .i64 t0,.int .i64 t1,.int .i64 t2]:=by rw [hte];rfl
 rw [hTT] at REF
 have HTT:Hid _:=hTT
 have hCne:(C != 0) = true:=by simpa using hrf
 obtain ⟨T,hT⟩:∃ T,(P.rel r).2.1 = T:=⟨_,rfl⟩
 rw [hT] at c4t
 have brl:(r:Int) < (P.rels.length:Int):=by omega
 have brn:¬ ((r:Int) < 0):=by omega
 obtain ⟨va,vc,hve,hrd⟩:=p6
 subst hve
 have HRD:Hid (0 < xs.length -> ∃ g off,va = some ⟨g,off,none⟩ /\ ∀ j,j < xs.length -> W.cell? ⟨g,off + j,none⟩ = some (.int .i64 (xs.getD j 0))):=hrd
 have hsh:((xs.length:Int) != (T:Int)) = false:=by rw [hT] at heq;simp;omega
 have IB:=fun (u:World) => isBeyond_any x 9 u (by decide) (by decide)
 have AV:=fun (u:World) (hf:Fr (fun _ => False) W u) => areValues_any (.slice va xs.length vc) xs u (Reads.fr ⟨va,vc,rfl,hrd⟩ hf) (by omega)
 rw [hx] at IB
 rw [hvs] at AV
 have HX3:Hid (xs.length <= 3):=hx3
 have lW:=World.block_lt_of_cell? _ _ p5
 clear h hA p1 hbA hW p9 p7 p8 hb hI hrd hr hx hvs heq hT hrf hC hTT hte hpb hxb cr1 hcrW hrbl hnr hbnd p2 hx3
 go_enter_defers Tryz.func16,Tryz.ntmps16
 go_upto_region 8 with (first | (go_at_call 39;refine (lock_free Tryz.muLib ⟨vb,0,none⟩ _ h0 f0).mono ?_;rintro e w' ⟨rfl,rfl⟩;rw [HW.out]) | (go_at_call 44;refine RN.mono ?_;rintro e w2 ⟨rfl,hb2⟩;have e5:=(fr_below hb2).cell (mps_none _) p5;have e4:=(fr_below hb2).cell (mps_none _) c4;have e4t:=(fr_below hb2).cell (mps_none _) c4t))
 go_upto_region 11 with (first | (go_at_call 45;refine (IB _).mono ?_;rintro e w' ⟨rfl,hw'⟩;rw [hw'];clear hw') | (go_at_call 46;refine (AV _ (fr_below hb2)).mono ?_;rintro e w'' ⟨rfl,hw''⟩;rw [hw''];clear hw''))
 have CP:=copy_facts hb2 HRD.out HX3.out
 have HCP:Hid _:=CP
 have HSP:Hid ((splice [Value.int .i64 0,.int .i64 0,.int .i64 0] 0 (i64s xs)).toArray = #[.int .i64 t0,.int .i64 t1,.int .i64 t2]):=by rw [Hid,splice_pad HX3.out];exact HTT.out
 clear CP
 go_upto_region 12 with (refine wpList_copy_splice rfl (.tmp 47) (.tmp 48) 28 28 rfl 3 Tryz.underlying28 info3size (some ⟨w2.heap.size,0,none⟩) va 3 3 xs.length vc rfl rfl w2.heap.size 0 [.int .i64 0,.int .i64 0,.int .i64 0] 110 (vheap_alloc_new _ _) (i64s xs) HCP.out.1 HCP.out.2.1 HCP.out.2.2.1 HCP.out.2.2.2.1 W.heap.size W HCP.out.2.2.2.2.1 HCP.out.2.2.2.2.2 ?_;intro w3 hg3 hb3)
 have hg3':w3.heap[w2.heap.size]? = some (.cells #[.int .i64 t0,.int .i64 t1,.int .i64 t2] 110 (0,0)):=by rw [hg3.out,HSP.out]
 have hf3:=fr_below hb3
 have d5:=hf3.cell (mps_none _) p5
 have z0:w3.cell? ⟨w2.heap.size,0,none⟩ = some (.int .i64 t0):=by simp [World.cell?,hg3']
 have z1:w3.cell? ⟨w2.heap.size,1,none⟩ = some (.int .i64 t1):=by simp [World.cell?,hg3']
 have z2:w3.cell? ⟨w2.heap.size,2,none⟩ = some (.int .i64 t2):=by simp [World.cell?,hg3']
 have RF:=REF w3.drew (hf3.trans (Fr.drew _) (fun _ _ h => h))
 have HB3:Hid (Below W.heap.size W w3):=hb3
 clear hg3 hg3' hf3 hb3 REF IB AV HCP e5 e4 e4t
 go_frame
 go_cut [12] from 50 to 56 (fun ev wx => ev = .int .i64 C /\ Below w3.heap.size w3 wx)
 case first =>
  first | go_region_law (refine step_call rfl 47 #[.tmp 52,.tmp 53,.tmp 54,.tmp 55] #[88,3,110,3] rfl enter47 #[.pointer (some ⟨vb,8,none⟩),.int .i64 r,.agg #[.int .i64 t0,.int .i64 t1,.int .i64 t2],.int .i64 x] (by kernel_rfl) _ RF ?_;rintro v1 w4 ⟨rfl,hb4⟩) | fail
  all_goals (go_wp2_with fail;go_meet)
  all_goals exact ⟨rfl,⟨hb4.os,hb4.tape,hb4.output,hb4.size,hb4.block⟩⟩
 case rest =>
  obtain ⟨rfl,hb4⟩:=hcut
  have HB4:Hid (Below w3.heap.size w3 wc):=hb4
  clear hb4 RF z0 z1 z2 d5
  go_wp2_with fail
  refine leaves_cons (f:=40) (args:=#[.pointer (some ⟨vb,0,none⟩)]) (by simp) (by simp [go_sem]) ?_
  obtain ⟨⟨k1,k2⟩,k3⟩:=H9.out wc ((HB3.out.trans (HB4.out.mono HB3.out.size)).mono (by rw [H7.out];omega))
  refine (unlock_deferred Tryz.muLib ⟨vb,0,none⟩ .returning _ k1 k2).mono ?_
  rintro e u' w5 ⟨rfl,rfl,rfl⟩
  exact ⟨_,results_tmp2 rfl _ _ _,rfl,k3⟩
end Go.Proofs.YtondkinefmjpjaaGreat
