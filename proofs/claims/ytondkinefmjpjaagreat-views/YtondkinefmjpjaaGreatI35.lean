import Derived.Test.YtondkinefmjpjaaGreatI34
set_option maxHeartbeats 4000000
set_option maxRecDepth 100000
namespace Go.Proofs.YtondkinefmjpjaaGreat
open Go.RowKit Go.WideMaps Go.WideElems Go.Maps Go.Shelf Go.MuLone
theorem relNum_at {W:World} {vb:Nat} {P:PlanD} (hP:PlanOk P) (h:PlanSt W vb P) (name:ByteArray) {I:Int} (hI:rixOf P.rels name = I) :
  Calls Tryz.prog 44 #[.pointer (some ⟨vb,2,none⟩),.string name] W fun x w' => x = .returned (.int .i64 I) /\ Below W.heap.size W w':=by
 obtain ⟨rv,b2,rvs,h4,h5,h6,_⟩:=h.rels
 have:=relNum_any vb 2 b2 P.rels rvs h6 rv name W h4 h5 (by have:=hP.nrel;omega)
 rw [hI] at this
 exact this
theorem Update_name {w:World} {vb:Nat} {P:PlanD} {rb ib:List Nat} {wb:Nat} {R:Nat -> List Int -> Int} {g:Nat -> List Int -> Option Nat} {own:Nat -> Option (Nat × List Int)} (h:VSt w vb P rb ib wb R g own) (name:ByteArray) (x:Int) {v:Value} {xs:List Int} (hr:Reads w v xs) (hI:rixOf P.rels name = -1) :
  Calls Tryz.prog 16 #[.pointer (some ⟨vb,0,none⟩),.string name,.int .i64 x,v] w fun e w' => e = .returned (.tuple #[.slice none 0 0,.int .i64 5]) /\ Below w.heap.size w w':=by
 obtain ⟨W,hW⟩:∃ W,(w.alloc (.cells #[.pointer (some ⟨vb,0,none⟩)] 23)).setCell ⟨vb,0,none⟩ (.int .i32 1) = W:=⟨_,rfl⟩
 obtain ⟨p1,_,_,_,p5,_,p7,_,p9⟩:=upd_lock h hr hW
 have RN:=relNum_at h.ok p1 name hI
 have hA:=h.fr (Fr.alloc w (.cells #[.pointer (some ⟨vb,0,none⟩)] 23))
 obtain ⟨cA,hbA⟩:=hA.hb
 have f0:=blk_free hbA 0
 have h0:=hA.h0
 have HW:Hid _:=hW
 have H9:Hid _:=p9
 have H7:Hid _:=p7
 obtain ⟨c,hb⟩:=h.hb
 have lv:=vlt_of_block hb
 clear h hA p1 hbA hW p9 p7 hb hI
 go_enter_defers Tryz.func16,Tryz.ntmps16
 go_wp2_with (first | (go_at_call 39;refine (lock_free Tryz.muLib ⟨vb,0,none⟩ _ h0 f0).mono ?_;rintro e w' ⟨rfl,rfl⟩;rw [HW.out]) | (go_at_call 44;refine RN.mono ?_;rintro e w2 ⟨rfl,hb2⟩))
 refine leaves_cons (f:=40) (args:=#[.pointer (some ⟨vb,0,none⟩)]) (by simp) (by simp [go_sem]) ?_
 obtain ⟨⟨k1,k2⟩,k3⟩:=H9.out w2 (hb2.mono (by rw [H7.out];omega))
 refine (unlock_deferred Tryz.muLib ⟨vb,0,none⟩ .returning _ k1 k2).mono ?_
 rintro e u' w3 ⟨rfl,rfl,rfl⟩
 exact ⟨_,results_tmp2 rfl _ _ _,rfl,k3⟩
theorem Update_shape {w:World} {vb:Nat} {P:PlanD} {rb ib:List Nat} {wb:Nat} {R:Nat -> List Int -> Int} {g:Nat -> List Int -> Option Nat} {own:Nat -> Option (Nat × List Int)} (h:VSt w vb P rb ib wb R g own) (name:ByteArray) (x:Int) {v:Value} {xs:List Int} (hr:Reads w v xs) (_hxl:xs.length < 4611686018427387904) {r:Nat} (hrl:r < P.rels.length) (hI:rixOf P.rels name = (r:Int)) (hne:xs.length ≠ (P.rel r).2.1) :
  Calls Tryz.prog 16 #[.pointer (some ⟨vb,0,none⟩),.string name,.int .i64 x,v] w fun e w' => e = .returned (.tuple #[.slice none 0 0,.int .i64 6]) /\ Below w.heap.size w w':=by
 obtain ⟨W,hW⟩:∃ W,(w.alloc (.cells #[.pointer (some ⟨vb,0,none⟩)] 23)).setCell ⟨vb,0,none⟩ (.int .i32 1) = W:=⟨_,rfl⟩
 obtain ⟨p1,_,_,_,p5,p6,p7,_,p9⟩:=upd_lock h hr hW
 have RN:=relNum_at h.ok p1 name hI
 obtain ⟨lg,lcap,aa,ac,bat,c4,c4t,_,_⟩:=p1.relat hrl
 have hA:=h.fr (Fr.alloc w (.cells #[.pointer (some ⟨vb,0,none⟩)] 23))
 obtain ⟨cA,hbA⟩:=hA.hb
 have f0:=blk_free hbA 0
 have h0:=hA.h0
 have HW:Hid _:=hW
 have H9:Hid _:=p9
 have H7:Hid _:=p7
 obtain ⟨c,hb⟩:=h.hb
 have lv:=vlt_of_block hb
 obtain ⟨T,hT⟩:∃ T,(P.rel r).2.1 = T:=⟨_,rfl⟩
 rw [hT] at c4t
 have brl:(r:Int) < (P.rels.length:Int):=by omega
 have brn:¬ ((r:Int) < 0):=by omega
 obtain ⟨va,vc,hve,hrd⟩:=p6
 subst hve
 have HRD:Hid (Reads W (.slice va xs.length vc) xs):=⟨va,vc,rfl,hrd⟩
 have hsh:((xs.length:Int) != (T:Int)) = true:=by rw [hT] at hne;simp;omega
 clear h hA p1 hbA hW p9 p7 hb hI hrd hr
 go_enter_defers Tryz.func16,Tryz.ntmps16
 go_wp2_with (first | (go_at_call 39;refine (lock_free Tryz.muLib ⟨vb,0,none⟩ _ h0 f0).mono ?_;rintro e w' ⟨rfl,rfl⟩;rw [HW.out]) | (go_at_call 44;refine RN.mono ?_;rintro e w2 ⟨rfl,hb2⟩;have e5:=(fr_below hb2).cell (mps_none _) p5;have e4:=(fr_below hb2).cell (mps_none _) c4;have e4t:=(fr_below hb2).cell (mps_none _) c4t))
 refine leaves_cons (f:=40) (args:=#[.pointer (some ⟨vb,0,none⟩)]) (by simp) (by simp [go_sem]) ?_
 obtain ⟨⟨k1,k2⟩,k3⟩:=H9.out w2 (hb2.mono (by rw [H7.out];omega))
 refine (unlock_deferred Tryz.muLib ⟨vb,0,none⟩ .returning _ k1 k2).mono ?_
 rintro e u' w3 ⟨rfl,rfl,rfl⟩
 exact ⟨_,results_tmp2 rfl _ _ _,rfl,k3⟩
theorem Update_range {w:World} {vb:Nat} {P:PlanD} {rb ib:List Nat} {wb:Nat} {R:Nat -> List Int -> Int} {g:Nat -> List Int -> Option Nat} {own:Nat -> Option (Nat × List Int)} (h:VSt w vb P rb ib wb R g own) (name:ByteArray) (x:Int) {v:Value} {xs:List Int} (hr:Reads w v xs) (hxl:xs.length < 4611686018427387904) {r:Nat} (hrl:r < P.rels.length) (hI:rixOf P.rels name = (r:Int)) (heq:xs.length = (P.rel r).2.1) (hrg:(beyond x 9 || !xs.all okV) = true) :
  Calls Tryz.prog 16 #[.pointer (some ⟨vb,0,none⟩),.string name,.int .i64 x,v] w fun e w' => e = .returned (.tuple #[.slice none 0 0,.int .i64 8]) /\ Below w.heap.size w w':=by
 obtain ⟨W,hW⟩:∃ W,(w.alloc (.cells #[.pointer (some ⟨vb,0,none⟩)] 23)).setCell ⟨vb,0,none⟩ (.int .i32 1) = W:=⟨_,rfl⟩
 obtain ⟨p1,_,_,_,p5,p6,p7,_,p9⟩:=upd_lock h hr hW
 have RN:=relNum_at h.ok p1 name hI
 obtain ⟨lg,lcap,aa,ac,bat,c4,c4t,_,_⟩:=p1.relat hrl
 have hA:=h.fr (Fr.alloc w (.cells #[.pointer (some ⟨vb,0,none⟩)] 23))
 obtain ⟨cA,hbA⟩:=hA.hb
 have f0:=blk_free hbA 0
 have h0:=hA.h0
 have HW:Hid _:=hW
 have H9:Hid _:=p9
 have H7:Hid _:=p7
 obtain ⟨c,hb⟩:=h.hb
 have lv:=vlt_of_block hb
 obtain ⟨T,hT⟩:∃ T,(P.rel r).2.1 = T:=⟨_,rfl⟩
 rw [hT] at c4t
 have brl:(r:Int) < (P.rels.length:Int):=by omega
 have brn:¬ ((r:Int) < 0):=by omega
 obtain ⟨va,vc,hve,hrd⟩:=p6
 subst hve
 have HRD:Hid (Reads W (.slice va xs.length vc) xs):=⟨va,vc,rfl,hrd⟩
 have hsh:((xs.length:Int) != (T:Int)) = false:=by rw [hT] at heq;simp;omega
 obtain ⟨B1,hB1⟩:∃ B1,beyond x 9 = B1:=⟨_,rfl⟩
 obtain ⟨B2,hB2⟩:∃ B2,xs.all okV = B2:=⟨_,rfl⟩
 rw [hB1,hB2] at hrg
 have IB:=fun (u:World) => isBeyond_any x 9 u (by decide) (by decide)
 have AV:=fun (u:World) (hf:Fr (fun _ => False) W u) => areValues_any (.slice va xs.length vc) xs u (HRD.out.fr hf) hxl
 rw [hB1] at IB
 rw [hB2] at AV
 clear h hA p1 hbA hW p9 p7 hb hI hrd hr hB1 hB2 HRD heq hT
 cases B1
 ·have hB2':B2 = false:=by simpa using hrg
  subst hB2'
  go_enter_defers Tryz.func16,Tryz.ntmps16
  go_upto_region 8 with (first | (go_at_call 39;refine (lock_free Tryz.muLib ⟨vb,0,none⟩ _ h0 f0).mono ?_;rintro e w' ⟨rfl,rfl⟩;rw [HW.out]) | (go_at_call 44;refine RN.mono ?_;rintro e w2 ⟨rfl,hb2⟩;have e5:=(fr_below hb2).cell (mps_none _) p5;have e4:=(fr_below hb2).cell (mps_none _) c4;have e4t:=(fr_below hb2).cell (mps_none _) c4t))
  go_wp2_with (first | (go_at_call 45;refine (IB _).mono ?_;rintro e w' ⟨rfl,rfl⟩) | (go_at_call 46;refine (AV _ (fr_below hb2)).mono ?_;rintro e w' ⟨rfl,rfl⟩))
  refine leaves_cons (f:=40) (args:=#[.pointer (some ⟨vb,0,none⟩)]) (by simp) (by simp [go_sem]) ?_
  obtain ⟨⟨k1,k2⟩,k3⟩:=H9.out _ (hb2.mono (by rw [H7.out];omega))
  refine (unlock_deferred Tryz.muLib ⟨vb,0,none⟩ .returning _ k1 k2).mono ?_
  rintro e u' w3 ⟨rfl,rfl,rfl⟩
  exact ⟨_,results_tmp2 rfl _ _ _,rfl,k3⟩
 ·go_enter_defers Tryz.func16,Tryz.ntmps16
  go_upto_region 8 with (first | (go_at_call 39;refine (lock_free Tryz.muLib ⟨vb,0,none⟩ _ h0 f0).mono ?_;rintro e w' ⟨rfl,rfl⟩;rw [HW.out]) | (go_at_call 44;refine RN.mono ?_;rintro e w2 ⟨rfl,hb2⟩;have e5:=(fr_below hb2).cell (mps_none _) p5;have e4:=(fr_below hb2).cell (mps_none _) c4;have e4t:=(fr_below hb2).cell (mps_none _) c4t))
  go_wp2_with (go_at_call 45;refine (IB _).mono ?_;rintro e w' ⟨rfl,rfl⟩)
  refine leaves_cons (f:=40) (args:=#[.pointer (some ⟨vb,0,none⟩)]) (by simp) (by simp [go_sem]) ?_
  obtain ⟨⟨k1,k2⟩,k3⟩:=H9.out _ (hb2.mono (by rw [H7.out];omega))
  refine (unlock_deferred Tryz.muLib ⟨vb,0,none⟩ .returning _ k1 k2).mono ?_
  rintro e u' w3 ⟨rfl,rfl,rfl⟩
  exact ⟨_,results_tmp2 rfl _ _ _,rfl,k3⟩
end Go.Proofs.YtondkinefmjpjaaGreat
namespace Go.Proofs.YtondkinefmjpjaaGreat
theorem rows_upd {P:PlanD} {R:Nat -> List Int -> Int} (hR:RowsOk P R) {r:Nat} (hr:r < P.rels.length) {t:List Int} (ht:t ∈ boxN 3) (hz:∀ j,(P.rel r).2.1 <= j -> t.getD j 0 = 0) {x:Int} (hx:-9 <= x /\ x <= 9) (hn:refus (R r t) x (live 3 (R r)).length = 0):RowsOk P (updR R r t x):=by
 have hb:beyond (R r t + x) 99 = false:=by
  unfold refus at hn
  split at hn
  ·cases hn
  ·rename_i h;simpa using h
 have hb':-99 <= R r t + x /\ R r t + x <= 99:=by simp [beyond] at hb;omega
 have hm:¬ (R r t = 0 /\ x ≠ 0 /\ (live 3 (R r)).length = 12):=by
  intro h
  unfold refus at hn
  rw [hb,if_neg (by simp),if_pos h] at hn
  cases hn
 have same:∀ q,q ≠ r -> updR R r t x q = R q:=fun q hq => by simp [updR,hq]
 have here:updR R r t x r = bump (R r) t x:=by simp [updR]
 have bt:bump (R r) t x t = R r t + x:=by simp [bump]
 have bo:∀ t',t' ≠ t -> bump (R r) t x t' = R r t':=fun t' h => by simp [bump,h]
 refine ⟨fun q hq t' hne => ?_,fun q hq t' => ?_,fun q hq => ?_⟩
 ·by_cases e:q = r
  ·subst e
   rw [here] at hne
   by_cases et:t' = t
   ·subst et;exact ⟨ht,hz⟩
   ·rw [bo t' et] at hne;exact hR.box q hq t' hne
  ·rw [same q e] at hne;exact hR.box q hq t' hne
 ·by_cases e:q = r
  ·subst e
   rw [here]
   by_cases et:t' = t
   ·subst et;rw [bt];exact hb'
   ·rw [bo t' et];exact hR.bnd q hq t'
  ·rw [same q e];exact hR.bnd q hq t'
 ·by_cases e:q = r
  ·subst e
   rw [here]
   have hf:=hR.few q hq
   have htame:∀ t',wr (R q t') = R q t':=fun t' => by have:=hR.bnd q hq t';exact wr_small (by omega) (by omega)
   have hsub:∀ t',t' ∈ live 3 (bump (R q) t x) -> t' = t ∨ t' ∈ live 3 (R q):=fun t' h' => by
    by_cases et:t' = t
    ·exact Or.inl et
    ·right
     obtain ⟨h1,h2⟩:=mem_live.1 h'
     rw [bo t' et] at h2
     exact mem_live.2 ⟨h1,h2⟩
   by_cases h0:R q t = 0
   ·by_cases hx0:x = 0
    ·have:bump (R q) t x = R q:=by funext t';subst hx0;simp [bump]
     rw [this];exact hf
    ·have h11:(live 3 (R q)).length <= 11:=by
      have:(live 3 (R q)).length ≠ 12:=fun h12 => hm ⟨h0,hx0,h12⟩
      omega
     have:=nodup_le (m:=t :: live 3 (R q)) (live_nodup 3 (bump (R q) t x)) (fun t' h' => List.mem_cons.2 (hsub t' h'))
     rw [List.length_cons] at this
     omega
   ·have htl:t ∈ live 3 (R q):=mem_live.2 ⟨ht,by rw [htame];exact h0⟩
    have:=nodup_le (m:=live 3 (R q)) (live_nodup 3 (bump (R q) t x)) (fun t' h' => by
     rcases hsub t' h' with e | h
     ·rw [e];exact htl
     ·exact h)
    omega
  ·rw [same q e];exact hR.few q hq
end Go.Proofs.YtondkinefmjpjaaGreat
namespace Go.Proofs.YtondkinefmjpjaaGreat
open Go.RowKit Go.WideMaps Go.WideElems Go.Maps
structure UpPre (w u:World) (vb ob OB:Nat) (P:PlanD) (rb ib:List Nat) (wb:Nat) (R:Nat -> List Int -> Int) (g:Nat -> List Int -> Option Nat) (own ownu:Nat -> Option (Nat × List Int)):Prop where
 pl:PlanSt u vb P
 rows:∃ rv base,u.cell? ⟨vb,8,none⟩ = some rv /\ u.ownsRow base 130 1 rv rb.length (mapVs rb)
 ixs:∃ iv base,u.cell? ⟨vb,9,none⟩ = some iv /\ u.ownsRow base 166 1 iv ib.length (mapVs ib)
 wo:u.cell? ⟨vb,10,none⟩ = some (.map (some wb))
 o:u.cell? ⟨OB,0,none⟩ = some (.map (some ob))
 v2:u.cell? ⟨w.heap.size,0,none⟩ = some (.pointer (some ⟨vb,0,none⟩))
 cr:∀ q,q < P.rels.length -> CF 110 3 u (rb.getD q 0) (R q) /\ ownu (rb.getD q 0) = some (1,[(q:Int)])
 A:IxAll u P.ms P.lk ib (fun l => cont P R (P.lk.getD l (0,0)).2) g
 W:Own u ib P.lk.length g ownu
 ow:ownu wb = some (0,[]) /\ ownu ob = some (4,[])
 cw:CF 93 6 u wb (P.wor (cont P R))
 co:CF 93 6 u ob (fun _ => 0)
 fr:Fr (fun i => i = vb) w u
 old:∀ i,i ≠ ob -> ownu i = own i
 new:w.heap.size <= ob
 vbk:u.heap[vb]? = ((w.alloc (.cells #[.pointer (some ⟨vb,0,none⟩)] 23)).setCell ⟨vb,0,none⟩ (.int .i32 1)).heap[vb]?
 lto:ob < u.heap.size
theorem upd_pre {w W wc:World} {vb:Nat} {P:PlanD} {rb ib:List Nat} {wb:Nat} {R:Nat -> List Int -> Int} {g:Nat -> List Int -> Option Nat} {own:Nat -> Option (Nat × List Int)} (h:VSt w vb P rb ib wb R g own) {v:Value} {xs:List Int} (hr:Reads w v xs) (hW:(w.alloc (.cells #[.pointer (some ⟨vb,0,none⟩)] 23)).setCell ⟨vb,0,none⟩ (.int .i32 1) = W) (hwc:Below W.heap.size W wc) :
  UpPre w ((wc.alloc (.map #[] 0)).alloc (.cells #[.map (some wc.heap.size)] 86)) vb wc.heap.size (wc.heap.size + 1) P rb ib wb R g own (putO own (some wc.heap.size) (4,[])):=by
 obtain ⟨p1,⟨rv,b1,r1,r2⟩,⟨iv,b2,i1,i2⟩,p4,p5,_,p7,p8,_⟩:=upd_lock h hr hW
 obtain ⟨c,hb⟩:=h.hb
 have f1:Fr (fun _ => False) W ((wc.alloc (.map #[] 0)).alloc (.cells #[.map (some wc.heap.size)] 86)):=((fr_below hwc).trans (Fr.alloc _ _) (fun _ _ h => h)).trans (Fr.alloc _ _) (fun _ _ h => h)
 have f2:Fr (fun i => i = vb) w ((wc.alloc (.map #[] 0)).alloc (.cells #[.map (some wc.heap.size)] 86)):=p8.trans f1 (fun _ _ h => h.elim)
 have hmap:∀ (i:Nat) (es:Array MapEntry) (k:Nat),w.heap[i]? = some (Obj.map es k) -> ¬ i = vb:=fun i es k hi e => by rw [e,hb] at hi;cases hi
 have hsz:=hwc.size
 have hlt:∀ i q,own i = some q -> i < w.heap.size:=fun i q hq => by obtain ⟨es,k,e⟩:=h.W.m i q hq;exact vlt_of_block e
 have hold:∀ i,i ≠ wc.heap.size -> putO own (some wc.heap.size) (4,[]) i = own i:=fun i hi => by
  unfold putO
  rw [if_neg (fun e => hi (Option.some.inj e).symm)]
 have hown:∀ i q,own i = some q -> putO own (some wc.heap.size) (4,[]) i = some q:=fun i q hq => by
  rw [hold i (by have:=hlt i q hq;omega)];exact hq
 have hob:((wc.alloc (.map #[] 0)).alloc (.cells #[.map (some wc.heap.size)] 86)).heap[wc.heap.size]? = some (.map #[] 0):=(Below.heap_alloc _ _ _ (by simp)).trans (vheap_alloc_new wc _)
 have hkeepCF:∀ {k N b:Nat} {f:List Int -> Int},CF k N w b f -> CF k N ((wc.alloc (.map #[] 0)).alloc (.cells #[.map (some wc.heap.size)] 86)) b f:=fun hc => hc.fr f2 (by obtain ⟨es,k,e⟩:=hc.isMap;exact hmap _ es k e)
 refine ⟨p1.fr f1 (mps_none _),⟨rv,b1,f1.cell (mps_none _) r1,f1.own (mps_none _) r2⟩,⟨iv,b2,f1.cell (mps_none _) i1,f1.own (mps_none _) i2⟩,f1.cell (mps_none _) p4,?_,f1.cell (mps_none _) p5,fun q hq => ⟨hkeepCF (h.cr q hq).1,hown _ _ (h.cr q hq).2⟩,Ixs.keep h.A h.W f2 (fun i q hq _ e => ?_),⟨fun l hl => hown _ _ (h.W.o l hl),fun l hl k hk d hd => hown _ _ (h.W.i l hl k hk d hd),fun i q hq => ?_⟩,⟨hown _ _ h.ow,by simp [putO]⟩,hkeepCF h.cw,?_,f2,hold,by omega,?_,by simp;omega⟩
 ·have:=vheap_alloc_new (wc.alloc (.map #[] 0)) (.cells #[.map (some wc.heap.size)] 86)
  rw [World.size_alloc] at this
  unfold World.cell?
  rw [this];rfl
 ·obtain ⟨es,k,e'⟩:=h.W.m i q hq
  exact hmap i es k e' e
 ·by_cases e:i = wc.heap.size
  ·subst e;exact ⟨_,_,hob⟩
  ·rw [hold i e] at hq
   obtain ⟨es,k,e'⟩:=h.W.m i q hq
   exact ⟨es,k,(f2.block i (vlt_of_block e') (hmap i es k e')).trans e'⟩
 ·have h0:=World.ownsMap_made (H:=Unit) wc Tryz.prog 93 (plainElem Tryz.prog 3)
  have h1:CF 93 6 (wc.alloc (.map #[] 0)) wc.heap.size (fun _ => 0):=⟨0,.map [],h0,rep_empty 6⟩
  exact h1.block (Below.heap_alloc _ _ _ (by simp))
 ·rw [hW]
  exact f1.block vb (by have:=vlt_of_block hb;omega) (fun h => h)
theorem upd_fin {w u w5 w6:World} {vb ob OB:Nat} {P:PlanD} {rb ib:List Nat} {wb:Nat} {R:Nat -> List Int -> Int} {g g':Nat -> List Int -> Option Nat} {own ownu own':Nat -> Option (Nat × List Int)} (h:VSt w vb P rb ib wb R g own) (hp:UpPre w u vb ob OB P rb ib wb R g own ownu) {r:Nat} (hr:r < P.rels.length) {t:List Int} (ht:t ∈ boxN 3) (hz:∀ j,(P.rel r).2.1 <= j -> t.getD j 0 = 0) {x:Int} (hx:-9 <= x /\ x <= 9) (hn:refus (R r t) x (live 3 (R r)).length = 0)
  (hc:ChP u w5 vb ob wb P ib (rb.getD r 0) r (R r) (cont P R) (fK P (cont P R) (P.rel r).2.2 t x (P.rel r).2.2.length) (fun _ => 0) t x ownu g' own') (h6:Below w5.heap.size w5 w6) :
  VSt (w6.setCell ⟨vb,0,none⟩ (.int .i32 0)) vb P rb ib wb (updR R r t x) g' (fun i => if i = ob then none else own' i) /\ VUp w (w6.setCell ⟨vb,0,none⟩ (.int .i32 0)) own (fun i => if i = ob then none else own' i):=by
 obtain ⟨c,hb⟩:=h.hb
 have hm:=mps_ow hp.W
 have F5:=hc.up.fr
 have F6:Fr (fun _ => False) w5 w6:=fr_below h6
 have hA:=h.fr (Fr.alloc w (.cells #[.pointer (some ⟨vb,0,none⟩)] 23))
 obtain ⟨cA,hbA⟩:=hA.hb
 have hbu:=hp.vbk.trans (blk_setCell hbA 0 (.int .i32 1))
 have hvu:vb < u.heap.size:=vlt_of_block hbu
 have hvo:¬ OwB ownu vb:=fun ⟨q,hq⟩ => by obtain ⟨es,k,e⟩:=hp.W.m vb q hq;rw [hbu] at e;cases e
 have e5:w5.heap[vb]? = u.heap[vb]?:=F5.block vb hvu hvo
 have hv5:vb < w5.heap.size:=Nat.lt_of_lt_of_le hvu F5.size
 have e6:w6.heap[vb]? = u.heap[vb]?:=(F6.block vb hv5 (fun h => h)).trans e5
 have hb6:=e6.trans hbu
 have hw7:(w6.setCell ⟨vb,0,none⟩ (.int .i32 0)).heap[vb]? = w.heap[vb]?:=(lock_back hbA hA.h0 rfl (e6.trans hp.vbk)).trans (Below.heap_alloc _ _ _ (vlt_of_block hb))
 have other:∀ i,i ≠ vb -> (w6.setCell ⟨vb,0,none⟩ (.int .i32 0)).heap[i]? = w6.heap[i]?:=fun i hi => Below.heap_setCell _ _ _ _ hi
 have toW7:∀ {k N b:Nat} {f:List Int -> Int},CF k N w5 b f -> CF k N (w6.setCell ⟨vb,0,none⟩ (.int .i32 0)) b f:=fun {k N b f} hcf => by
  have hne:b ≠ vb:=fun e => by obtain ⟨es,q,e'⟩:=hcf.isMap;rw [e,e5,hbu] at e';cases e'
  exact (hcf.fr F6 (fun h => h)).block (other b hne)
 have hou:∀ i,i < u.heap.size -> own' i = ownu i:=hc.up.old
 have hltu:∀ i q,ownu i = some q -> i < u.heap.size:=fun i q hq => by obtain ⟨es,k,e⟩:=hp.W.m i q hq;exact vlt_of_block e
 have hltw:∀ i q,own i = some q -> i < w.heap.size:=fun i q hq => by obtain ⟨es,k,e⟩:=h.W.m i q hq;exact vlt_of_block e
 have hobn:∀ i q,own' i = some q -> q.1 ≠ 4 -> i ≠ ob:=fun i q hq h4 e => by
  subst e
  rw [hou i hp.lto,hp.ow.2] at hq
  simp at hq;subst hq;exact h4 rfl
 have keepo:∀ i q,own' i = some q -> q.1 ≠ 4 -> (if i = ob then none else own' i) = some q:=fun i q hq h4 => by rw [if_neg (hobn i q hq h4)];exact hq
 have hfr7:Fr (fun i => i = vb) w6 (w6.setCell ⟨vb,0,none⟩ (.int .i32 0)):=Fr.setCell ⟨vb,0,none⟩ _ (fun _ => rfl)
 obtain ⟨rv,b1,r1,r2⟩:=hp.rows
 obtain ⟨iv,b2,i1,i2⟩:=hp.ixs
 have cell6:∀ {p:Addr} {y:Value},u.cell? p = some y -> w6.cell? p = some y:=fun hy => F6.cell (mps_none _) (F5.cell hm hy)
 have own6:∀ {b:Nat} {e:TypeId} {s:Nat} {y:Value} {n:Nat} {ys:List Value},u.ownsRow b e s y n ys -> w6.ownsRow b e s y n ys:=fun hy => F6.own (mps_none _) (F5.own hm hy)
 have hfK:(fun l => fK P (cont P R) (P.rel r).2.2 t x (P.rel r).2.2.length (P.lk.getD l (0,0)).2) = fun l => cont P (updR R r t x) (P.lk.getD l (0,0)).2:=by
  funext l;rw [cont_upd h.ok h.rel R hr ht x]
 have hrole1:∀ q,q < P.rels.length -> own' (rb.getD q 0) = some (1,[(q:Int)]):=fun q hq => (hou _ (hltu _ _ (hp.cr q hq).2)).trans (hp.cr q hq).2
 refine ⟨⟨h.ok,h.rel,rows_upd h.rok hr ht hz hx hn,⟨c,hw7.trans hb⟩,cell_of_block h.h0 hw7,((hp.pl.fr F5 hm).fr F6 (mps_none _)).lock hb6 _,⟨rv,b1,(lock_cell (Or.inr (by simp))).trans (cell6 r1),lock_own hb6 (own6 r2) (by decide)⟩,⟨iv,b2,(lock_cell (Or.inr (by simp))).trans (cell6 i1),lock_own hb6 (own6 i2) (by decide)⟩,(lock_cell (Or.inr (by simp))).trans (cell6 hp.wo),h.hrb,h.hil,fun q hq => ⟨?_,keepo _ _ (hrole1 q hq) (by simp)⟩,?_,?_,keepo _ _ ((hou wb (hltu _ _ hp.ow.1)).trans hp.ow.1) (by simp),?_,?_⟩,?_⟩
 ·by_cases e:q = r
  ·subst e
   have:updR R q t x q = bump (R q) t x:=by simp [updR]
   rw [this];exact toW7 hc.cr
  ·have:updR R r t x q = R q:=by simp [updR,e]
   rw [this]
   refine toW7 ((hp.cr q hq).1.block (hc.keep1 _ _ (hp.cr q hq).2 rfl (fun he => e ?_)))
   have e1:=(hp.cr q hq).2
   rw [he,(hp.cr r hr).2] at e1
   simp at e1;omega
 ·rw [← hfK]
  have hA6:=hc.A.fr F6
  have hW6:=hc.W.fr F6
  exact Ixs.keep hA6 hW6 hfr7 (fun i q hq _ e => by obtain ⟨es,k,e'⟩:=hW6.m i q hq;rw [e,hb6] at e';cases e')
 ·refine ⟨fun l hl => keepo _ _ (hc.W.o l hl) (by simp),fun l hl k hk d hd => keepo _ _ (hc.W.i l hl k hk d hd) (by simp),fun i q hq => ?_⟩
  split at hq
  ·cases hq
  ·obtain ⟨es,k,e⟩:=hc.W.m i q hq
   have hne:i ≠ vb:=fun e' => by rw [e',e5,hbu] at e;cases e
   exact ⟨es,k,(other i hne).trans ((F6.block i (vlt_of_block e) (fun h => h)).trans e)⟩
 ·have:P.wor (cont P (updR R r t x)) = P.wor (fK P (cont P R) (P.rel r).2.2 t x (P.rel r).2.2.length):=by rw [cont_upd h.ok h.rel R hr ht x]
  rw [this];exact toW7 hc.cw
 ·intro i q hq
  split at hq
  ·cases hq
  ·rename_i hi
   by_cases hl:i < u.heap.size
   ·rw [hou i hl,hp.old i hi] at hq;exact h.no4 i q hq
   ·rcases hc.up.new i q (by omega) hq with e | e
    ·exact absurd (hltu i q e) hl
    ·omega
 ·have hsz:w.heap.size <= u.heap.size:=hp.fr.size
  refine ⟨⟨?_,?_,?_,?_,fun i hi hno => ?_⟩,fun i hi => ?_,fun i q hi hq => ?_,fun i es k hi => ?_⟩
  ·have:=hfr7.size;have:=F6.size;have:=F5.size;omega
  ·exact hfr7.os.trans (F6.os.trans (F5.os.trans hp.fr.os))
  ·exact hfr7.tape.trans (F6.tape.trans (F5.tape.trans hp.fr.tape))
  ·exact hfr7.output.trans (F6.output.trans (F5.output.trans hp.fr.output))
  ·by_cases e:i = vb
   ·subst e;exact hw7
   ·rw [other i e,F6.block i (by have:=F5.size;omega) (fun h => h),F5.block i (by omega) (fun ⟨q,hq⟩ => hno ⟨q,by rw [← hp.old i (by have:=hp.new;omega)];exact hq⟩)]
    exact hp.fr.block i hi e
  ·have hio:i ≠ ob:=by have:=hp.new;omega
   show (if i = ob then none else own' i) = own i
   rw [if_neg hio,hou i (by omega),hp.old i hio]
  ·have hq':(if i = ob then none else own' i) = some q:=hq
   split at hq'
   ·cases hq'
   ·rename_i hio
    by_cases hl:i < u.heap.size
    ·rw [hou i hl,hp.old i hio] at hq';exact Or.inl hq'
    ·rcases hc.up.new i q (by omega) hq' with e | e
     ·exact absurd (hltu i q e) hl
     ·exact Or.inr e
  ·have hne:i ≠ vb:=fun e => by rw [e,hb] at hi;cases hi
   have hiu:u.heap[i]? = some (Obj.map es k):=(hp.fr.block i (vlt_of_block hi) hne).trans hi
   obtain ⟨es',k',e'⟩:=hc.up.maps i es k hiu
   exact ⟨es',k',(other i hne).trans ((F6.block i (vlt_of_block e') (fun h => h)).trans e')⟩
end Go.Proofs.YtondkinefmjpjaaGreat
