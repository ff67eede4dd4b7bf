import Derived.Deep.AppendLies
import Derived.Deep.CutBlock
import Derived.Test.YtondkinefmjpjaaGreatI22
import Derived.Test.YtondkinefmjpjaaGreatI39
import Derived.Test.YtondkinefmjpjaaGreatI40
set_option maxHeartbeats 4000000
set_option maxRecDepth 100000
namespace Go.Proofs.YtondkinefmjpjaaGreat
open Go.RowKit
theorem Tryz.info106:(Tryz.prog.info? 106).map (fun i => (i.zero,i.size,i.bytes)) = some (some (.agg #[.string ⟨#[]⟩,.int .i64 0,.slice none 0 0]),3,48):=by kernel_rfl
theorem enter126:∀ vs u,(callFunc 126 vs).run Tryz.prog u = .ok (.enter 126 vs) u:=enters_of Tryz.func126 (by kernel_rfl) rfl
theorem vthree_new (w:World) (x y z:Value) (t:TypeId):∀ j u,[x,y,z][j]? = some u -> (w.alloc (.cells #[x,y,z] t)).cell? ((⟨w.heap.size,0,none⟩:Addr).add j) = some u:=by
 intro j u hj
 match j,hj with
 | 0,hj => simp at hj;subst hj;simp [Addr.add]
 | 1,hj => simp at hj;subst hj;simp [Addr.add]
 | 2,hj => simp at hj;subst hj;simp [Addr.add]
structure AddA (w w':World) (pb base:Nat) (hv mv av lv wv rv':Value) (R:List RelD) (rvs':List Value) (own:Nat -> Option Nat) (P:Nat -> Prop):Prop where
 blk:w'.heap[pb]? = some (.cells #[hv,mv,rv',av,lv,wv] 83 (0,0))
 pr:PRl w' base rv' R rvs' own
 kp:Kp P w w'
 fr:∀ k,rv'.ownBlock = some k -> P k ∨ w.heap.size <= k
theorem add_new {w w1 w2 w3:World} {pb base:Nat} {hv mv rv av lv wv rv':Value} {rels:List RelD} {rvs:List Value} {own:Nat -> Option Nat} {rel:ByteArray} {n m:Nat} {o:Obj}
  (hb:w.heap[pb]? = some (.cells #[hv,mv,rv,av,lv,wv] 83 (0,0))) (h:PRl w base rv rels rvs own) (h1:Below w.heap.size w w1) (h2:Below w1.heap.size w1 w2) (hg:(w2.alloc o).grownBy w3 rv.ownBlock) (ho:w3.ownsRow base 106 3 rv' m (relcells rels rvs ++ [.string rel,.int .i64 n,.slice none 0 0])) (hm:m = rels.length + 1) (hf:∀ k,rv'.ownBlock = some k -> rv.ownBlock = some k ∨ k = (w2.alloc o).heap.size) :
  AddA w (w3.setCell ⟨pb,2,none⟩ rv') pb base hv mv av lv wv rv' (rels ++ [(rel,n,[])]) (rvs ++ [Value.slice none 0 0]) own (fun k => k = pb ∨ rv.ownBlock = some k ∨ own k ≠ none) /\ w3.cell? ⟨pb,2,none⟩ = some rv /\ w3.frozen? ⟨pb,2,none⟩ = false:=by
 have hB:Below w.heap.size w (w2.alloc o):=(h1.trans (h2.mono h1.size)).alloc (Nat.le_trans h1.size h2.size) o
 have hp:=h.more hB hg ho hm
 have hK:Kp (fun k => rv.ownBlock = some k) w w3:=(Kp.of_below hB).trans (Kp.grown hg (fun k hk => hk)) (fun _ _ q => q)
 have nb:¬ rv.ownBlock = some pb:=fun e => by obtain ⟨c,hc⟩:=own_cells h.row e;rw [hb] at hc;simp at hc
 have b3:=(hK.block pb (vlt_of_block hb) nb).trans hb
 have hS:Kp (fun k => k = pb) w3 (w3.setCell ⟨pb,2,none⟩ rv'):=Kp.set _ _ _ rfl
 refine ⟨⟨?_,hp.kp hS (fun k hk e => ?_) (fun k r hr e => ?_),(hK.mono (fun _ _ q => Or.inr (Or.inl q))).trans (hS.mono (fun _ _ q => Or.inl q)) (fun _ _ q => q),fun k hk => ?_⟩,by simp [World.cell?,b3],by simp [World.frozen?,b3]⟩
 ·rw [blk_setCell b3 2 rv'];simp [Array.setIfInBounds]
 ·obtain ⟨c,hc⟩:=own_cells hp.row hk
  rw [e,b3] at hc;simp at hc
 ·obtain ⟨_,c,hc⟩:=hp.tg k r hr
  rw [e,b3] at hc;simp at hc
 ·rcases hf k hk with q | q
  ·exact Or.inl (Or.inr (Or.inl q))
  ·right
   have:=h1.size;have:=h2.size
   simp at q;omega
theorem add_fin {w wx w1 w2:World} {pb base g cap n j i m aj:Nat} {hv mv av lv wv:Value} {R:List RelD} {rvs:List Value} {own:Nat -> Option Nat} {P:Nat -> Prop} {cj:Nat} (h:AddA w wx pb base hv mv av lv wv (.slice (some ⟨g,0,none⟩) n cap) R rvs own P) (hP:∀ k,k < w.heap.size -> own k ≠ none -> P k) (hn:n = R.length) (hj:j < R.length) (h1:Below wx.heap.size wx w1) (hg:w1.grownBy w2 (rvs.getD j (.bool false)).ownBlock)
  (ho:w2.ownsRow base 3 1 (.slice (some ⟨aj,0,none⟩) m cj) m (nats (relD R j).2.2 ++ [.int .i64 (i:Int)])) (hm:m = (relD R j).2.2.length + 1) (hf:(rvs.getD j (.bool false)).ownBlock = some aj ∨ aj = w1.heap.size) :
  (AddA w (w2.setCell ⟨g,j * 3 + 2,none⟩ (.slice (some ⟨aj,0,none⟩) m cj)) pb base hv mv av lv wv (.slice (some ⟨g,0,none⟩) n cap) (putR R j i) (rvs.set j (.slice (some ⟨aj,0,none⟩) m cj)) (putN own (some aj) j) P /\ ∀ k,k < w.heap.size -> putN own (some aj) j k ≠ none -> own k ≠ none) /\ w2.cell? ⟨pb,2,none⟩ = some (.slice (some ⟨g,0,none⟩) n cap) /\ w2.cell? ⟨g,j * 3 + 2,none⟩ = some (rvs.getD j (.bool false)) /\ w2.frozen? ⟨g,j * 3 + 2,none⟩ = false:=by
 obtain ⟨p1,p2,p3⟩:=h.pr.atom hn hj h1 hg ho hm (fun k hk => by
  cases hk
  rcases hf with q | q
  ·exact Or.inl q
  ·right;have:=h1.size;show wx.heap.size <= aj;omega)
 have hK:Kp (fun k => own k = some j) wx w2:=(Kp.of_below h1).trans (Kp.grown hg (fun k hk => h.pr.ow j hj k hk)) (fun _ _ q => q)
 have nb:¬ own pb = some j:=fun e => by obtain ⟨_,c,hc⟩:=h.pr.tg pb j e;rw [h.blk] at hc;simp at hc
 have b2:=(hK.block pb (vlt_of_block h.blk) nb).trans h.blk
 have hgr:(Value.slice (some ⟨g,0,none⟩) n cap).ownBlock = some g:=rfl
 obtain ⟨cg,hcg⟩:=own_cells h.pr.row hgr
 have ng:¬ own g = some j:=fun e => by obtain ⟨_,c,hc⟩:=h.pr.tg g j e;rw [hcg] at hc;simp at hc
 have r2:=hK.own h.pr.row (fun k hk => by cases hk;exact ng)
 have hbg:pb ≠ g:=fun e => by have:=h.blk;rw [e,hcg] at this;simp at this
 refine ⟨⟨⟨?_,p1,h.kp.trans p2 (fun k hk q => ?_),h.fr⟩,fun k hk q => p3 k (Nat.lt_of_lt_of_le hk h.kp.size) q⟩,by simp [World.cell?,b2],?_,?_⟩
 ·rw [Below.heap_setCell _ _ _ _ hbg];exact b2
 ·rcases q with e | e
  ·rcases h.fr k (by rw [e];rfl) with q | q
   ·exact q
   ·omega
  ·exact hP k hk e
 ·subst hn
  rw [r2.cellAt (j * 3 + 2) (by omega),(relcells_at R rvs h.pr.len j hj).2.2]
  rw [List.getD_eq_getElem?_getD,List.getElem?_eq_getElem (by rw [h.pr.len];exact hj)];rfl
 ·subst hn;exact r2.frozenAt _
theorem addToRel_any (pb base:Nat) (hv mv rv av lv wv:Value) (rels:List RelD) (rvs:List Value) (own:Nat -> Option Nat) (rel:ByteArray) (ta:Option Addr) (n tc:Nat) (set:Int) (i:Nat) (w:World)
  (hb:w.heap[pb]? = some (.cells #[hv,mv,rv,av,lv,wv] 83 (0,0))) (h:PRl w base rv rels rvs own) (hB:base <= w.heap.size) (hl:rels.length <= 100) (hat:∀ r,r < rels.length -> (relD rels r).2.2.length <= 100) (hrel:rel.size <= 281474976710656) :
  Calls Tryz.prog 89 #[.pointer (some ⟨pb,0,none⟩),.agg #[.string rel,.slice ta n tc,.int .u8 set],.int .i64 i] w fun e w' => e = .returned (.tuple #[]) /\ ∃ rv' rvs' own',AddA w w' pb base hv mv av lv wv rv' (addR rels rel n i) rvs' own' (fun k => k = pb ∨ rv.ownBlock = some k ∨ own k ≠ none) /\ ∀ k,k < w.heap.size -> own' k ≠ none -> own k ≠ none:=by
 obtain ⟨ra,rcap,hrv⟩:=vown_form h.row
 have c2:w.cell? ⟨pb,0 + 2,none⟩ = some rv:=by simp [World.cell?,hb]
 have hba:Below w.heap.size w (w.alloc (.cells #[.string rel,.slice ta n tc,.int .u8 set] 180)):=(Below.refl _ _).alloc (Nat.le_refl _) _
 have lp:=vlt_of_block hb
 have c2a:=(hba.cell (p:=⟨pb,0 + 2,none⟩) lp).trans c2
 have RN:=relNum_any pb 0 base rels rvs h.len rv rel _ c2a (vown_below h.row hba) (by omega)
 have HB:Hid _:=hb
 have H:Hid _:=h
 have HBA:Hid _:=hba
 have HAT:Hid _:=hat
 obtain ⟨I,hI⟩:∃ I,rixOf rels rel = I:=⟨_,rfl⟩
 rw [hI] at RN
 have HI:Hid (rixOf rels rel = I):=hI
 subst hrv
 clear hb h hba hat hI c2
 obtain ⟨i0,hi,hz0,hz1,hz2⟩:=info_parts Tryz.info106
 have HI0:Hid _:=hi
 have HZ0:Hid _:=hz0
 have HZ1:Hid _:=hz1
 have HZ2:Hid _:=hz2
 clear hi hz0 hz1 hz2
 obtain ⟨i1,hi,hz0,hz1,hz2⟩:=info_parts Tryz.info3
 have HJ0:Hid _:=hi
 have HY0:Hid _:=hz0
 have HY1:Hid _:=hz1
 have HY2:Hid _:=hz2
 clear hi hz0 hz1 hz2
 go_enter Tryz.func89,Tryz.ntmps89
 go_wp2_with fail
 refine RN.mono ?_
 rintro e w1 ⟨rfl,hb1⟩
 have hB1:Below w.heap.size w w1:=HBA.out.trans (hb1.mono HBA.out.size)
 have ab:w1.heap[w.heap.size]? = some (.cells #[.string rel,.slice ta n tc,.int .u8 set] 180 (0,0)):=(hb1.block w.heap.size (by simp)).trans (vheap_alloc_new w _)
 have b1:=(hB1.block pb lp).trans HB.out
 have HRow1:Hid _:=vown_below H.out.row hB1
 clear hb1 c2a RN
 by_cases hneg:I < 0
 ·have HR:Hid (baseR rels rel n = rels ++ [(rel,n,[])] /\ atR rels rel = rels.length):=by
   have hn:¬ 0 <= rixOf rels rel:=by rw [HI.out];omega
   unfold Hid baseR atR;rw [if_neg hn,if_neg hn];exact ⟨rfl,rfl⟩
  have d2:w1.cell? ⟨pb,2,none⟩ = some (.slice ra rels.length rcap):=by simp [World.cell?,b1]
  have l1:=vlt_of_block b1
  have a0:w1.cell? ⟨w.heap.size,0,none⟩ = some (.string rel):=by simp [World.cell?,ab]
  have a1:w1.cell? ⟨w.heap.size,1,none⟩ = some (.slice ta n tc):=by simp [World.cell?,ab]
  have la:=vlt_of_block ab
  have HC:Hid (Calls Tryz.prog 126 #[.string rel] w1.drew fun e w' => ∃ v,e = .returned v /\ (v = .string rel /\ Below w1.heap.size w1 w' /\ w'.cell? ⟨pb,2,none⟩ = some (.slice ra rels.length rcap) /\ w'.cell? ⟨w.heap.size,1,none⟩ = some (.slice ta n tc) /\ pb < w'.heap.size /\ w.heap.size < w'.heap.size)):=by
   refine (clone_any rel w1.drew hrel).mono ?_
   rintro e w' ⟨rfl,hb⟩
   have hb':Below w1.heap.size w1 w':=⟨hb.os,hb.tape,hb.output,hb.size,hb.block⟩
   exact ⟨_,rfl,rfl,hb',(hb'.cell l1).trans d2,(hb'.cell la).trans a1,Nat.lt_of_lt_of_le l1 hb'.size,Nat.lt_of_lt_of_le la hb'.size⟩
  go_upto_region 4 with fail
  go_cut [] (fun wx => ∃ va vc,AddA w wx pb base hv mv av lv wv (.slice (some ⟨va,0,none⟩) (rels.length + 1) vc) (rels ++ [(rel,n,[])]) (rvs ++ [Value.slice none 0 0]) own (fun k => k = pb ∨ Value.ownBlock (.slice ra rels.length rcap) = some k ∨ own k ≠ none))
  case first =>
   go_region_law (first | (refine step_call rfl 126 #[.tmp 24] #[9] rfl enter126 #[.string rel] (by kernel_rfl) _ HC.out ?_;rintro v2 w2 ⟨rfl,hb2,f2,f1,lp2,la2⟩) | (refine step_append_lies _ rfl (.tmp 22) (.tmp 30) 78 rfl base 106 i0 (.agg #[.string ⟨#[]⟩,.int .i64 0,.slice none 0 0]) 3 48 Tryz.underlying78 HI0.out HZ0.out HZ1.out HZ2.out rfl (by decide) (.slice ra rels.length rcap) _ _ rfl ((vown_below HRow1.out hb2).alloc _) ⟨w2.heap.size,0,none⟩ 1 1 [.string rel,.int .i64 n,.slice none 0 0] rfl rfl (vthree_new _ _ _ _ _) (by intro u hu;simp at hu;rcases hu with rfl | rfl | rfl <;> rfl) (by decide) (by unfold maxLen;omega) (by omega) (by have:=hb2.size;simp;omega) _ rfl ?_;intro va3 vc3 w3 hown3 hgrow3 hfr3 _;have FIN:=add_new HB.out H.out hB1 hb2 hgrow3 hown3 rfl (by intro k hk;cases hk;exact hfr3);have e2:=FIN.2.1;have e3:=FIN.2.2))
   all_goals (go_wp2;go_meet)
   all_goals exact ⟨_,_,FIN.1⟩
  case rest =>
   obtain ⟨va,vc,hA⟩:=hcut
   obtain ⟨wx,hwx⟩:∃ wx:World,wx = wc:=⟨_,rfl⟩
   subst hwx
   have hJ:rels.length < (rels ++ [(rel,n,([]:List Nat))]).length:=by simp
   have hN:rels.length + 1 = (rels ++ [(rel,n,([]:List Nat))]).length:=by simp
   have hA100:(relD (rels ++ [(rel,n,[])]) rels.length).2.2.length <= 100:=by rw [relD_app,if_neg (by omega),if_pos rfl];simp
   have HADD:Hid (addR rels rel n i = putR (rels ++ [(rel,n,[])]) rels.length i):=by unfold Hid addR;rw [HR.out.1,HR.out.2]
   have hBx:base <= wx.heap.size:=Nat.le_trans hB hA.kp.size
   have HA:Hid _:=hA
   have HJ:Hid (rels.length < (rels ++ [(rel,n,([]:List Nat))]).length):=hJ
   obtain ⟨aj,cj,haj⟩:=vown_form (hA.pr.ats rels.length hJ)
   have d2:wx.cell? ⟨pb,2,none⟩ = some (.slice (some ⟨va,0,none⟩) (rels.length + 1) vc):=by simp [World.cell?,hA.blk]
   have hrow:=hA.pr.row
   have l2:=vlt_of_block hA.blk
   have cA:wx.cell? ⟨va,rels.length * 3 + 2,none⟩ = some ((rvs ++ [Value.slice none 0 0]).getD rels.length (.bool false)):=by
    rw [← hN] at hrow
    rw [hrow.cellAt (rels.length * 3 + 2) (by omega),(relcells_at (rels ++ [(rel,n,[])]) (rvs ++ [Value.slice none 0 0]) hA.pr.len rels.length hJ).2.2]
    rw [List.getD_eq_getElem?_getD,List.getElem?_eq_getElem (by rw [hA.pr.len];exact hJ)];rfl
   have lv2:=World.block_lt_of_cell? _ _ cA
   have hats:=hA.pr.ats rels.length hJ
   obtain ⟨T,hT⟩:∃ T,(relD (rels ++ [(rel,n,[])]) rels.length).2.2.length = T:=⟨_,rfl⟩
   have HTT:Hid ((relD (rels ++ [(rel,n,[])]) rels.length).2.2.length = T):=hT
   have hT100:T <= 100:=by rw [← hT];exact hA100
   rw [hT] at haj hats
   rw [haj] at cA hats
   have HAJ:Hid _:=haj
   have HAT2:Hid _:=hats
   have hJN:(rels.length:Int) < (rels.length:Int) + 1:=by omega
   have HN:Hid (rels.length + 1 = (rels ++ [(rel,n,([]:List Nat))]).length):=hN
   clear hA hrow haj hT hats hA100 hJ hN
   go_wp2_with fail
   go_region_law (refine step_append_lies _ rfl (.tmp 46) (.tmp 48) 28 rfl base 3 i1 (.int .i64 0) 1 8 Tryz.underlying28 HJ0.out HY0.out HY1.out HY2.out rfl (by decide) (.slice aj T cj) T (nats (relD (rels ++ [(rel,n,[])]) rels.length).2.2) rfl (by exact (World.ownsRow.alloc HAT2.out _)) ⟨wx.heap.size,0,none⟩ 1 1 [.int .i64 (i:Int)] rfl rfl (vone_new _ _ _) (by intro u hu;simp at hu;subst hu;rfl) (by decide) (by unfold maxLen;omega) (by omega) (by simp;omega) (wx.heap.size + 1) (by simp) ?_;intro vg vk w3 hown3 hgrow3 hfr3 _;have FIN:=add_fin (i:=i) (m:=T + 1) HA.out (fun k _ q => Or.inr (Or.inr q)) (by simp) (by simp) (w1:=(wx.alloc (.cells #[.int .i64 (i:Int)] 3)).drew) ⟨rfl,rfl,rfl,by simp,fun k hk => Below.heap_alloc _ _ _ hk⟩ (by rw [HAJ.out];exact hgrow3) hown3 (by rw [HTT.out]) (by rw [HAJ.out];simpa using hfr3);rw [HAJ.out] at FIN;have e1:=FIN.2.1;have e2:=FIN.2.2.1;have e3:=FIN.2.2.2)
   all_goals go_wp2
   all_goals refine bodyPost_end (results_none rfl _ _ _) rfl ?_
   all_goals exact ⟨rfl,_,_,_,by rw [HADD.out];exact FIN.1.1,FIN.1.2⟩
 ·obtain ⟨J,hJI⟩:∃ J:Nat,I = J:=⟨I.toNat,by omega⟩
  subst hJI
  have hy:0 <= rixOf rels rel:=by rw [HI.out];omega
  obtain ⟨y1,y2⟩:=rix_yes hy
  have hJ:J < rels.length:=by rw [HI.out] at y1;simpa using y1
  have HADD:Hid (addR rels rel n i = putR rels J i):=by unfold Hid addR baseR atR;rw [if_pos hy,if_pos hy,HI.out];rfl
  obtain ⟨va,vc,hra⟩:=vown_some HRow1.out (by omega)
  simp only [Value.slice.injEq,true_and] at hra
  obtain ⟨rfl,rfl⟩:=hra
  have hA:AddA w w1 pb base hv mv av lv wv (.slice (some ⟨va,0,none⟩) rels.length rcap) rels rvs own (fun k => k = pb ∨ Value.ownBlock (.slice (some ⟨va,0,none⟩) rels.length rcap) = some k ∨ own k ≠ none) :=
   ⟨b1,H.out.kp (Kp.of_below (P:=fun _ => False) hB1) (fun _ _ q => q) (fun _ _ _ q => q),Kp.of_below hB1,fun k hk => Or.inl (Or.inr (Or.inl hk))⟩
  have hN:rels.length = rels.length:=rfl
  have hA100:(relD rels J).2.2.length <= 100:=HAT.out J hJ
  have hBx:base <= w1.heap.size:=Nat.le_trans hB hA.kp.size
  have hneg':(decide ((J:Int) < 0)) = false:=by simp
  clear hy y1 y2
  have HA:Hid _:=hA
  have HJ:Hid (J < rels.length):=hJ
  obtain ⟨aj,cj,haj⟩:=vown_form (hA.pr.ats J hJ)
  have d2:w1.cell? ⟨pb,2,none⟩ = some (.slice (some ⟨va,0,none⟩) rels.length rcap):=by simp [World.cell?,hA.blk]
  have hrow:=hA.pr.row
  have l2:=vlt_of_block hA.blk
  have cA:w1.cell? ⟨va,J * 3 + 2,none⟩ = some (rvs.getD J (.bool false)):=by
   rw [← hN] at hrow
   rw [hrow.cellAt (J * 3 + 2) (by omega),(relcells_at rels rvs hA.pr.len J hJ).2.2]
   rw [List.getD_eq_getElem?_getD,List.getElem?_eq_getElem (by rw [hA.pr.len];exact hJ)];rfl
  have lv2:=World.block_lt_of_cell? _ _ cA
  have hats:=hA.pr.ats J hJ
  obtain ⟨T,hT⟩:∃ T,(relD rels J).2.2.length = T:=⟨_,rfl⟩
  have HTT:Hid ((relD rels J).2.2.length = T):=hT
  have hT100:T <= 100:=by rw [← hT];exact hA100
  rw [hT] at haj hats
  rw [haj] at cA hats
  have HAJ:Hid _:=haj
  have HAT2:Hid _:=hats
  have hJN:(J:Int) < (rels.length:Int):=by omega
  have HN:Hid (rels.length = rels.length):=hN
  clear hA hrow haj hT hats hA100 hJ hN
  go_wp2_with fail
  go_region_law (refine step_append_lies _ rfl (.tmp 46) (.tmp 48) 28 rfl base 3 i1 (.int .i64 0) 1 8 Tryz.underlying28 HJ0.out HY0.out HY1.out HY2.out rfl (by decide) (.slice aj T cj) T (nats (relD rels J).2.2) rfl (by exact (World.ownsRow.alloc HAT2.out _)) ⟨w1.heap.size,0,none⟩ 1 1 [.int .i64 (i:Int)] rfl rfl (vone_new _ _ _) (by intro u hu;simp at hu;subst hu;rfl) (by decide) (by unfold maxLen;omega) (by omega) (by simp;omega) (w1.heap.size + 1) (by simp) ?_;intro vg vk w3 hown3 hgrow3 hfr3 _;have FIN:=add_fin (i:=i) (m:=T + 1) HA.out (fun k _ q => Or.inr (Or.inr q)) rfl HJ.out (w1:=(w1.alloc (.cells #[.int .i64 (i:Int)] 3)).drew) ⟨rfl,rfl,rfl,by simp,fun k hk => Below.heap_alloc _ _ _ hk⟩ (by rw [HAJ.out];exact hgrow3) hown3 (by rw [HTT.out]) (by rw [HAJ.out];simpa using hfr3);rw [HAJ.out] at FIN;have e1:=FIN.2.1;have e2:=FIN.2.2.1;have e3:=FIN.2.2.2)
  all_goals go_wp2
  all_goals refine bodyPost_end (results_none rfl _ _ _) rfl ?_
  all_goals exact ⟨rfl,_,_,_,by rw [HADD.out];exact FIN.1.1,FIN.1.2⟩
end Go.Proofs.YtondkinefmjpjaaGreat
