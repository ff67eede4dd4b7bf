import Derived.Deep.QuietTactic
import Derived.BigQuiet
import Derived.Deep.Onto
import Derived.Deep.CutBlock
import Derived.Test.YtondkinefmjpjaaGreatI08
import Derived.Test.YtondkinefmjpjaaGreatI17
import Derived.Test.YtondkinefmjpjaaGreatI22
import Derived.Test.YtondkinefmjpjaaGreatI34
import Derived.Test.YtondkinefmjpjaaGreatI39
import Derived.Test.YtondkinefmjpjaaGreatI44
set_option maxHeartbeats 8000000
set_option maxRecDepth 100000
namespace Go.Proofs.YtondkinefmjpjaaGreat
open Go.RowKit Go.WideMaps Go.WideElems Go.Maps Go.Shelf
theorem Sg_nought {α:Type} (l:List α) {f:α -> Int} (h:∀ x,x ∈ l -> f x = 0):Sg l f = 0:=by
 induction l with
 | nil => rfl
 | cons x l ih =>
  show f x + Sg l f = 0
  rw [h x (by simp),ih (fun y hy => h y (by simp [hy]))];rfl
def noR:Nat -> List Int -> Int:=fun _ _ => 0
theorem cont_nought (P:PlanD) (i:Nat) (a:List Int):cont P noR i a = 0:=by
 unfold cont
 split
 ·refine Sg_nought (boxN 3) (fun t _ => ?_)
  split <;> rfl
 ·rfl
theorem prodA_nought {As:List (Nat × (List Int -> Int))} (h:∃ p,p ∈ As /\ ∀ a,p.2 a = 0) (y:List Int):prodA As y = 0:=by
 induction As with
 | nil => obtain ⟨p,hp,_⟩:=h;cases hp
 | cons q As ih =>
  obtain ⟨p,hp,h0⟩:=h
  show q.2 (rst q.1 y) * prodA As y = 0
  rcases List.mem_cons.1 hp with rfl | hp
  ·rw [h0];simp
  ·rw [ih ⟨p,hp,h0⟩];simp
theorem wor_nought (P:PlanD) (h1:1 <= P.ms.length) (h:List Int):P.wor (cont P noR) h = 0:=by
 unfold PlanD.wor wor ext
 refine Sg_nought box (fun y _ => ?_)
 have:prodA (atomsOf P.ms (cont P noR)) y = 0:=prodA_nought ⟨(P.ms.getD 0 0,cont P noR 0),List.mem_map.2 ⟨0,List.mem_range.2 h1,rfl⟩,fun a => cont_nought P 0 a⟩ y
 have e:prodA (atomsOf P.ms (cont P noR)) y * hd P.H h y = 0:=by rw [this];simp
 split
 ·exact e
 ·rfl
theorem live_nought (N:Nat):live N (fun _ => 0) = []:=by
 unfold live
 rw [List.filter_eq_nil_iff]
 intro a _;simp [wr_zero]
theorem rows_nought (P:PlanD):RowsOk P noR :=
 ⟨fun r _ t h => absurd rfl h,fun r _ t => ⟨show (-99:Int) <= 0 by decide,show (0:Int) <= 99 by decide⟩,fun r _ => by show (live 3 (fun _ => 0)).length <= 12;rw [live_nought];simp⟩
theorem owns_none {w:World} {b:Nat} (h:w.heap[b]? = some (.map #[] 0)) (k:TypeId) (R:Value -> Option (DataW Unit × List MemPlace)):w.ownsMap Tryz.prog k R b 0 (.map []):=by
 obtain ⟨es,c,h1,h2⟩:=World.ownsMap_made (H:=Unit) w Tryz.prog k R
 rw [vheap_alloc_new] at h1
 simp at h1
 obtain ⟨rfl,rfl⟩:=h1
 exact ⟨#[],0,h,h2⟩
theorem cf_none {w:World} {b:Nat} (h:w.heap[b]? = some (.map #[] 0)) (k N:Nat):CF k N w b (fun _ => 0):=⟨0,.map [],owns_none h k _,rep_empty N⟩
theorem if_none {w:World} {b:Nat} (h:w.heap[b]? = some (.map #[] 0)):IF w b (fun _ => none):=⟨0,.map [],owns_none h _ _,repI_empty⟩
def own0 (wb:Nat) (rb ib:List Nat) (x:Nat):Option (Nat × List Int) :=
 if x = wb then some (0,[]) else if x ∈ rb then some (1,[(rb.idxOf x:Int)]) else if x ∈ ib then some (2,[(ib.idxOf x:Int)]) else none
theorem own0_wb (wb:Nat) (rb ib:List Nat):own0 wb rb ib wb = some (0,[]):=by simp [own0]
theorem getD_in {l:List Nat} {r:Nat} (h:r < l.length):l.getD r 0 = l[r]:=by rw [List.getD_eq_getElem?_getD,List.getElem?_eq_getElem h];rfl
theorem own0_rb {wb:Nat} {rb ib:List Nat} (hn:(wb :: (rb ++ ib)).Nodup) {r:Nat} (hr:r < rb.length):own0 wb rb ib (rb.getD r 0) = some (1,[(r:Int)]):=by
 rw [getD_in hr]
 have hm:rb[r] ∈ rb:=List.getElem_mem hr
 have h1:rb[r] ≠ wb:=fun e => (List.nodup_cons.1 hn).1 (by rw [← e];exact List.mem_append_left _ hm)
 have h2:rb.Nodup:=(List.nodup_append.1 (List.nodup_cons.1 hn).2).1
 unfold own0
 rw [if_neg h1,if_pos hm,h2.idxOf_getElem]
theorem own0_ib {wb:Nat} {rb ib:List Nat} (hn:(wb :: (rb ++ ib)).Nodup) {r:Nat} (hr:r < ib.length):own0 wb rb ib (ib.getD r 0) = some (2,[(r:Int)]):=by
 rw [getD_in hr]
 have hm:ib[r] ∈ ib:=List.getElem_mem hr
 have h1:ib[r] ≠ wb:=fun e => (List.nodup_cons.1 hn).1 (by rw [← e];exact List.mem_append_right _ hm)
 obtain ⟨_,h2,h3⟩:=List.nodup_append.1 (List.nodup_cons.1 hn).2
 have h4:ib[r] ∉ rb:=fun e => h3 _ e _ hm rfl
 unfold own0
 rw [if_neg h1,if_neg h4,if_pos hm,h2.idxOf_getElem]
theorem view_new {w:World} {vb B:Nat} {P:PlanD} {hv mv rv av lv wv rv2 iv2:Value} {wb:Nat} {rb ib:List Nat} {s0 s1:Value} (hok:PlanOk P) (hrel:RelOk P) (hp:PlanV w B hv mv rv av lv wv P) (hs:StV w B rv2 iv2 wb rb ib) (hr:rb.length = P.rels.length) (hi:ib.length = P.lk.length) (h0:s0 = .int .i32 0) (hb:w.heap[vb]? = some (.cells #[s0,s1,hv,mv,rv,av,lv,wv,rv2,iv2,.map (some wb)] 90 (0,0))) :
  VSt w vb P rb ib wb noR (fun _ _ => none) (own0 wb rb ib):=by
 have cell:∀ (j:Nat) (v:Value),(#[s0,s1,hv,mv,rv,av,lv,wv,rv2,iv2,.map (some wb)]:Array Value)[j]? = some v -> w.cell? ⟨vb,j,none⟩ = some v:=fun j v hj => by simp only [World.cell?,hb];exact hj
 have hm:∀ b,b ∈ wb :: (rb ++ ib) -> w.heap[b]? = some (.map #[] 0):=fun b hb => (hs.m.el b hb).2
 have hin:∀ {l:List Nat} {r:Nat},r < l.length -> l.getD r 0 ∈ l:=fun hr => by rw [getD_in hr];exact List.getElem_mem hr
 refine ⟨hok,hrel,rows_nought P,⟨_,hb⟩,(cell 0 s0 rfl).trans (congrArg some h0),⟨⟨hv,B,cell 2 _ rfl,hp.head⟩,(cell 3 mv rfl).trans (congrArg some hp.H),?_,?_,⟨lv,B,cell 6 _ rfl,hp.lks⟩,?_⟩,⟨rv2,B,cell 8 _ rfl,hs.r⟩,⟨iv2,B,cell 9 _ rfl,hs.i⟩,cell 10 _ rfl,hr,hi,fun r hr' => ?_,fun l hl => ?_,⟨fun l hl => own0_ib hs.m.nd (by omega),fun l hl k hk c hc => (by cases hc),fun i r hir => ?_⟩,own0_wb _ _ _,?_,fun i r hir => ?_⟩
 ·obtain ⟨rvs,a1,a2,a3⟩:=hp.rels
  exact ⟨rv,B,rvs,cell 4 _ rfl,a1,a2,fun k hk => ⟨B,a3 k hk⟩⟩
 ·obtain ⟨pvs,a1,a2,a3⟩:=hp.pats
  exact ⟨av,B,pvs,cell 5 _ rfl,a1,a2,a3⟩
 ·obtain ⟨wvs,a1,a2,a3⟩:=hp.walks
  exact ⟨wv,B,wvs,cell 7 _ rfl,a1,a2,fun k hk => ⟨B,a3 k hk⟩⟩
 ·exact ⟨cf_none (hm _ (List.mem_cons_of_mem _ (List.mem_append_left _ (hin (by omega))))) _ _,own0_rb hs.m.nd (by omega)⟩
 ·exact ⟨if_none (hm _ (List.mem_cons_of_mem _ (List.mem_append_right _ (hin (by omega))))),fun k hk c hc => (by cases hc),fun k hk _ a _ _ => by show wr (cont P noR _ a) = 0;rw [cont_nought];exact wr_zero⟩
 ·unfold own0 at hir
  split at hir
  ·rename_i e;exact ⟨_,_,hm i (by rw [e];simp)⟩
  ·split at hir
   ·rename_i e;exact ⟨_,_,hm i (by simp [e])⟩
   ·split at hir
    ·rename_i e;exact ⟨_,_,hm i (by simp [e])⟩
    ·cases hir
 ·exact (cf_none (hm wb (by simp)) 93 6).congr (fun a _ => by rw [wor_nought P hok.n1])
 ·unfold own0 at hir
  split at hir
  ·cases hir;simp
  ·split at hir
   ·cases hir;simp
   ·split at hir
    ·cases hir;simp
    ·cases hir
theorem enter56:∀ vs u,(callFunc 56 vs).run Tryz.prog u = .ok (.enter 56 vs) u:=enters_of Tryz.func56 (by kernel_rfl) rfl
def C6 (w:World) (x:Nat) (v0 v1 v2 v3 v4 v5:Value):Prop:=w.cell? ⟨x,0,none⟩ = some v0 /\ w.cell? ⟨x,1,none⟩ = some v1 /\ w.cell? ⟨x,2,none⟩ = some v2 /\ w.cell? ⟨x,3,none⟩ = some v3 /\ w.cell? ⟨x,4,none⟩ = some v4 /\ w.cell? ⟨x,5,none⟩ = some v5
theorem c6_of {w:World} {x:Nat} {v0 v1 v2 v3 v4 v5:Value} (h:w.heap[x]? = some (.cells #[v0,v1,v2,v3,v4,v5] 83 (0,0))):C6 w x v0 v1 v2 v3 v4 v5:=by simp [C6,World.cell?,h]
def SsS (w:World) (pb nr nl:Nat) (v0 v1 v2 v3 v4 v5:Value) (v:Value) (w1:World):Prop :=
 ∃ ra rc ia ic wb rb ib,v = .agg #[.slice ra nr rc,.slice ia nl ic,.map (some wb)] /\ rb.length = nr /\ ib.length = nl /\ StV w1 w.heap.size (.slice ra nr rc) (.slice ia nl ic) wb rb ib /\ Below w.heap.size w w1 /\ C6 w1 pb v0 v1 v2 v3 v4 v5
theorem Start_no (s:ByteArray) (w:World) (hs:s.size <= maxLen) (hE:K.pE s ≠ 0) :
  Calls Tryz.prog 26 #[.string s] w fun e w' => e = .returned (.tuple #[.pointer none,.int .i64 (K.pE s),.int .i64 (K.pA s)]) /\ Below w.heap.size w w':=by
 obtain ⟨E,hEE⟩:∃ E,K.pE s = E:=⟨_,rfl⟩
 obtain ⟨A,hAA⟩:∃ A,K.pA s = A:=⟨_,rfl⟩
 have PA:=K.parse_any s w hs
 rw [hEE,hAA] at PA
 rw [hEE] at hE
 rw [hEE,hAA]
 have hne:((E:Int) != 0) = true:=by rw [bne_iff_ne];omega
 clear hEE hAA
 go_enter Tryz.func26,Tryz.ntmps26
 go_wp2_with fail
 refine PA.mono ?_
 rintro x w1 ⟨⟨a0,n0,k0,a1,n1,k1,a2,n2,k2,a3,n3,k3,rfl,_⟩,hb1⟩
 go_wp2_with fail
 go_region
 all_goals go_wp2
 all_goals
  refine bodyPost_ret (v:=.tuple #[.pointer none,.int .i64 E,.int .i64 A]) (by simp [results,Tryz.results26,go_sem]) rfl ⟨rfl,?_⟩
  refine Below.drew ?_
  exact (hb1.alloc hb1.size _).alloc (by simp;exact Nat.le_succ_of_le hb1.size) _
theorem PlanV.below {w w':World} {B:Nat} {hv mv rv av lv wv:Value} {P:PlanD} (h:PlanV w B hv mv rv av lv wv P) (hb:Below w.heap.size w w'):PlanV w' B hv mv rv av lv wv P:=by
 obtain ⟨rvs,a1,a2,a3⟩:=h.rels
 obtain ⟨pvs,b1,b2,b3⟩:=h.pats
 obtain ⟨wvs,c1,c2,c3⟩:=h.walks
 exact ⟨vown_below h.head hb,h.H,⟨rvs,vown_below a1 hb,a2,fun k hk => vown_below (a3 k hk) hb⟩,⟨pvs,vown_below b1 hb,b2,fun k hk => by obtain ⟨b',q⟩:=b3 k hk;exact ⟨b',vown_below q hb⟩⟩,vown_below h.lks hb,⟨wvs,vown_below c1 hb,c2,fun k hk => vown_below (c3 k hk) hb⟩⟩
theorem PlanV.mono {w:World} {B B':Nat} {hv mv rv av lv wv:Value} {P:PlanD} (h:PlanV w B hv mv rv av lv wv P) (hb:B' <= B):PlanV w B' hv mv rv av lv wv P:=by
 obtain ⟨rvs,a1,a2,a3⟩:=h.rels
 obtain ⟨pvs,b1,b2,b3⟩:=h.pats
 obtain ⟨wvs,c1,c2,c3⟩:=h.walks
 exact ⟨h.head.mono hb,h.H,⟨rvs,a1.mono hb,a2,fun k hk => (a3 k hk).mono hb⟩,⟨pvs,b1.mono hb,b2,b3⟩,h.lks.mono hb,⟨wvs,c1.mono hb,c2,fun k hk => (c3 k hk).mono hb⟩⟩
theorem StV.below {w w':World} {B:Nat} {rv iv:Value} {wb:Nat} {rb ib:List Nat} (h:StV w B rv iv wb rb ib) (hb:Below w.heap.size w w'):StV w' B rv iv wb rb ib :=
 ⟨vown_below h.r hb,vown_below h.i hb,h.m.block (fun b hb' => hb.block b (h.m.lt hb'))⟩
theorem StV.mono {w:World} {B B':Nat} {rv iv:Value} {wb:Nat} {rb ib:List Nat} (h:StV w B rv iv wb rb ib) (hb:B' <= B):StV w B' rv iv wb rb ib :=
 ⟨h.r.mono hb,h.i.mono hb,h.m.nd,fun b hb' => ⟨Nat.le_trans hb (h.m.el b hb').1,(h.m.el b hb').2⟩⟩
theorem own0_ge {w:World} {B:Nat} {rv iv:Value} {wb:Nat} {rb ib:List Nat} (h:StV w B rv iv wb rb ib):∀ b,own0 wb rb ib b ≠ none -> B <= b:=by
 intro b hb
 unfold own0 at hb
 split at hb
 ·rename_i e;rw [e];exact (h.m.el wb (by simp)).1
 ·split at hb
  ·rename_i e;exact (h.m.el b (by simp [e])).1
  ·split at hb
   ·rename_i e;exact (h.m.el b (by simp [e])).1
   ·exact absurd rfl hb
theorem Start_ok (s:ByteArray) (w:World) (hs:s.size <= maxLen) (hG:K.pG s = true) :
  Calls Tryz.prog 26 #[.string s] w fun e w' => ∃ vb rb ib wb,e = .returned (.tuple #[.pointer (some ⟨vb,0,none⟩),.int .i64 0,.int .i64 0]) /\ VSt w' vb (K.planOf (K.rq s (K.c0 s)).2) rb ib wb noR (fun _ _ => none) (own0 wb rb ib) /\ Below w.heap.size w w' /\ w.heap.size <= vb /\ ∀ b,own0 wb rb ib b ≠ none -> w.heap.size <= b:=by
 have PA:=K.parse_any s w hs
 rw [(K.pG_E hG).1,(K.pG_E hG).2] at PA
 obtain ⟨hok,hrel⟩:=K.plan_ok hG
 obtain ⟨_,g2,_⟩:=K.pG_parts hG
 have h200:s.size <= 200:=by
  unfold K.pG at hG
  rw [Bool.and_eq_true,Bool.and_eq_true] at hG
  have:=hG.1.1
  simp at this;omega
 have hI:=K.rq_in s
 have hRB:=K.rq_rel s
 obtain ⟨c,hc⟩:∃ c,(K.rq s (K.c0 s)).2 = c:=⟨_,rfl⟩
 rw [hc] at PA hok hrel g2 hI hRB ⊢
 have MP:=fun (base:Nat) (hv vv av ev:Value) (u:World) (hQ:K.CQ u base hv vv av ev c) => makePlan_any c hI hok g2 (fun x hx => by have:=hRB x hx;omega) base hv vv av ev u hQ
 have HMP:Hid _:=MP
 have HOK:Hid _:=hok
 have HREL:Hid _:=hrel
 have HGG:Hid _:=hG
 clear hc MP hok hrel g2 hI hRB hG
 go_enter Tryz.func26,Tryz.ntmps26
 go_wp2_with fail
 refine PA.mono ?_
 rintro x w1 ⟨⟨a0,n0,k0,a1,n1,k1,a2,n2,k2,a3,n3,k3,rfl,hq⟩,hb1⟩
 have hQ:=hq HGG.out
 have hba:Below w1.heap.size w1 ((w1.alloc (.cells #[.slice a0 n0 k0,.slice a1 n1 k1,.slice a2 n2 k2,.slice a3 n3 k3] 121)).alloc (.cells #[.int .i64 0,.int .i64 0] 123)):=((Below.refl _ _).alloc (Nat.le_refl _) _).alloc (by simp) _
 have CALL:=HMP.out _ _ _ _ _ _ (hQ.below hba)
 have HBA:Hid _:=hba
 clear hq hQ hba HMP PA
 go_wp2_with fail
 refine CALL.mono ?_
 rintro x w2 ⟨hv,mv,rv,av,lv,wv,rfl,hPV,hb2⟩
 have hB0:=Nat.le_trans hb1.size HBA.out.size
 have hb12:Below w1.heap.size w1 w2:=HBA.out.trans (hb2.mono HBA.out.size)
 have hbw2:Below w.heap.size w w2:=hb1.trans (hb12.mono hb1.size)
 obtain ⟨x0,y0,e0⟩:=vown_form hPV.head
 obtain ⟨rvs,q1,_,_⟩:=hPV.rels
 obtain ⟨x2,y2,e2⟩:=vown_form q1
 obtain ⟨pvs,q2,_,_⟩:=hPV.pats
 obtain ⟨x3,y3,e3⟩:=vown_form q2
 obtain ⟨x4,y4,e4⟩:=vown_form hPV.lks
 obtain ⟨wvs,q3,_,_⟩:=hPV.walks
 obtain ⟨x5,y5,e5⟩:=vown_form q3
 have e1:=hPV.H
 subst e0
 subst e1
 subst e2
 subst e3
 subst e4
 subst e5
 obtain ⟨NH,hNH⟩:∃ x,(K.planOf c).head.length = x:=⟨_,rfl⟩
 obtain ⟨NR,hNR⟩:∃ x,(K.planOf c).rels.length = x:=⟨_,rfl⟩
 obtain ⟨NP,hNP⟩:∃ x,(K.planOf c).pats.length = x:=⟨_,rfl⟩
 obtain ⟨NL,hNL⟩:∃ x,(K.planOf c).lk.length = x:=⟨_,rfl⟩
 obtain ⟨NM,hNM⟩:∃ x,(K.planOf c).ms.length = x:=⟨_,rfl⟩
 obtain ⟨NZ,hNZ⟩:∃ x:Int,((K.planOf c).H:Int) = x:=⟨_,rfl⟩
 have hr4:NR <= 4:=by rw [← hNR];exact HOK.out.nrel
 have hl6:NL <= 6:=by rw [← hNL];exact HOK.out.links.2.1
 have HPV:Hid _:=hPV
 rw [hNH,hNR,hNP,hNL,hNM,hNZ] at HPV
 rw [hNH,hNR,hNP,hNL,hNM,hNZ]
 have HNR:Hid _:=hNR
 have HNL:Hid _:=hNL
 obtain ⟨w3,hw3⟩:∃ w3,w2.alloc (.cells #[.slice x0 NH y0,.int .u8 NZ,.slice x2 NR y2,.slice x3 NP y3,.slice x4 NL y4,.slice x5 NM y5] 83) = w3:=⟨_,rfl⟩
 have hb23:Below w2.heap.size w2 w3:=by rw [← hw3];exact (Below.refl _ _).alloc (Nat.le_refl _) _
 have pblk:w3.heap[w2.heap.size]? = some (.cells #[.slice x0 NH y0,.int .u8 NZ,.slice x2 NR y2,.slice x3 NP y3,.slice x4 NL y4,.slice x5 NM y5] 83 (0,0)):=by rw [← hw3];exact vheap_alloc_new w2 _
 have hbw3:Below w.heap.size w w3:=hbw2.trans (hb23.mono hbw2.size)
 have HPV3:Hid _:=HPV.out.below hb23
 have SS:Hid (Calls Tryz.prog 56 #[.int .i64 NR,.int .i64 NL] w3.drew fun e w' => ∃ v,e = .returned v /\ SsS w3 w2.heap.size NR NL (.slice x0 NH y0) (.int .u8 NZ) (.slice x2 NR y2) (.slice x3 NP y3) (.slice x4 NL y4) (.slice x5 NM y5) v w'):=by
  refine (makeStore_any NR NL w3.drew (by omega) (by omega)).mono ?_
  rintro e w' ⟨ra,rc,ia,ic,wb,rb,ib,rfl,r1,r2,r3,r4⟩
  have r5:Below w3.heap.size w3 w':=⟨r4.os,r4.tape,r4.output,r4.size,r4.block⟩
  exact ⟨_,rfl,ra,rc,ia,ic,wb,rb,ib,rfl,r1,r2,r3,r5,c6_of ((r5.block _ (vlt_of_block pblk)).trans pblk)⟩
 have HW3:Hid _:=hw3
 have HBW3:Hid _:=hbw3
 have HB0:Hid _:=hB0
 clear hw3 hPV hNH hNR hNP hNL hNM hNZ q1 q2 q3 hb1 hb2 hb12 hbw2 HPV CALL HBA hbw3 hb23
 go_upto_region 5 with fail
 rw [HW3.out]
 obtain ⟨m0,m1,m2,m3,m4,m5⟩:=c6_of pblk
 have lp3:=vlt_of_block pblk
 go_region_law (refine step_call rfl 56 #[.tmp 25,.tmp 28] #[3,3] rfl enter56 #[.int .i64 NR,.int .i64 NL] (by kernel_rfl) _ SS.out ?_;rintro v4 w4 ⟨ra,rc,ia,ic,wb,rb,ib,rfl,r1,r2,r3,r4,t0,t1,t2,t3,t4,t5⟩)
 all_goals go_wp2
 all_goals
  refine bodyPost_ret (v:=.tuple #[.pointer (some ⟨w4.heap.size,0,none⟩),.int .i64 0,.int .i64 0]) (by simp [results,Tryz.results26,go_sem]) rfl ⟨w4.heap.size,rb,ib,wb,rfl,?_⟩
  have HB4:Below w.heap.size w (w4.alloc (.cells #[.int .i32 0,.int .u32 0,.slice x0 NH y0,.int .u8 NZ,.slice x2 NR y2,.slice x3 NP y3,.slice x4 NL y4,.slice x5 NM y5,.slice ra NR rc,.slice ia NL ic,.map (some wb)] 90)):=(HBW3.out.trans (r4.mono HBW3.out.size)).alloc (Nat.le_trans HBW3.out.size r4.size) _
  have hal:Below w4.heap.size w4 (w4.alloc (.cells #[.int .i32 0,.int .u32 0,.slice x0 NH y0,.int .u8 NZ,.slice x2 NR y2,.slice x3 NP y3,.slice x4 NL y4,.slice x5 NM y5,.slice ra NR rc,.slice ia NL ic,.map (some wb)] 90)):=(Below.refl _ _).alloc (Nat.le_refl _) _
  exact ⟨view_new (B:=w.heap.size) HOK.out HREL.out (((PlanV.below HPV3.out r4).below hal).mono HB0.out) ((r3.below hal).mono HBW3.out.size) (r1.trans HNR.out.symm) (r2.trans HNL.out.symm) rfl (vheap_alloc_new _ _),HB4,Nat.le_trans HBW3.out.size r4.size,fun b hb => Nat.le_trans HBW3.out.size (own0_ge r3 b hb)⟩
end Go.Proofs.YtondkinefmjpjaaGreat
namespace Go.Proofs.YtondkinefmjpjaaGreat
open Go.RowKit
abbrev RfD:=ByteArray × Nat × Value
def rfcells (l:List RfD):List Value:=l.flatMap fun d => [.string d.1,.int .i64 d.2.1,d.2.2]
theorem rfcells_at (l:List RfD) (k:Nat) (hk:k < l.length):(rfcells l)[k * 3]? = some (.string l[k].1) /\ (rfcells l)[k * 3 + 1]? = some (.int .i64 l[k].2.1) /\ (rfcells l)[k * 3 + 2]? = some l[k].2.2:=by
 induction l generalizing k with
 | nil => simp at hk
 | cons d l ih =>
  cases k with
  | zero => simp [rfcells]
  | succ k =>
   have:=ih k (by simpa using hk)
   have e:rfcells (d :: l) = [.string d.1,.int .i64 d.2.1,d.2.2] ++ rfcells l:=by simp [rfcells]
   rw [e]
   have e0:(k + 1) * 3 = k * 3 + 3:=by omega
   rw [e0,List.getElem?_append_right (by simp),List.getElem?_append_right (by simp),List.getElem?_append_right (by simp)]
   simpa using this
theorem rfcells_snoc (l:List RfD) (d:RfD):rfcells (l ++ [d]) = rfcells l ++ [.string d.1,.int .i64 d.2.1,d.2.2]:=by simp [rfcells]
def fixOf (l:List RfD) (t:ByteArray):Int:=if l.findIdx (fun p => p.1.toList == t.toList) < l.length then (l.findIdx (fun p => p.1.toList == t.toList):Int) else -1
theorem find_any (vb base:Nat) (l:List RfD) (rv:Value) (t:ByteArray) (w:World) (hc:w.cell? ⟨vb,1,none⟩ = some rv) (ho:w.ownsRow base 140 3 rv l.length (rfcells l)) (hl:l.length <= 1000) :
  Calls Tryz.prog 63 #[.pointer (some ⟨vb,0,none⟩),.string t] w fun x w' => x = .returned (.int .i64 (fixOf l t)) /\ w' = w:=by
 obtain ⟨ha,cap,rfl⟩:=vown_form ho
 go_enter Tryz.func63,Tryz.ntmps63
 go_wp2_with fail
 go_loop [5] (fun i => ∃ k:Nat,k <= l.length /\ i = .int .i64 k /\ ∀ j (hj:j < l.length),j < k -> (l[j].1.toList == t.toList) = false) (fun i => l.length - (intOf i).toNat)
 case atStart => exact ⟨0,Nat.zero_le _,rfl,fun _ _ h => absurd h (Nat.not_lt_zero _)⟩
 case round =>
  obtain ⟨k,hk,rfl,hd'⟩:=hrel
  have HD:Hid (∀ j (hj:j < l.length),j < k -> (l[j].1.toList == t.toList) = false):=hd'
  clear hd'
  by_cases hlt:k < l.length
  ·obtain ⟨g,cap',he⟩:=vown_some ho (by omega)
   simp only [Value.slice.injEq,true_and] at he
   obtain ⟨rfl,rfl⟩:=he
   obtain ⟨x0,x1,x2⟩:=rfcells_at l k hlt
   have y0:=(ho.cellAt (k * 3) (by omega)).trans x0
   clear x0 x1 x2
   cases hx:(l[k].1.toList == t.toList)
   ·go_wp2_with fail
    go_round
    case rel => exact ⟨k + 1,by omega,by go_num,fun j hj hjk => by
     by_cases e:j = k
     ·subst e;exact hx
     ·exact HD.out j hj (by omega)⟩
    case measure => simp [intOf];omega
   ·have HX:Hid (fixOf l t = (k:Int)):=by
     have e:l.findIdx (fun p => p.1.toList == t.toList) = k:=(List.findIdx_eq hlt).2 ⟨hx,fun j hj => HD.out j (by omega) hj⟩
     unfold Hid fixOf;rw [e,if_pos hlt]
    go_wp2_with fail
    go_ret
    exact ⟨vret_int HX.out.symm,rfl⟩
  ·have HX:Hid (fixOf l t = -1):=by
    have e:l.findIdx (fun p => p.1.toList == t.toList) = l.length:=by
     refine List.findIdx_eq_length.2 (fun x hx => ?_)
     obtain ⟨j,hj,rfl⟩:=List.getElem_of_mem hx
     exact HD.out j hj (by omega)
    unfold Hid fixOf;rw [e,if_neg (by omega)]
   go_wp2_with fail
   go_ret
   exact ⟨vret_int HX.out.symm,rfl⟩
theorem Tryz.info140:(Tryz.prog.info? 140).map (fun i => (i.zero,i.size,i.bytes)) = some (some (.agg #[.string ⟨#[]⟩,.int .i64 0,.slice none 0 0]),3,48):=by kernel_rfl
theorem wthree_new (w:World) (x y z:Value) (t:TypeId):∀ j u,[x,y,z][j]? = some u -> (w.alloc (.cells #[x,y,z] t)).cell? ((⟨w.heap.size,0,none⟩:Addr).add j) = some u:=by
 intro j u hj
 match j,hj with
 | 0,hj => simp at hj;subst hj;simp [Addr.add]
 | 1,hj => simp at hj;subst hj;simp [Addr.add]
 | 2,hj => simp at hj;subst hj;simp [Addr.add]
def rfStep (m:List RfD) (d:K.AD):List RfD:=if fixOf m d.rel < 0 then m ++ [(d.rel,d.ts.length,.slice none 0 0)] else m
def rfL (l:List K.AD):List RfD:=l.foldl rfStep []
theorem rfL_step (l:List K.AD) (k:Nat) (hk:k < l.length):(l.take (k + 1)).foldl rfStep [] = rfStep ((l.take k).foldl rfStep []) l[k]:=by
 rw [List.take_succ_eq_append_getElem hk,List.foldl_append];rfl
def RfS (s:ByteArray) (w:World) (vb:Nat):Prop:=∃ qb base l va vcap hv av rv,w.heap[vb]? = some (.cells #[.pointer (some ⟨qb,0,none⟩),rv] 101 (0,0)) /\ w.ownsRow vb 140 3 rv (rfL l).length (rfcells (rfL l)) /\ K.QSt w qb base (K.TA s).2.1.length l /\ l.length <= 5 /\ w.heap[qb]? = some (.cells #[.slice va (K.TA s).2.1.length vcap,hv,av] 97 (0,0)) /\ w.ownsRow base 3 1 hv (K.TH s).2.1.length (K.ilist ((K.TH s).2.1.map (K.lix (K.TA s).2.1))) /\ w.ownsRow base 138 3 av l.length (K.acells l) /\ l.map K.AD.pa = (K.TA s).2.2
structure RvS (w:World) (vb:Nat) (qp rv:Value) (l:List RfD):Prop where
 blk:w.heap[vb]? = some (.cells #[qp,rv] 101 (0,0))
 row:w.ownsRow vb 140 3 rv l.length (rfcells l)
theorem RvS.below {w w':World} {vb:Nat} {qp rv:Value} {l:List RfD} (h:RvS w vb qp rv l) (hb:Below w.heap.size w w'):RvS w' vb qp rv l:=⟨(hb.block _ (vlt_of_block h.blk)).trans h.blk,vown_below h.row hb⟩
theorem RvS.more {w w1 w2:World} {vb m:Nat} {qp rv rv':Value} {l:List RfD} {d:RfD} (h:RvS w vb qp rv l) (hb:Below w.heap.size w w1) (hg:w1.grownBy w2 rv.ownBlock) (ho:w2.ownsRow vb 140 3 rv' m (rfcells l ++ [.string d.1,.int .i64 d.2.1,d.2.2])) (hm:m = l.length + 1) :
  RvS (w2.setCell ⟨vb,1,none⟩ rv') vb qp rv' (l ++ [d]) /\ w2.cell? ⟨vb,1,none⟩ = some rv /\ w2.frozen? ⟨vb,1,none⟩ = false:=by
 have nb:rv.ownBlock ≠ some vb:=fun e => by
  rcases h.row.2 with ⟨rfl,_⟩ | ⟨g,cap,cur,rfl,_,h1,_⟩
  ·cases e
  ·cases e;rw [h.blk] at h1;simp at h1
 have b2:w2.heap[vb]? = some (.cells #[qp,rv] 101 (0,0)):=by
  have lt:=vlt_of_block h.blk
  rw [hg.block vb (Nat.lt_of_lt_of_le lt hb.size) (fun e => nb e.symm),hb.block vb lt];exact h.blk
 refine ⟨⟨?_,?_⟩,by simp [World.cell?,b2],by simp [World.frozen?,b2]⟩
 ·rw [blk_setCell b2 1 rv'];simp [Array.setIfInBounds]
 ·rw [rfcells_snoc,List.length_append,show l.length + [d].length = m by simp;omega]
  refine ⟨ho.1,?_⟩
  rcases ho.2 with hn | ⟨g,cap,cur,rfl,h1,h2,rest⟩
  ·exact .inl hn
  ·refine .inr ⟨g,cap,cur,rfl,h1,?_,rest⟩
   rw [Below.heap_setCell _ _ _ _ (fun e => by rw [e,b2] at h2;simp at h2)];exact h2
theorem RefStart_no (s:ByteArray) (w:World) (hs:s.size <= maxLen) (hE:K.refE s ≠ 0) :
  Calls Tryz.prog 33 #[.string s] w fun e w' => e = .returned (.tuple #[.pointer none,.int .i64 (K.refE s),.int .i64 (K.refP s)]) /\ Below w.heap.size w w':=by
 have PA:=K.Parse_any s w hs
 obtain ⟨E,hEE⟩:∃ E,K.refE s = E:=⟨_,rfl⟩
 obtain ⟨A,hAA⟩:∃ A,K.refP s = A:=⟨_,rfl⟩
 rw [hEE,hAA] at PA
 rw [hEE] at hE
 rw [hEE,hAA]
 have hne:(E != 0) = true:=by rw [bne_iff_ne];exact hE
 clear hEE hAA
 have HPA:Hid _:=PA
 go_enter Tryz.func33,Tryz.ntmps33
 go_wp2_with fail
 refine PA.mono ?_
 rintro x w1 ⟨⟨q,rfl,_⟩,hb1⟩
 go_wp2_with fail
 refine bodyPost_ret (v:=.tuple #[.pointer none,.int .i64 E,.int .i64 A]) (by simp [results,Tryz.results33,go_sem]) rfl ⟨rfl,hb1⟩
theorem RefStart_ok (s:ByteArray) (w:World) (hs:s.size <= maxLen) (hE:K.refE s = 0) :
  Calls Tryz.prog 33 #[.string s] w fun e w' => ∃ vb,e = .returned (.tuple #[.pointer (some ⟨vb,0,none⟩),.int .i64 0,.int .i64 0]) /\ Below w.heap.size w w' /\ RfS s w' vb /\ w.heap.size <= vb:=by
 have PA:=K.Parse_any s w hs
 rw [hE] at PA
 obtain ⟨A,hAA⟩:∃ A,K.refP s = A:=⟨_,rfl⟩
 rw [hAA] at PA
 clear hAA hE
 obtain ⟨i0,hi,hz0,hz1,hz2⟩:=info_parts Tryz.info140
 have HI:Hid _:=hi
 have HZ0:Hid _:=hz0
 have HZ1:Hid _:=hz1
 have HZ2:Hid _:=hz2
 clear hi hz0 hz1 hz2
 go_enter Tryz.func33,Tryz.ntmps33
 go_wp2_with fail
 refine PA.mono ?_
 rintro x w1 ⟨⟨q,rfl,hq⟩,hb1⟩
 obtain ⟨qb,base,l,va,vcap,hv,av,rfl,hQ,hl5,h1,hhd,h2,hpa⟩:=hq trivial
 have hl:l.length <= 100:=by omega
 have HFS:Hid (∀ w' rv,Below w1.heap.size w1 w' -> w'.heap[w1.heap.size]? = some (.cells #[.pointer (some ⟨qb,0,none⟩),rv] 101 (0,0)) -> w'.ownsRow w1.heap.size 140 3 rv (rfL l).length (rfcells (rfL l)) -> RfS s w' w1.heap.size):=fun w' rv hb e1 e2 => ⟨qb,base,l,va,vcap,hv,av,rv,e1,e2,hQ.below hb,hl5,(hb.block _ (vlt_of_block h1)).trans h1,vown_below hhd hb,vown_below h2 hb,hpa⟩
 obtain ⟨aa,ac,rfl⟩:=vown_form h2
 have HTS:Hid _:=hQ.ts
 have HQB:Hid _:=h1
 have HRW:Hid _:=h2
 have HB1:Hid _:=hb1
 have lqb:=vlt_of_block h1
 clear hQ hq PA h1 h2 hb1 hl5 hhd hpa
 go_wp2_with fail
 go_loopw [9,10] (fun iv _ wr => ∃ (k:Nat) (ra:Option Addr) (rc:Nat) (m:List RfD),k <= l.length /\ m = (l.take k).foldl rfStep [] /\ iv = .int .i64 k /\ RvS wr w1.heap.size (.pointer (some ⟨qb,0,none⟩)) (.slice ra m.length rc) m /\ m.length <= k /\ Below w1.heap.size w1 wr) (fun iv _ _ => l.length - (intOf iv).toNat)
 case atStart => exact ⟨0,none,0,[],Nat.zero_le _,rfl,rfl,⟨vheap_alloc_new _ _,World.ownsRow_nil _ _ _ _⟩,Nat.le_refl _,(Below.refl _ _).alloc (Nat.le_refl _) _⟩
 case round =>
  obtain ⟨k,ra,rc,m,hk,hmm,rfl,hR,hmk,hb⟩:=hrel
  have HMM:Hid (m = (l.take k).foldl rfStep []):=hmm
  clear hmm
  have qbl:=(hb.block qb lqb).trans HQB.out
  have c2:wr.cell? ⟨qb,2,none⟩ = some (.slice aa l.length ac):=by simp [World.cell?,qbl]
  have lq2:=vlt_of_block qbl
  by_cases hlt:k < l.length
  ·have hpr:=vown_below HRW.out hb
   obtain ⟨g,cap',he⟩:=vown_some hpr (by omega)
   simp only [Value.slice.injEq,true_and] at he
   obtain ⟨rfl,rfl⟩:=he
   obtain ⟨y0,y1,y2⟩:=K.acells_at' l k hlt
   have d0:=(hpr.cellAt (k * 3) (by omega)).trans y0
   have d1:=(hpr.cellAt (k * 3 + 1) (by omega)).trans y1
   have d2:=(hpr.cellAt (k * 3 + 2) (by omega)).trans y2
   have lg:=World.block_lt_of_cell? _ _ d0
   obtain ⟨ta,tc,htv⟩:=vown_form (HTS.out _ (List.getElem_mem hlt))
   rw [htv] at d1
   obtain ⟨TN,hTN⟩:∃ x,l[k].ts.length = x:=⟨_,rfl⟩
   obtain ⟨RL,hRL⟩:∃ x,l[k].rel = x:=⟨_,rfl⟩
   obtain ⟨AT,hAT⟩:∃ x,l[k].at_ = x:=⟨_,rfl⟩
   rw [hTN] at d1
   rw [hRL] at d0
   rw [hAT] at d2
   have v1:wr.cell? ⟨w1.heap.size,1,none⟩ = some (.slice ra m.length rc):=by simp [World.cell?,hR.blk]
   have lv:=vlt_of_block hR.blk
   obtain ⟨M,hM⟩:∃ M,m.length = M:=⟨_,rfl⟩
   have HM:Hid _:=hM
   have hrow:=hR.row
   rw [hM] at hrow hmk v1 hR
   have HR:Hid _:=hR
   have hM100:M <= 100:=by omega
   obtain ⟨I,hI⟩:∃ I,fixOf m RL = I:=⟨_,rfl⟩
   have HST:Hid ((l.take (k + 1)).foldl rfStep [] = if I < 0 then m ++ [(RL,TN,.slice none 0 0)] else m):=by unfold Hid;rw [rfL_step l k hlt,← HMM.out];unfold rfStep;rw [hRL,hTN,hI]
   have FA:=find_any w1.heap.size w1.heap.size m (.slice ra m.length rc) RL (wr.alloc (.cells #[.string RL,.slice ta TN tc,.int .i64 AT] 138)) (by rw [hM];exact (((Below.refl wr.heap.size wr).alloc (Nat.le_refl _) _).cell (p:=⟨w1.heap.size,1,none⟩) lv).trans v1) (by have:=hrow.alloc (.cells #[.string RL,.slice ta TN tc,.int .i64 AT] 138);rw [← hM] at this;exact this) (by omega)
   rw [hI] at FA
   clear hR hM y0 y1 y2 hpr htv hTN hRL hAT hI
   go_wp2_with fail
   refine FA.mono ?_
   rintro x w2 ⟨rfl,hw2⟩
   subst hw2
   by_cases hneg:I < 0
   ·go_upto_region 10 with fail
    go_region_law (refine step_append_own rfl (.tmp 49) (.tmp 56) 99 rfl w1.heap.size 140 i0 (.agg #[.string ⟨#[]⟩,.int .i64 0,.slice none 0 0]) 3 48 Tryz.underlying99 HI.out HZ0.out HZ1.out HZ2.out rfl (by decide) (.slice ra M rc) M (rfcells m) rfl (by exact ((hrow.alloc _).alloc _)) ⟨wr.heap.size + 1,0,none⟩ 1 1 [.string RL,.int .i64 TN,.slice none 0 0] rfl rfl (by have:=wthree_new (wr.alloc (.cells #[.string RL,.slice ta TN tc,.int .i64 AT] 138)) (.string RL) (.int .i64 TN) (.slice none 0 0) 140;simpa using this) (by intro u hu;simp at hu;rcases hu with rfl | rfl | rfl <;> rfl) (by unfold maxLen;omega) (by omega) (by simp;omega) ?_;intro v6 w6 hown6 hgrow6;obtain ⟨va6,vc6,rfl⟩:=vown_form hown6;have FIN:=RvS.more (d:=(RL,TN,.slice none 0 0)) (w1:=((wr.alloc (.cells #[.string RL,.slice ta TN tc,.int .i64 AT] 138)).alloc (.cells #[.string RL,.int .i64 TN,.slice none 0 0] 140)).drew) HR.out ((((Below.refl _ _).alloc (Nat.le_refl _) _).alloc (by simp) _).drew) (by exact hgrow6) hown6 (by rw [HM.out]);have e2:=FIN.2.1;have e3:=FIN.2.2)
    all_goals go_wp2_with fail
    all_goals go_roundw
    all_goals first
     | (simp [intOf];omega)
     | exact ⟨k + 1,va6,vc6,m ++ [(RL,TN,Value.slice none 0 0)],by omega,by rw [HST.out,if_pos (by omega)],by go_num,by rw [show (m ++ [(RL,TN,Value.slice none 0 0)]).length = M + 1 by rw [List.length_append,HM.out];rfl];exact FIN.1,by rw [List.length_append,HM.out];simp;omega,(((hb.alloc hb.size _).alloc (by have:=hb.size;simp;omega) _).drew.grown (by exact hgrow6) (by have:=hb.size;simp;omega) (fun j hj => (hrow.lt j hj).1)).setCell (p:=⟨w1.heap.size,1,none⟩) (Nat.le_refl _) _⟩
   ·go_wp2_with fail
    go_roundw
    case rel => exact ⟨k + 1,ra,rc,m,by omega,by rw [HST.out,if_neg (by omega)],by go_num,by rw [HM.out];exact HR.out.below ((Below.refl _ _).alloc (Nat.le_refl _) _),by rw [HM.out];omega,hb.alloc hb.size _⟩
    case measure => simp [intOf];omega
  ·go_wp2_with fail
   refine bodyPost_ret (v:=.tuple #[.pointer (some ⟨w1.heap.size,0,none⟩),.int .i64 0,.int .i64 0]) (by simp [results,Tryz.results33,go_sem]) rfl ⟨w1.heap.size,rfl,HB1.out.trans (hb.mono HB1.out.size),?_,HB1.out.size⟩
   have e:m = rfL l:=by rw [HMM.out,List.take_of_length_le (by omega)];rfl
   rw [e] at hR
   exact HFS.out _ _ hb hR.blk hR.row
end Go.Proofs.YtondkinefmjpjaaGreat
