import Derived.Test.YtondkinefmjpjaaGreatI43
set_option maxHeartbeats 8000000
set_option maxRecDepth 100000
namespace Go.Proofs.YtondkinefmjpjaaGreat
open Go.RowKit
structure PlanV (w:World) (B:Nat) (hv mv rv av lv wv:Value) (P:PlanD):Prop where
 head:w.ownsRow B 3 1 hv P.head.length (nats P.head)
 H:mv = .int .u8 P.H
 rels:∃ rvs:List Value,w.ownsRow B 106 3 rv P.rels.length (relcells P.rels rvs) /\ rvs.length = P.rels.length /\ ∀ k,k < P.rels.length -> w.ownsRow B 3 1 (rvs.getD k (.bool false)) (P.rel k).2.2.length (nats (P.rel k).2.2)
 pats:∃ pvs:List Value,w.ownsRow B 156 1 av P.pats.length pvs /\ pvs.length = P.pats.length /\ ∀ k,k < P.pats.length -> ∃ b',w.ownsRow b' 205 2 (pvs.getD k (.bool false)) (P.pat k).length (tmcells (P.pat k))
 lks:w.ownsRow B 163 4 lv P.lk.length (lkcells P.ms P.lk)
 walks:∃ wvs:List Value,w.ownsRow B 28 1 wv P.ms.length wvs /\ wvs.length = P.ms.length /\ ∀ k,k < P.ms.length -> w.ownsRow B 3 1 (wvs.getD k (.bool false)) (P.walk k).length (nats (P.walk k))
theorem enter86:∀ vs u,(callFunc 86 vs).run Tryz.prog u = .ok (.enter 86 vs) u:=enters_of Tryz.func86 (by kernel_rfl) rfl
theorem enter87:∀ vs u,(callFunc 87 vs).run Tryz.prog u = .ok (.enter 87 vs) u:=enters_of Tryz.func87 (by kernel_rfl) rfl
theorem enter90:∀ vs u,(callFunc 90 vs).run Tryz.prog u = .ok (.enter 90 vs) u:=enters_of Tryz.func90 (by kernel_rfl) rfl
theorem Tryz.info156:(Tryz.prog.info? 156).map (fun i => (i.zero,i.size,i.bytes)) = some (some (.slice none 0 0),1,24):=by kernel_rfl
theorem Tryz.info28:(Tryz.prog.info? 28).map (fun i => (i.zero,i.size,i.bytes)) = some (some (.slice none 0 0),1,24):=by kernel_rfl
def VsS (ms:List Nat) (W u:World) (v:Value) (w1:World):Prop :=
 ∃ sa cap,v = .slice sa ms.length cap /\ w1.ownsRow W.heap.size 77 1 (.slice sa ms.length cap) ms.length (u8s ms) /\ Below W.heap.size W w1 /\ Below u.heap.size u w1
def LsS (ms:List Nat) (es:List (Nat × Nat)) (W u:World) (v:Value) (w1:World):Prop :=
 ∃ la cap,v = .slice la (lkE es).length cap /\ w1.ownsRow W.heap.size 163 4 (.slice la (lkE es).length cap) (lkE es).length (lkcells ms (lkE es)) /\ Below W.heap.size W w1 /\ Below u.heap.size u w1
def ZpC (w:World) (x:Nat):Prop:=(w.cell? ⟨x,0,none⟩ = some (.slice none 0 0) /\ w.cell? ⟨x,1,none⟩ = some (.int .u8 0) /\ w.cell? ⟨x,2,none⟩ = some (.slice none 0 0) /\ w.cell? ⟨x,3,none⟩ = some (.slice none 0 0) /\ w.cell? ⟨x,4,none⟩ = some (.slice none 0 0) /\ w.cell? ⟨x,5,none⟩ = some (.slice none 0 0)) /\ w.frozen? ⟨x,0,none⟩ = false /\ w.frozen? ⟨x,1,none⟩ = false /\ w.frozen? ⟨x,2,none⟩ = false /\ w.frozen? ⟨x,3,none⟩ = false /\ w.frozen? ⟨x,4,none⟩ = false /\ w.frozen? ⟨x,5,none⟩ = false
def LsZ (ms:List Nat) (es:List (Nat × Nat)) (W:World) (x:Nat) (v:Value) (w1:World):Prop :=
 ∃ la cap,v = .slice la (lkE es).length cap /\ w1.ownsRow W.heap.size 163 4 (.slice la (lkE es).length cap) (lkE es).length (lkcells ms (lkE es)) /\ Below W.heap.size W w1 /\ w1.heap[x]? = some (.cells zP 83 (0,0)) /\ ZpC w1 x
theorem zp_cells {w:World} {x:Nat} (h:w.heap[x]? = some (.cells zP 83 (0,0))):ZpC w x:=by
 simp [ZpC,World.cell?,World.frozen?,h,zP]
theorem mp_made {w W wy:World} {Q:Array Value} {pb:Nat} {lv:Value} {L:Nat} {lc:List Value} (hW:Below w.heap.size w W) (hs:W.heap.size = w.heap.size + 2) (hq:W.heap[w.heap.size]? = some (.cells Q 121 (0,0))) (hz:W.heap[w.heap.size + 1]? = some (.cells zP 83 (0,0))) (hb:Below W.heap.size W wy) (hp:wy.heap[pb]? = some (.cells zP 83 (0,0))) (hlt:W.heap.size <= pb) (hl:wy.ownsRow W.heap.size 163 4 lv L lc) :
  P1 ((((((wy.setCell ⟨pb,0,none⟩ (.slice none 0 0)).setCell ⟨pb,1,none⟩ (.int .u8 0)).setCell ⟨pb,2,none⟩ (.slice none 0 0)).setCell ⟨pb,3,none⟩ (.slice none 0 0)).setCell ⟨pb,4,none⟩ lv).setCell ⟨pb,5,none⟩ (.slice none 0 0)) w.heap.size Q pb (.slice none 0 0) (.int .u8 0) lv [] L lc /\ Below w.heap.size w ((((((wy.setCell ⟨pb,0,none⟩ (.slice none 0 0)).setCell ⟨pb,1,none⟩ (.int .u8 0)).setCell ⟨pb,2,none⟩ (.slice none 0 0)).setCell ⟨pb,3,none⟩ (.slice none 0 0)).setCell ⟨pb,4,none⟩ lv).setCell ⟨pb,5,none⟩ (.slice none 0 0)):=by
 refine ⟨P1.made ((hb.block _ (vlt_of_block hq)).trans hq) ((hb.block _ (vlt_of_block hz)).trans hz) hp (by omega) (hl.mono hW.size),?_⟩
 repeat (refine Below.setCell ?_ (by show w.heap.size <= pb;omega) _)
 exact hW.trans (hb.mono hW.size)
theorem mp_made2 {w W wy:World} {Q:Array Value} {lv:Value} {L:Nat} {lc:List Value} (hW:Below w.heap.size w W) (hs:W.heap.size = w.heap.size + 2) (hq:W.heap[w.heap.size]? = some (.cells Q 121 (0,0))) (hz:W.heap[w.heap.size + 1]? = some (.cells zP 83 (0,0))) (hb:Below W.heap.size W wy) (hl:wy.ownsRow W.heap.size 163 4 lv L lc) :
  P1 (wy.alloc (.cells #[.slice none 0 0,.int .u8 0,.slice none 0 0,.slice none 0 0,lv,.slice none 0 0] 83)) w.heap.size Q wy.heap.size (.slice none 0 0) (.int .u8 0) lv [] L lc /\ Below w.heap.size w (wy.alloc (.cells #[.slice none 0 0,.int .u8 0,.slice none 0 0,.slice none 0 0,lv,.slice none 0 0] 83)):=by
 have hb2:=hb.alloc hb.size (.cells #[.slice none 0 0,.int .u8 0,.slice none 0 0,.slice none 0 0,lv,.slice none 0 0] 83)
 have:=hb.size
 exact ⟨⟨(hb2.block _ (vlt_of_block hq)).trans hq,(hb2.block _ (vlt_of_block hz)).trans hz,vheap_alloc_new _ _,by omega,World.ownsRow_nil _ _ _ _,(hl.alloc _).mono hW.size⟩,hW.trans (hb2.mono hW.size)⟩
theorem take_snocN {l:List Nat} {k:Nat} (hk:k < l.length):l.take (k + 1) = l.take k ++ [l.getD k 0]:=by
 rw [List.take_succ_eq_append_getElem hk,List.getD_eq_getElem?_getD,List.getElem?_eq_getElem hk];rfl
theorem P1.drew {w:World} {B:Nat} {Q:Array Value} {pb:Nat} {hdv mv lv:Value} {hs:List Nat} {L:Nat} {lc:List Value} (h:P1 w B Q pb hdv mv lv hs L lc):P1 w.drew B Q pb hdv mv lv hs L lc:=h.below ((Below.refl _ _).drew)
theorem orN_step (c:K.CS) (k:Nat) (hk:k < c.hd.length) {n:Nat} (hn:(K.hdN c).getD k 0 = n) (h6:∀ m,m ∈ K.hdN c -> m < 6):bits BinOp.or IntKind.u8 ((K.orN ((K.hdN c).take k):Nat):Int) (2 ^ n % 256) = ((K.orN ((K.hdN c).take (k + 1)):Nat):Int):=by
 have hl:k < (K.hdN c).length:=by unfold K.hdN;simpa using hk
 have h1:K.orN ((K.hdN c).take k) < 64:=K.orN_lt _ (fun m hm => h6 m (List.mem_of_mem_take hm))
 have hn6:n < 6:=by rw [← hn,List.getD_eq_getElem?_getD,List.getElem?_eq_getElem hl];exact h6 _ (List.getElem_mem hl)
 have h2:2 ^ n < 64:=by have:=Nat.pow_lt_pow_right (a:=2) (by decide) hn6;omega
 rw [take_snocN hl,hn,orN_snoc,← or_nat (by omega) (by omega)]
 congr 1
 have:((2:Int) ^ n) = ((2 ^ n:Nat):Int):=by simp
 have h3:((2 ^ n:Nat):Int) < ((256:Nat):Int):=Int.ofNat_lt.2 (by omega)
 rw [this];exact Int.emod_eq_of_lt (Int.natCast_nonneg _) h3
def WkS (w:World) (pb:Nat) (l:List Nat) (wv lv:Value) (v:Value) (w1:World):Prop :=
 ∃ a c,v = .slice a l.length c /\ w1.ownsRow w.heap.size 3 1 (.slice a l.length c) l.length (nats l) /\ Below w.heap.size w w1 /\ w1.cell? ⟨pb,5,none⟩ = some wv /\ w1.cell? ⟨pb,4,none⟩ = some lv /\ pb < w1.heap.size
theorem walk_step (base:Nat) (ms:List Nat) (lk:List (Nat × Nat)) (lv wv:Value) (pb k:Nat) (w:World) (hl:w.ownsRow base 163 4 lv lk.length (lkcells ms lk)) (h6:lk.length <= 6) (hin:∀ i,i < lk.length -> (lk.getD i (0,0)).2 < 4) (hd:dpL 3 lk k 9 = true) (c5:w.cell? ⟨pb,5,none⟩ = some wv) (c4:w.cell? ⟨pb,4,none⟩ = some lv) :
  Calls Tryz.prog 90 #[lv,.int .i64 k,.int .i64 (-1)] w.drew fun e w' => ∃ v,e = .returned v /\ WkS w pb (wfL 4 lk k 9) wv lv v w':=by
 refine (walkFrom_any base ms lk lv (by omega) (wf_small h6) 3 (by decide) k 9 (-1) (fun i hi => ?_) hd w.drew hl).mono ?_
 ·have:=hin i hi
  exact ⟨fun e => by omega,fun e => by omega⟩
 ·rintro e w1 ⟨a,c,rfl,o1,b1⟩
  have b2:Below w.heap.size w w1:=⟨b1.os,b1.tape,b1.output,b1.size,b1.block⟩
  have lp:=World.block_lt_of_cell? _ _ c5
  exact ⟨_,rfl,a,c,rfl,o1,b2,(b2.cell lp).trans c5,(b2.cell (p:=⟨pb,4,none⟩) lp).trans c4,Nat.lt_of_lt_of_le lp b2.size⟩
theorem P2.done {w0 w w':World} {B base:Nat} {Q:Array Value} {pb:Nat} {hdv rv av lv wv:Value} {c:K.CS} {ts:List (Option Addr × Nat)} {LN:Nat} {LC rvs wvs:List Value} {own:Nat -> Option Nat} {z:Int} (hI:K.QI c) (h:P2 w B Q pb hdv (.int .u8 z) rv av lv wv (K.hdN c) LN LC (K.relsK c.ats c.ats.length) rvs own (tvals c.ats ts) (wkl (lkE (K.edg c)) c.ats.length) wvs) (hk:Kp (fun x => x = B + 1) w w') (hz:((K.orN (K.hdN c):Nat):Int) = z) (hts:ts.length = c.ats.length) (htr:K.TRow w0 base c.ats ts) (hb:Below w0.heap.size w0 w') (hL:(lkE (K.edg c)).length = LN) (hC:lkcells (c.ats.map K.msk) (lkE (K.edg c)) = LC) :
  PlanV w' B hdv (.int .u8 z) rv av lv wv (K.planOf c):=by
 have hT:∀ x,x = B + 1 -> ∃ c,w.heap[x]? = some (.cells c 83 (0,0)):=fun x hx => by subst hx;exact ⟨_,h.z⟩
 have r2:PRl w' B rv (K.relsK c.ats c.ats.length) rvs own:=h.rtag hk hT (by decide) (by decide)
 have hml:(K.planOf c).ms.length = c.ats.length:=by show (c.ats.map K.msk).length = _;simp
 have hpl:(K.planOf c).pats.length = c.ats.length:=by show (c.ats.map K.CA.tm).length = _;simp
 have hwl:wvs.length = c.ats.length:=by rw [h.wl];simp [wkl]
 refine ⟨hk.tagown hT h.h (by decide),by rw [← hz];rfl,⟨rvs,r2.row,r2.len,r2.ats⟩,⟨tvals c.ats ts,?_,by rw [hpl,tvals_len hts],fun k hk' => ?_⟩,?_,⟨wvs,?_,by rw [hml,hwl],fun k hk' => ?_⟩⟩
 ·have:=hk.tagown hT h.a (by decide)
  rw [tvals_len hts] at this
  rw [hpl];exact this
 ·rw [hpl] at hk'
  have hk2:k < ts.length:=by omega
  have hm:(c.ats[k],ts[k]) ∈ c.ats.zip ts:=by
   rw [List.mem_iff_getElem]
   exact ⟨k,by simp;omega,by simp⟩
  have hp:(K.planOf c).pat k = c.ats[k].tm:=by
   show (c.ats.map K.CA.tm).getD k [] = _
   rw [List.getD_eq_getElem?_getD,List.getElem?_map,List.getElem?_eq_getElem hk'];rfl
  rw [tvals_at k hk' hk2,hp,(hI.at_ _ (List.getElem_mem hk')).len]
  exact ⟨base,vown_below (htr _ hm) hb⟩
 ·have:=hk.tagown hT h.l (by decide)
  rw [← hL,← hC] at this
  exact this
 ·have:=hk.tagown hT h.k (by decide)
  rw [hwl] at this
  rw [hml];exact this
 ·rw [hml] at hk'
  have:=h.wk k (by simp [wkl];exact hk')
  rw [wkl_at _ _ _ hk'] at this
  exact hk.tagown hT this (by decide)
theorem makePlan_any (c : K.CS) (hI : K.QI c) (hOk : PlanOk (K.planOf c)) (hix : ∀ p, p ∈ c.hd → 0 ≤ K.ixOf c.vars p.t) (hrs : ∀ x, x ∈ c.ats → x.rel.size ≤ 281474976710656) (base : Nat) (hv vv av ev : Value) (w : World) (hQ : K.CQ w base hv vv av ev c) :
    Calls Tryz.prog 55 #[.agg #[hv, vv, av, ev]] w fun e w' => ∃ hv' mv' rv' av' lv' wv', e = .returned (.agg #[hv', mv', rv', av', lv', wv']) ∧ PlanV w' w.heap.size hv' mv' rv' av' lv' wv' (K.planOf c) ∧ Below w.heap.size w w' := by
  obtain ⟨ha, hc, rfl⟩ := vown_form hQ.hd
  obtain ⟨va, vc, rfl⟩ := vown_form hQ.vars
  obtain ⟨aa, ac, rfl⟩ := K.AR.form hQ.ats
  obtain ⟨ea, ec, rfl⟩ := vown_form hQ.es
  obtain ⟨p1, p2, p3, p4⟩ := hOk.links
  have hset : ∀ x, x ∈ c.ats → x.set = ((K.msk x : Nat) : Int) := fun x hx => ((hI.at_ x hx).msk hI.v6).1
  obtain ⟨W, hW⟩ : ∃ W, (w.alloc (.cells #[.slice ha c.hd.length hc, .slice va c.vars.length vc, .slice aa c.ats.length ac, .slice ea (K.edg c).length ec] 121)).alloc (.cells #[.slice none 0 0, .int .u8 0, .slice none 0 0, .slice none 0 0, .slice none 0 0, .slice none 0 0] 83) = W := ⟨_, rfl⟩
  have hbW : Below w.heap.size w W := by rw [← hW]; exact ((Below.refl _ _).alloc (Nat.le_refl _) _).alloc (by simp) _
  have hqb : W.heap[w.heap.size]? = some (.cells #[.slice ha c.hd.length hc, .slice va c.vars.length vc, .slice aa c.ats.length ac, .slice ea (K.edg c).length ec] 121 (0, 0)) := by
    rw [← hW]; exact (Below.heap_alloc _ _ _ (by simp)).trans (vheap_alloc_new w _)
  have hzb : W.heap[w.heap.size + 1]? = some (.cells zP 83 (0, 0)) := by
    rw [← hW]
    have := vheap_alloc_new (w.alloc (.cells #[.slice ha c.hd.length hc, .slice va c.vars.length vc, .slice aa c.ats.length ac, .slice ea (K.edg c).length ec] 121)) (.cells #[.slice none 0 0, .int .u8 0, .slice none 0 0, .slice none 0 0, .slice none 0 0, .slice none 0 0] 83)
    simpa [zP] using this
  have hsz : W.heap.size = w.heap.size + 2 := by rw [← hW]; simp
  have l1 := vlt_of_block hqb
  have l2 := vlt_of_block hzb
  have e3 : W.cell? ⟨w.heap.size, 3, none⟩ = some (.slice ea (K.edg c).length ec) := by simp [World.cell?, hqb]
  have e2 : W.cell? ⟨w.heap.size, 2, none⟩ = some (.slice aa c.ats.length ac) := by simp [World.cell?, hqb]
  obtain ⟨ms, hms⟩ : ∃ ms, c.ats.map K.msk = ms := ⟨_, rfl⟩
  have HVS : Hid (∀ u, Below W.heap.size W u → Calls Tryz.prog 86 #[.pointer (some ⟨w.heap.size, 0, none⟩)] u fun e w' => ∃ v, e = .returned v ∧ VsS ms W u v w') := by
    intro u hu
    have hbu : Below w.heap.size w u := hbW.trans (hu.mono hbW.size)
    refine (K.varSets_any w.heap.size base c.ats _ u ((hu.cell l1).trans e2) (hQ.ats.below hbu) (by have := hI.n4; omega)).mono ?_
    rintro e w1 ⟨sa, cap, rfl, h1, h2⟩
    have hl : c.ats.length = ms.length := by rw [← hms]; simp
    rw [hl, u8s_msk hset, hms] at h1
    rw [hl]
    exact ⟨_, rfl, sa, cap, rfl, h1.mono hu.size, hu.trans (h2.mono hu.size), h2⟩
  have HLS : Hid (∀ u sa cap, Below W.heap.size W u → u.ownsRow W.heap.size 77 1 (.slice sa ms.length cap) ms.length (u8s ms) → Calls Tryz.prog 87 #[.slice ea (K.edg c).length ec, .slice sa ms.length cap] u fun e w' => ∃ v, e = .returned v ∧ LsS ms (K.edg c) W u v w') := by
    intro u sa cap hu hs
    have hbu : Below w.heap.size w u := hbW.trans (hu.mono hbW.size)
    refine (makeLinks_any base W.heap.size (K.edg c) ms _ _ u (vown_below hQ.es hbu) hs ?_ ?_ ?_ ?_).mono ?_
    · intro k hk; have := p3 k hk; rw [show (K.planOf c).ms = ms from hms] at this; exact this
    · have : (K.edg c).length ≤ 3 := p1; omega
    · have := hOk.n4; rw [show (K.planOf c).ms = ms from hms] at this; omega
    · intro m hm; have := hOk.m64 m (by rw [show (K.planOf c).ms = ms from hms]; exact hm); omega
    · rintro e w1 ⟨la, cap', rfl, h1, h2⟩
      exact ⟨_, rfl, la, cap', rfl, h1.mono hu.size, hu.trans (h2.mono hu.size), h2⟩
  have hdr : Below W.heap.size W W.drew := (Below.refl _ _).drew
  have hdra : Below W.heap.size W (W.drew.alloc (.cells zP 83)) := hdr.alloc (Nat.le_refl _) _
  have HVC : Hid (Calls Tryz.prog 86 #[.pointer (some ⟨w.heap.size, 0, none⟩)] (W.drew.alloc (.cells zP 83)) fun e w' => ∃ v, e = .returned v ∧ (VsS ms W (W.drew.alloc (.cells zP 83)) v w' ∧ w'.heap[W.heap.size]? = some (.cells zP 83 (0, 0)))) := by
    refine (HVS.out _ hdra).mono ?_
    rintro e w1 ⟨v, rfl, hv⟩
    obtain ⟨sa, cap, e1, e2, e3, n1⟩ := id hv
    exact ⟨v, rfl, hv, (n1.block W.heap.size (by simp)).trans (vheap_alloc_new W.drew (.cells zP 83))⟩
  have HLB : Hid (∀ (w1 : World) sa cap, Below W.heap.size W w1 → w1.ownsRow W.heap.size 77 1 (.slice sa ms.length cap) ms.length (u8s ms) → Calls Tryz.prog 87 #[.slice ea (K.edg c).length ec, .slice sa ms.length cap] (w1.alloc (.cells zP 83)) fun e w' => ∃ v, e = .returned v ∧ LsZ ms (K.edg c) W w1.heap.size v w') := by
    intro w1 sa cap hu ho
    refine (HLS.out _ sa cap (hu.alloc hu.size _) (ho.alloc _)).mono ?_
    rintro e w2 ⟨v, rfl, la, cap', e1, e2, e3, n2⟩
    have z2 := (n2.block w1.heap.size (by simp)).trans (vheap_alloc_new w1 (.cells zP 83))
    exact ⟨v, rfl, la, cap', e1, e2, e3, z2, zp_cells z2⟩
  have HLC : Hid (∀ (w1 : World) sa cap, Below W.heap.size W w1 → w1.ownsRow W.heap.size 77 1 (.slice sa ms.length cap) ms.length (u8s ms) → w1.heap[W.heap.size]? = some (.cells zP 83 (0, 0)) → Calls Tryz.prog 87 #[.slice ea (K.edg c).length ec, .slice sa ms.length cap] w1 fun e w' => ∃ v, e = .returned v ∧ LsZ ms (K.edg c) W W.heap.size v w') := by
    intro w1 sa cap hu ho z1
    refine (HLS.out _ sa cap hu ho).mono ?_
    rintro e w2 ⟨v, rfl, la, cap', e1, e2, e3, n2⟩
    have z2 := (n2.block W.heap.size (vlt_of_block z1)).trans z1
    exact ⟨v, rfl, la, cap', e1, e2, e3, z2, zp_cells z2⟩
  have HW : Hid _ := hW
  have HQ : Hid _ := hQ
  have HBW : Hid _ := hbW
  have HQB : Hid _ := hqb
  have HZB : Hid _ := hzb
  have HSZ : Hid (W.heap.size = w.heap.size + 2) := hsz
  clear hW hQ hbW hqb hzb hsz
  go_enter Tryz.func55, Tryz.ntmps55
  go_upto_region 1 with fail
  rw [HW.out]
  go_cut [3] (fun pv wx => ∃ pb la lc, pv = .pointer (some ⟨pb, 0, none⟩) ∧ P1 wx w.heap.size #[.slice ha c.hd.length hc, .slice va c.vars.length vc, .slice aa c.ats.length ac, .slice ea (K.edg c).length ec] pb (.slice none 0 0) (.int .u8 0) (.slice la (lkE (K.edg c)).length lc) [] (lkE (K.edg c)).length (lkcells ms (lkE (K.edg c))) ∧ Below w.heap.size w wx)
  case first =>
    go_region_law (first | (refine step_call rfl 86 #[.tmp 1] #[121] rfl enter86 #[.pointer (some ⟨w.heap.size, 0, none⟩)] (by kernel_rfl) _ (HVS.out _ hdr) ?_; rintro v1 w1 ⟨sa, scap, rfl, o1, b1, n1⟩; have f3 := (b1.cell l1).trans e3; have lw1 := Nat.lt_of_lt_of_le l1 b1.size) | (refine step_call rfl 86 #[.tmp 1] #[121] rfl enter86 #[.pointer (some ⟨w.heap.size, 0, none⟩)] (by kernel_rfl) _ HVC.out ?_; rintro v1 w1 ⟨⟨sa, scap, rfl, o1, b1, n1⟩, z1⟩; have f3 := (b1.cell l1).trans e3; have lw1 := Nat.lt_of_lt_of_le l1 b1.size) | (refine step_call rfl 87 #[.tmp 10, .tmp 11] #[119, 176] rfl enter87 #[.slice ea (K.edg c).length ec, .slice sa ms.length scap] (by kernel_rfl) _ (HLC.out _ sa scap b1 o1 z1) ?_; rintro v2 w2 ⟨la, lcap, rfl, o2, b2, z2, ⟨k0, k1, k2, k3, k4, k5⟩, g0, g1, g2, g3, g4, g5⟩) | (refine step_call rfl 87 #[.tmp 10, .tmp 11] #[119, 176] rfl enter87 #[.slice ea (K.edg c).length ec, .slice sa ms.length scap] (by kernel_rfl) _ (HLB.out w1 sa scap b1 o1) ?_; rintro v2 w2 ⟨la, lcap, rfl, o2, b2, z2, ⟨k0, k1, k2, k3, k4, k5⟩, g0, g1, g2, g3, g4, g5⟩) | (refine step_call rfl 87 #[.tmp 10, .tmp 11] #[119, 176] rfl enter87 #[.slice ea (K.edg c).length ec, .slice sa ms.length scap] (by kernel_rfl) _ (HLS.out w1 sa scap b1 o1) ?_; rintro v2 w2 ⟨la, lcap, rfl, o2, b2, n2⟩))
    all_goals (go_wp2; go_meet)
    all_goals refine ⟨_, la, lcap, rfl, ?_⟩
    all_goals first
      | with_reducible exact mp_made2 HBW.out HSZ.out HQB.out HZB.out b2 o2
      | with_reducible exact mp_made HBW.out HSZ.out HQB.out HZB.out b2 z2 (Nat.le_refl _) o2
      | with_reducible exact mp_made HBW.out HSZ.out HQB.out HZB.out b2 z2 b1.size o2
  case rest =>
    obtain ⟨pb, la, lc, rfl, hP, hbx⟩ := hcut
    obtain ⟨w2, hw2⟩ : ∃ w2 : World, w2 = wc := ⟨_, rfl⟩
    subst hw2
    obtain ⟨Q, hQe⟩ : ∃ Q : Array Value, #[.slice ha c.hd.length hc, .slice va c.vars.length vc, .slice aa c.ats.length ac, .slice ea (K.edg c).length ec] = Q := ⟨_, rfl⟩
    have HQE : Hid _ := hQe
    obtain ⟨LC, hLC⟩ : ∃ LC, lkcells ms (lkE (K.edg c)) = LC := ⟨_, rfl⟩
    have HLC2 : Hid _ := hLC
    obtain ⟨LN, hLN⟩ : ∃ LN, (lkE (K.edg c)).length = LN := ⟨_, rfl⟩
    have HLN : Hid _ := hLN
    rw [hQe, hLC, hLN] at hP
    have q0 : w2.cell? ⟨w.heap.size, 0, none⟩ = some (.slice ha c.hd.length hc) := by simp [World.cell?, hP.q, ← hQe]
    have lq := vlt_of_block hP.q
    obtain ⟨i1, hi, hz0, hz1, hz2⟩ := info_parts Tryz.info3
    have HJ0 : Hid _ := hi
    have HY0 : Hid _ := hz0
    have HY1 : Hid _ := hz1
    have HY2 : Hid _ := hz2
    have HIX : Hid _ := hix
    have HH6 : Hid (∀ m, m ∈ K.hdN c → m < 6) := hOk.headlt
    have hh6 : c.hd.length ≤ 6 := hI.h6
    have hv6 : c.vars.length ≤ 6 := hI.v6
    have hn4 : c.ats.length ≤ 4 := hI.n4
    have HOK : Hid _ := hOk
    have HII : Hid _ := hI
    have HRS : Hid _ := hrs
    have HSET : Hid _ := hset
    have HMS : Hid _ := hms
    have HLT := hP.lt
    clear hi hz0 hz1 hz2 hQe hLC hLN HVS HVC HLS HLB HLC hdr hdra HQB HZB HW HBW e2 e3 l1 l2 hix hOk hI hrs hset p1 p2 p3 p4 hms HSZ
    go_wp2_with fail
    go_loopw [5, 6, 17] (fun _ _ kv wr => ∃ (k : Nat) (xa : Option Addr) (xc : Nat), k ≤ c.hd.length ∧ kv = .int .i64 k ∧ P1 wr w.heap.size Q pb (.slice xa k xc) (.int .u8 ((K.orN ((K.hdN c).take k) : Nat) : Int)) (.slice la LN lc) ((K.hdN c).take k) LN LC ∧ Below w.heap.size w wr) (fun _ _ kv _ => c.hd.length - (intOf kv).toNat)
    case atStart => exact ⟨0, none, 0, Nat.zero_le _, rfl, hP, hbx⟩
    case round =>
      clear hP hbx q0 lq
      obtain ⟨k, xa, xc, hk, rfl, hP, hb⟩ := hrel
      have hws : w.heap.size ≤ wr.heap.size := hb.size
      by_cases hlt : k < c.hd.length
      · have hl : k < (K.hdN c).length := by unfold K.hdN; simpa using hlt
        have hln : ((K.hdN c).take k).length = k := by rw [List.length_take]; omega
        have hrow : wr.ownsRow w.heap.size 3 1 (.slice xa k xc) k (nats ((K.hdN c).take k)) := by have := hP.h; rwa [hln] at this
        have hpr := vown_below HQ.out.hd hb
        have hvr := vown_below HQ.out.vars hb
        obtain ⟨g, cap', he⟩ := vown_some hpr (by omega)
        simp only [Value.slice.injEq, true_and] at he
        obtain ⟨rfl, rfl⟩ := he
        obtain ⟨y0, y1, y2⟩ := K.pcells_at c.hd k hlt
        have d0 := (hpr.cellAt (k * 3) (by omega)).trans y0
        have d1 := (hpr.cellAt (k * 3 + 1) (by omega)).trans y1
        have d2 := (hpr.cellAt (k * 3 + 2) (by omega)).trans y2
        have lg := World.block_lt_of_cell? _ _ d0
        obtain ⟨n, hn⟩ : ∃ n, (K.hdN c).getD k 0 = n := ⟨_, rfl⟩
        have hin := K.ixOf_lt (HIX.out _ (List.getElem_mem hlt))
        have hnx : K.ixOf c.vars c.hd[k].t = (n : Int) := by
          rw [← hin.2, ← hn]
          unfold K.hdN
          rw [List.getD_eq_getElem?_getD, List.getElem?_map, List.getElem?_eq_getElem hlt]; rfl
        have hn5 : n ≤ 5 := by have := hin.1; rw [hnx] at this; simp at this; omega
        have HOR : Hid _ := orN_step c k hlt hn HH6.out
        have HTK : Hid _ := take_snocN hl
        rw [hn] at HTK
        obtain ⟨OR, hOR⟩ : ∃ OR, ((K.orN ((K.hdN c).take k) : Nat) : Int) = OR := ⟨_, rfl⟩
        rw [hOR] at HOR hP
        obtain ⟨PK, hPK⟩ : ∃ PK, c.hd[k].k = PK := ⟨_, rfl⟩
        obtain ⟨PT, hPT⟩ : ∃ PT, c.hd[k].t = PT := ⟨_, rfl⟩
        obtain ⟨PA, hPA⟩ : ∃ PA, c.hd[k].a = PA := ⟨_, rfl⟩
        rw [hPK] at d0
        rw [hPT] at d1 hnx
        rw [hPA] at d2
        have c1 : wr.cell? ⟨w.heap.size, 1, none⟩ = some (.slice va c.vars.length vc) := by simp [World.cell?, hP.q, ← HQE.out]
        have pc0 : wr.cell? ⟨pb, 0, none⟩ = some (.slice xa k xc) := by simp [World.cell?, hP.p]
        have pc1 : wr.cell? ⟨pb, 1, none⟩ = some (.int .u8 OR) := by simp [World.cell?, hP.p]
        have lpb := vlt_of_block hP.p
        have lqb := vlt_of_block hP.q
        have HP : Hid _ := hP
        have HNX : Hid _ := hnx
        have HLL : Hid _ := hln
        clear hP hn hOR hPK hPT hPA y0 y1 y2 hpr hnx hin hln hl
        go_wp2_with fail
        refine (K.varNumber0_any w.heap.size base c.vars _ PT _ (((Below.refl wr.heap.size wr).alloc (Nat.le_refl _) _).cell (p := ⟨w.heap.size, 1, none⟩) lqb |>.trans c1) (hvr.alloc _) (by omega)).mono ?_
        rintro x w3 ⟨rfl, hw3⟩
        subst hw3
        rw [HNX.out]
        go_wp2_with (at_builtin; refine wpList_append_own _ rfl (.tmp 25) (.tmp 27) 28 rfl w.heap.size 3 i1 (.int .i64 0) 1 8 Tryz.underlying28 HJ0.out HY0.out HY1.out HY2.out rfl (by decide) (.slice xa k xc) _ _ rfl ((hrow.alloc _).alloc _) ⟨wr.heap.size + 1, 0, none⟩ 1 1 [.int .i64 (n : Int)] rfl rfl (vone_new' _ _ _ _) (by intro u hu; simp at hu; subst hu; rfl) (by unfold maxLen; omega) (by omega) (by first | (simp; omega) | simp) ?_; intro v6 w6 hown6 hgrow6 _; obtain ⟨xa6, xc6, rfl⟩ := vown_form hown6; have FIN := P1.push (n := n) HP.out (((Below.refl _ _).alloc (Nat.le_refl _) _).alloc (by simp) _) hgrow6 hown6 (by rw [HLL.out]); have f0 : w6.cell? ⟨pb, 0, none⟩ = some (.slice xa k xc) := (by simp [World.cell?, FIN.2]); have f1 : w6.cell? ⟨pb, 1, none⟩ = some (.int .u8 OR) := (by simp [World.cell?, FIN.2]); have f2 : w6.frozen? ⟨pb, 0, none⟩ = false := (by simp [World.frozen?, FIN.2]); have f3 : w6.frozen? ⟨pb, 1, none⟩ = false := (by simp [World.frozen?, FIN.2]); have lp6 := vlt_of_block FIN.2)
        go_region
        all_goals go_wp2_with fail
        all_goals go_roundw
        all_goals first
          | (simp [intOf]; omega)
          | (refine ⟨k + 1, xa6, xc6, by omega, by go_num, ?_, ?_⟩
             · rw [← HOR.out, HTK.out]
               exact (FIN.1.drew).mark _
             · exact ((((((hb.alloc hws _).alloc (by simp; omega) _).grown hgrow6 (by simp; omega) (fun j hj => (hrow.lt j hj).1)).setCell (p := ⟨pb, 0, none⟩) (by show w.heap.size ≤ pb; omega) _).drew).setCell (p := ⟨pb, 1, none⟩) (by show w.heap.size ≤ pb; omega) _))
      · have hkl : k = c.hd.length := by omega
        have hlh : (K.hdN c).length = c.hd.length := by unfold K.hdN; simp
        have HTKE : Hid ((K.hdN c).take k = K.hdN c) := List.take_of_length_le (by omega)
        rw [HTKE.out] at hP
        subst hkl
        clear hlt hk hlh HTKE HIX HH6
        obtain ⟨ts, hts', hatr, htr⟩ := HQ.out.ats
        have hts : Hid (ts.length = c.ats.length) := hts'
        have HATR : Hid _ := hatr
        have HTR : Hid _ := htr
        clear hts' hatr htr
        obtain ⟨ORH, hORH⟩ : ∃ z, ((K.orN (K.hdN c) : Nat) : Int) = z := ⟨_, rfl⟩
        have HORH : Hid _ := hORH
        rw [hORH] at hP
        have q2 : wr.cell? ⟨w.heap.size, 2, none⟩ = some (.slice aa c.ats.length ac) := by simp [World.cell?, hP.q, ← HQE.out]
        have lq := vlt_of_block hP.q
        obtain ⟨i0, hi, hz0, hz1, hz2⟩ := info_parts Tryz.info156
        have HI0 : Hid _ := hi
        have HZ0 : Hid _ := hz0
        have HZ1 : Hid _ := hz1
        have HZ2 : Hid _ := hz2
        clear hi hz0 hz1 hz2
        obtain ⟨i2, hi, hz0, hz1, hz2⟩ := info_parts Tryz.info28
        have HK0 : Hid _ := hi
        have HX0 : Hid _ := hz0
        have HX1 : Hid _ := hz1
        have HX2 : Hid _ := hz2
        clear hi hz0 hz1 hz2 hORH
        obtain ⟨_, p2, _, p4⟩ := HOK.out.links
        have HP2 : Hid ((lkE (K.edg c)).length ≤ 6) := p2
        have HP4 : Hid (∀ i, i < (lkE (K.edg c)).length → ((lkE (K.edg c)).getD i (0, 0)).2 < 4) := fun i hi => by
          have := (p4 i hi).2
          have := HOK.out.n4
          show ((K.planOf c).lk.getD i (0, 0)).2 < 4
          omega
        have hmsl : (K.planOf c).ms.length = c.ats.length := by show (c.ats.map K.msk).length = _; simp
        have HDP : Hid (∀ k, k < c.ats.length → dpL 3 (lkE (K.edg c)) k 9 = true) := fun k hk => HOK.out.ears.deep HOK.out.n1 HOK.out.n4 (by rw [hmsl]; exact hk)
        clear p2 p4 hmsl
        go_wp2_with fail
        go_loopw [7, 8, 40] (fun _ _ kv wr => ∃ (k : Nat) (rv av wv : Value) (rvs : List Value) (own : Nat → Option Nat) (wvs : List Value), k ≤ c.ats.length ∧ kv = .int .i64 k ∧ P2 wr w.heap.size Q pb (.slice xa c.hd.length xc) (.int .u8 ORH) rv av (.slice la LN lc) wv (K.hdN c) LN LC (K.relsK c.ats k) rvs own ((tvals c.ats ts).take k) ((wkl (lkE (K.edg c)) c.ats.length).take k) wvs ∧ Below w.heap.size w wr) (fun _ _ kv _ => c.ats.length - (intOf kv).toNat)
        case atStart => exact ⟨0, _, _, _, _, _, _, Nat.zero_le _, rfl, P2.start hP, hb⟩
        case round =>
          clear hP hb q2 lq
          obtain ⟨k, rv, av, wv, rvs, own, wvs, hk, rfl, hP, hb⟩ := hrel
          have hws : w.heap.size ≤ wr.heap.size := hb.size
          by_cases hlt : k < c.ats.length
          · have hpl : ((tvals c.ats ts).take k).length = k := by rw [List.length_take, tvals_len hts.out]; omega
            have hwl : wvs.length = k := by rw [hP.wl, List.length_take]; simp [wkl]; omega
            have harow := hP.a
            rw [hpl] at harow
            obtain ⟨a2, c2, rfl⟩ := vown_form harow
            have hwrow := hP.k
            rw [hwl] at hwrow
            obtain ⟨a3, c3, rfl⟩ := vown_form hwrow
            obtain ⟨a4, c4, rfl⟩ := vown_form hP.r.row
            have hpr := vown_below HATR.out hb
            obtain ⟨g, cap', he⟩ := vown_some hpr (by omega)
            simp only [Value.slice.injEq, true_and] at he
            obtain ⟨rfl, rfl⟩ := he
            obtain ⟨y0, y1, y2⟩ := ccells_at2 c.ats ts hts.out k hlt
            have d0 := (hpr.cellAt (k * 3) (by omega)).trans y0
            have d1 := (hpr.cellAt (k * 3 + 1) (by omega)).trans y1
            have d2 := (hpr.cellAt (k * 3 + 2) (by omega)).trans y2
            have lg := World.block_lt_of_cell? _ _ d0
            have HTT : Hid _ := tvals_take hts.out k hlt
            have hgx : c.ats.getD k (K.x0 ByteArray.empty) = c.ats[k] := by rw [List.getD_eq_getElem?_getD, List.getElem?_eq_getElem hlt]; rfl
            have HRK : Hid (K.relsK c.ats (k + 1) = addR (K.relsK c.ats k) (c.ats[k]).rel (c.ats[k]).n k) := by unfold Hid; rw [K.relsK, hgx]
            have HRZ : Hid ((c.ats[k]).rel.size ≤ 281474976710656) := HRS.out _ (List.getElem_mem hlt)
            obtain ⟨XR, hXR⟩ : ∃ x, (c.ats[k]).rel = x := ⟨_, rfl⟩
            obtain ⟨XN, hXN⟩ : ∃ x, (c.ats[k]).n = x := ⟨_, rfl⟩
            obtain ⟨XS, hXS⟩ : ∃ x, (c.ats[k]).set = x := ⟨_, rfl⟩
            obtain ⟨TA, hTA⟩ : ∃ x, (ts[k]'(by have := hts.out; omega)).1 = x := ⟨_, rfl⟩
            obtain ⟨TC, hTC⟩ : ∃ x, (ts[k]'(by have := hts.out; omega)).2 = x := ⟨_, rfl⟩
            rw [hXR] at d0 HRK HRZ
            rw [hXN, hTA, hTC] at d1 HTT
            rw [hXN] at HRK
            rw [hXS] at d2
            have pc3 : wr.cell? ⟨pb, 3, none⟩ = some (.slice a2 k c2) := by simp [World.cell?, hP.p]
            have lpb := vlt_of_block hP.p
            have HP : Hid _ := hP
            have HAR : Hid _ := harow
            have HWL : Hid _ := hwl
            have HPL : Hid _ := hpl
            have hRl : Hid ((K.relsK c.ats k).length ≤ 100 ∧ ∀ r, r < (K.relsK c.ats k).length → (relD (K.relsK c.ats k) r).2.2.length ≤ 100) := ⟨by have := (K.relsK_in c.ats k).len; omega, fun r _ => by have := relsK_len c.ats k r; omega⟩
            obtain ⟨NR, hNR⟩ : ∃ x, (K.relsK c.ats k).length = x := ⟨_, rfl⟩
            have HNR : Hid _ := hNR
            rw [hNR] at HP
            clear hP y0 y1 y2 hpr hXR hXN hXS hTA hTC hgx hwl hpl hNR hwrow harow
            go_wp2_with (at_builtin; refine wpList_append_own _ rfl (.tmp 46) (.tmp 49) 79 rfl w.heap.size 156 i0 (.slice none 0 0) 1 24 Tryz.underlying79 HI0.out HZ0.out HZ1.out HZ2.out rfl (by decide) (.slice a2 k c2) k _ rfl (World.ownsRow.alloc (World.ownsRow.alloc HAR.out _) _) ⟨wr.heap.size + 1, 0, none⟩ 1 1 [.slice TA XN TC] rfl rfl (vone_new' _ _ _ _) (by intro u hu; simp at hu; subst hu; rfl) (by unfold maxLen; omega) (by omega) (by first | (simp; omega) | simp) ?_; intro v6 w6 hown6 hgrow6 _; obtain ⟨a6, c6, rfl⟩ := vown_form hown6; have FIN := P2.pat HP.out (((Below.refl _ _).alloc (Nat.le_refl _) _).alloc (by simp) _) hgrow6 hown6 (by rw [HPL.out]); have f3 : w6.cell? ⟨pb, 3, none⟩ = some (.slice a2 k c2) := (by simp [World.cell?, FIN.2]); have g3 : w6.frozen? ⟨pb, 3, none⟩ = false := (by simp [World.frozen?, FIN.2]); have ab : w6.heap[wr.heap.size]? = some (.cells #[.string XR, .slice TA XN TC, .int .u8 XS] 180 (0, 0)) := (hgrow6.block wr.heap.size (by simp; omega) (fun e => by have := (World.ownsRow.lt HAR.out _ e.symm).2; omega)).trans ((Below.heap_alloc _ _ _ (by simp)).trans (vheap_alloc_new wr _)); have b0 : w6.cell? ⟨wr.heap.size, 0, none⟩ = some (.string XR) := (by simp [World.cell?, ab]); have b1 : w6.cell? ⟨wr.heap.size, 1, none⟩ = some (.slice TA XN TC) := (by simp [World.cell?, ab]); have b2 : w6.cell? ⟨wr.heap.size, 2, none⟩ = some (.int .u8 XS) := (by simp [World.cell?, ab]); have lp6 := vlt_of_block FIN.2; have la6 := vlt_of_block ab)
            have hb7 : Below w.heap.size w (w6.setCell ⟨pb, 3, none⟩ (.slice a6 (k + 1) c6)) := ((((hb.alloc hws _).alloc (by simp; omega) _).grown hgrow6 (by simp; omega) (fun j hj => (World.ownsRow.lt HAR.out j hj).1)).setCell (p := ⟨pb, 3, none⟩) (by show w.heap.size ≤ pb; omega) _)
            have HP7 : Hid _ := FIN.1
            have HB7 : Hid _ := hb7
            clear hgrow6 hown6 FIN hb7 f3 g3 ab b0 b1 b2 d0 d1 d2 pc3 lg
            refine (addToRel_any pb w.heap.size _ _ (.slice a4 NR c4) (.slice a6 (k + 1) c6) _ (.slice a3 k c3) (K.relsK c.ats k) rvs own XR TA XN TC XS k _ HP7.out.p HP7.out.r HB7.out.size hRl.out.1 hRl.out.2 HRZ.out).mono ?_
            rintro x w8 ⟨rfl, rv8, rvs8, own8, hA, hown8⟩
            have hP8 := HP7.out.rel hA hown8
            have hb8 : Below w.heap.size w w8 := HB7.out.trans (hA.kp.below (fun j hj => by
              rcases hj with e | e | e
              · omega
              · exact (HP7.out.r.row.lt j e).1
              · cases hx : own j with
                | none => exact absurd hx e
                | some r => exact (HP7.out.r.tg j r hx).1) HB7.out.size)
            have c5 : w8.cell? ⟨pb, 5, none⟩ = some (.slice a3 k c3) := by simp [World.cell?, hP8.p]
            have c4' : w8.cell? ⟨pb, 4, none⟩ = some (.slice la LN lc) := by simp [World.cell?, hP8.p]
            have l8 := vlt_of_block hP8.p
            have hlr : w8.ownsRow w.heap.size 163 4 (.slice la LN lc) (lkE (K.edg c)).length (lkcells ms (lkE (K.edg c))) := by rw [HLN.out, HLC2.out]; exact hP8.l
            have HC := walk_step w.heap.size ms (lkE (K.edg c)) (.slice la LN lc) (.slice a3 k c3) pb k w8 hlr HP2.out HP4.out (HDP.out k hlt) c5 c4'
            have HWT : Hid _ := wkl_take (lkE (K.edg c)) c.ats.length k hlt
            obtain ⟨WL, hWL⟩ : ∃ l, wfL 4 (lkE (K.edg c)) k 9 = l := ⟨_, rfl⟩
            rw [hWL] at HC HWT
            have hwrow : w8.ownsRow w.heap.size 28 1 (.slice a3 k c3) k wvs := by have := hP8.k; rwa [HWL.out] at this
            have HWR : Hid _ := hwrow
            have HP8 : Hid _ := hP8
            have HB8 : Hid _ := hb8
            have HCC : Hid _ := HC
            clear hA hown8 hP8 hb8 hlr hWL hwrow HP7 HB7 HC lp6 la6
            go_upto_region 14 with fail
            go_region_law (first | (refine step_call rfl 90 #[.tmp 58, .tmp 59, .const (.int .i64 (-1))] #[80, 3, 3] rfl enter90 #[.slice la LN lc, .int .i64 k, .int .i64 (-1)] (by kernel_rfl) _ HCC.out ?_; rintro v9 w9 ⟨a9, c9, rfl, o9, b9, e5, e4, l9⟩) | (refine step_append_own rfl (.tmp 56) (.tmp 61) 81 rfl w.heap.size 28 i2 (.slice none 0 0) 1 24 Tryz.underlying81 HK0.out HX0.out HX1.out HX2.out rfl (by decide) (.slice a3 k c3) k wvs rfl (World.ownsRow.alloc (vown_below HWR.out b9) _) ⟨w9.heap.size, 0, none⟩ 1 1 [.slice a9 WL.length c9] rfl rfl (vone_new _ _ _) (by intro u hu; simp at hu; subst hu; rfl) (by unfold maxLen; omega) (by omega) (by have := b9.size; have := HB8.out.size; simp; omega) ?_; intro v10 w10 hown10 hgrow10; obtain ⟨a10, c10, rfl⟩ := vown_form hown10; have FIN2 := P2.walk HP8.out HB8.out.size b9 o9 rfl hgrow10 hown10 (by rw [HWL.out]); have h5 : w10.cell? ⟨pb, 5, none⟩ = some (.slice a3 k c3) := (by simp [World.cell?, FIN2.2]); have g5 : w10.frozen? ⟨pb, 5, none⟩ = false := (by simp [World.frozen?, FIN2.2])))
            all_goals go_wp2_with fail
            all_goals go_roundw
            all_goals first
              | (simp [intOf]; omega)
              | (refine ⟨k + 1, rv8, .slice a6 (k + 1) c6, .slice a10 (k + 1) c10, rvs8, own8, wvs ++ [.slice a9 WL.length c9], by omega, by go_num, ?_, ?_⟩
                 · rw [HRK.out, HTT.out, HWT.out]
                   exact FIN2.1
                 · exact ((((HB8.out.trans (b9.mono HB8.out.size)).alloc (by have := b9.size; have := HB8.out.size; omega) _).grown hgrow10 (by have := b9.size; have := HB8.out.size; simp; omega) (fun j hj => (World.ownsRow.lt HWR.out j hj).1)).setCell (p := ⟨pb, 5, none⟩) (by show w.heap.size ≤ pb; omega) _))
          · have hkl : k = c.ats.length := by omega
            have HT1 : Hid ((tvals c.ats ts).take k = tvals c.ats ts) := List.take_of_length_le (by rw [tvals_len hts.out]; omega)
            have HT2 : Hid ((wkl (lkE (K.edg c)) c.ats.length).take k = wkl (lkE (K.edg c)) c.ats.length) := List.take_of_length_le (by simp [wkl]; omega)
            rw [HT1.out, HT2.out] at hP
            subst hkl
            obtain ⟨a2, c2, hav⟩ := vown_form hP.a
            obtain ⟨a3, c3, hwv⟩ := vown_form hP.k
            obtain ⟨a4, c4, hrv⟩ := vown_form hP.r.row
            subst hav
            subst hwv
            subst hrv
            obtain ⟨N2, hN2⟩ : ∃ x, (tvals c.ats ts).length = x := ⟨_, rfl⟩
            obtain ⟨N3, hN3⟩ : ∃ x, wvs.length = x := ⟨_, rfl⟩
            obtain ⟨N4, hN4⟩ : ∃ x, (K.relsK c.ats c.ats.length).length = x := ⟨_, rfl⟩
            have HP : Hid _ := hP
            rw [hN2, hN3, hN4] at HP
            have k0 : wr.cell? ⟨pb, 0, none⟩ = some (.slice xa c.hd.length xc) := by simp [World.cell?, HP.out.p]
            have k1 : wr.cell? ⟨pb, 1, none⟩ = some (.int .u8 ORH) := by simp [World.cell?, HP.out.p]
            have k2 : wr.cell? ⟨pb, 2, none⟩ = some (.slice a4 N4 c4) := by simp [World.cell?, HP.out.p]
            have k3 : wr.cell? ⟨pb, 3, none⟩ = some (.slice a2 N2 c2) := by simp [World.cell?, HP.out.p]
            have k4 : wr.cell? ⟨pb, 4, none⟩ = some (.slice la LN lc) := by simp [World.cell?, HP.out.p]
            have k5 : wr.cell? ⟨pb, 5, none⟩ = some (.slice a3 N3 c3) := by simp [World.cell?, HP.out.p]
            obtain ⟨⟨z0, z1, z2, z3, z4, z5⟩, f0, f1, f2, f3, f4, f5⟩ := zp_cells HP.out.z
            clear hP hN2 hN3 hN4
            go_wp2_with fail
            refine bodyPost_ret (v := .agg #[.slice xa c.hd.length xc, .int .u8 ORH, .slice a4 N4 c4, .slice a2 N2 c2, .slice la LN lc, .slice a3 N3 c3]) (by simp [results, Tryz.results55, go_sem, z0, z1, z2, z3, z4, z5]) rfl ⟨_, _, _, _, _, _, rfl, ?_, ?_⟩
            · refine HP.out.done (w0 := w) (base := base) HII.out ?_ HORH.out hts.out HTR.out ?_ HLN.out (by rw [HMS.out]; exact HLC2.out)
              · refine Kp.trans ?_ (Kp.set (P := fun x => x = w.heap.size + 1) _ _ _ rfl) (fun _ _ q => q)
                refine Kp.trans ?_ (Kp.set (P := fun x => x = w.heap.size + 1) _ _ _ rfl) (fun _ _ q => q)
                refine Kp.trans ?_ (Kp.set (P := fun x => x = w.heap.size + 1) _ _ _ rfl) (fun _ _ q => q)
                refine Kp.trans ?_ (Kp.set (P := fun x => x = w.heap.size + 1) _ _ _ rfl) (fun _ _ q => q)
                refine Kp.trans ?_ (Kp.set (P := fun x => x = w.heap.size + 1) _ _ _ rfl) (fun _ _ q => q)
                exact Kp.set _ _ _ rfl
              · repeat (refine Below.setCell ?_ (by simp) _)
                exact hb
            · repeat (refine Below.setCell ?_ (by simp) _)
              exact hb
end Go.Proofs.YtondkinefmjpjaaGreat
