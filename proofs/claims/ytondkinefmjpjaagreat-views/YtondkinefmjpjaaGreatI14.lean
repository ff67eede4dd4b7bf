import Derived.Test.YtondkinefmjpjaaGreatI12
import Derived.Test.YtondkinefmjpjaaGreatI13
set_option maxHeartbeats 4000000
set_option maxRecDepth 100000
namespace Go.Proofs.YtondkinefmjpjaaGreat.K
open Go.RowKit
def FR (b base:Nat):Nat -> Option Obj -> Prop:=fun k o => k = b ∨ (base <= k /\ (tag o = 9 ∨ tag o = 180 ∨ tag o = 205))
def x0 (rel:ByteArray):CA:=⟨rel,0,0,[]⟩
def ra3 (s:ByteArray) (c:CS):CS:={ c with p:=pnext s c.p }
def raT (s:ByteArray) (c:CS):TR:=ltR s 4 (cw s (ra3 s c) 5).p c.vars (cw s (ra3 s c) 5).e (cw s (ra3 s c) 5).a (x0 c.p.t)
def raC3 (s:ByteArray) (c:CS):CS:={ c with p:=(raT s c).p,vars:=(raT s c).vars,e:=(raT s c).e,a:=(raT s c).a }
def raR (s:ByteArray) (c:CS):Bool × CS :=
 if tk c.p 3 then
  if c.ats.length = 4 then (false,{ ra3 s c with e:=3,a:=c.p.a })
  else if tk (ra3 s c).p 5 then
   if (raT s c).ok then
    if tk (raT s c).p 6 then
     if 0 <= oixOf c.ats (raT s c).x.rel (raT s c).x.n then (false,{ cw s (raC3 s c) 6 with e:=6,a:=c.p.a })
     else (true,{ cw s (raC3 s c) 6 with ats:=c.ats ++ [(raT s c).x] })
    else (false,cw s (raC3 s c) 6)
   else (false,raC3 s c)
  else (false,cw s (ra3 s c) 5)
 else (false,cw s c 3)
theorem Tryz.info180:(Tryz.prog.info? 180).map (fun i => (i.zero,i.size,i.bytes)) = some (some (.agg #[.string ⟨#[]⟩,.slice none 0 0,.int .u8 0]),3,48):=by kernel_rfl
theorem ats_appended {w w1 w2:World} {b base:Nat} {s:ByteArray} {c:CS} {hv vv av av':Value} {q:CA} {ts:List (Option Addr × Nat)} {qt:Option Addr × Nat} (h1:Cdr w b s c.p hv vv av c.e c.a) (h2:w.ownsRow base 169 3 hv c.hd.length (pcells c.hd)) (h3:w.ownsRow base 9 1 vv c.vars.length (strs c.vars)) (hts:ts.length = c.ats.length) (h4:w.ownsRow base 180 3 av c.ats.length (ccells c.ats ts)) (h5:TRow w base c.ats ts) (h6:w.ownsRow base 205 2 (.slice qt.1 q.n qt.2) q.n (kcells q.tm))
  (hk:Kept (fun _ => False) w w1) (hg:w1.grownBy w2 av.ownBlock) (ho:w2.ownsRow base 180 3 av' (c.ats.length + 1) (ccells c.ats ts ++ [.string q.rel,.slice qt.1 q.n qt.2,.int .u8 q.set])) :
  (CSt (w2.setCell ⟨b,6,none⟩ av') b base s { c with ats:=c.ats ++ [q] } /\ Keeps (FR b base) w (w2.setCell ⟨b,6,none⟩ av')) /\ w2.cell? ⟨b,6,none⟩ = some av /\ w2.frozen? ⟨b,6,none⟩ = false:=by
 have hbl:∀ k,av.ownBlock = some k -> base <= k /\ tag w.heap[k]? = 180:=fun k hk => ⟨(own_tag h4 hk).1,(own_tag h4 hk).2.2⟩
 have k1:Keeps (fun k _ => av.ownBlock = some k) w w2:=(Keeps.of hk (fun _ _ x => x.elim)).trans (Keeps.grown (Keeps.refl _ _) hg (fun k hk => hk))
 have k2:Keeps (fun k _ => k = b) w2 (w2.setCell ⟨b,6,none⟩ av'):=(Keeps.refl _ _).setCell _ (fun _ => rfl) _
 have nb:av.ownBlock ≠ some b:=fun e => by have:=(hbl _ e).2;rw [h1.tg] at this;simp at this
 have e2:w2.heap[b]? = some (cdBlk s c.p hv vv av c.e c.a):=(k1.block b h1.lt nb).trans h1.blk
 have t2:tag w2.heap[b]? = 172:=by rw [e2];rfl
 have row:∀ {v:Value} {bb n z t:Nat} {ys:List Value},t ≠ 172 -> w2.ownsRow bb t z v n ys -> (w2.setCell ⟨b,6,none⟩ av').ownsRow bb t z v n ys:=fun ht hx => own_keeps hx k2 (fun k _ _ h9 _ e => by rw [show k = b from e,t2] at h9;exact ht h9.symm)
 refine ⟨⟨⟨hv,vv,av',⟨?_⟩,row (by decide) (own_keeps h2 k1 (fun k _ _ h9 _ e => by have:=(hbl k e).2;rw [h9] at this;simp at this)),row (by decide) (own_keeps h3 k1 (fun k _ _ h9 _ e => by have:=(hbl k e).2;rw [h9] at this;simp at this)),ts ++ [qt],by simp [hts],?_,?_⟩,?_⟩,by simp [World.cell?,e2,cdBlk],by simp [World.frozen?,e2,cdBlk]⟩
 ·rw [blk_setCell e2 6 av'];simp [cdBlk,Array.setIfInBounds]
 ·rw [ccells_snoc _ _ _ _ hts,List.length_append];exact row (by decide) ho
 ·have q1:∀ {v:Value} {n:Nat} {ys:List Value},w.ownsRow base 205 2 v n ys -> (w2.setCell ⟨b,6,none⟩ av').ownsRow base 205 2 v n ys:=fun hx => row (by decide) (own_keeps hx k1 (fun k _ _ h9 _ e => by have:=(hbl k e).2;rw [h9] at this;simp at this))
  exact TRow.snoc (fun x hx => q1 (h5 x hx)) hts (q1 h6)
 ·exact (k1.mono_at (fun k hk => Or.inr ⟨(hbl k hk).1,Or.inr (Or.inl (hbl k hk).2)⟩)).trans (k2.mono (fun _ _ x => Or.inl x))
theorem ltR_ok (s:ByteArray) (n:Nat) {p:Est.Pc} {vars:List ByteArray} {e a:Nat} {x:CA} (hok:OkC s p) (hl:vars.length <= 6):OkC s (ltR s n p vars e a x).p /\ (ltR s n p vars e a x).vars.length <= 6:=by
 induction n generalizing p vars e a x with
 | zero => exact ⟨hok,hl⟩
 | succ n ih =>
  obtain ⟨t1,t2,_⟩:=trR_ok (e:=e) (a:=a) (x:=x) hok hl
  unfold ltR
  split
  ·split
   ·exact ih (t1.tp 7) t2
   ·exact ⟨t1,t2⟩
  ·exact ⟨t1,t2⟩
theorem row_kept {w w':World} {b:Nat} {s:ByteArray} {p:Est.Pc} {hv vv av:Value} {e a:Nat} (h1:Cdr w b s p hv vv av e a) (k:Kept (· = b) w w') {base t z n:Nat} {v:Value} {xs:List Value} (ht:t ≠ 172) (hx:w.ownsRow base t z v n xs):w'.ownsRow base t z v n xs :=
 own_keeps hx (Keeps.of (F:=fun j _ => j = b) k (fun _ _ x => x)) (fun j _ _ h9 _ e => by rw [show j = b from e,h1.tg] at h9;exact ht h9.symm)
theorem cw_mk (s:ByteArray) (c:CS) (k:Nat) {w:World} {b base:Nat} {hv vv av:Value} (h1:Cdr w b s (tp s c.p k) hv vv av (if tk c.p k then c.e else 2) (if tk c.p k then c.a else c.p.a)) (h2:w.ownsRow base 169 3 hv c.hd.length (pcells c.hd)) (h3:w.ownsRow base 9 1 vv c.vars.length (strs c.vars)) (h4:AR w base av c.ats):CSt w b base s (cw s c k) :=
 ⟨hv,vv,av,h1,h2,h3,h4⟩
theorem readAtom_any (b base:Nat) (s:ByteArray) (c:CS) (w:World) (h:CSt w b base s c) (hs:s.size <= maxLen) (hok:OkC s c.p) (hl:c.vars.length <= 6) (hla:c.ats.length <= 100) (hB:base <= w.heap.size) :
  Calls Tryz.prog 158 #[.pointer (some ⟨b,0,none⟩)] w fun y w' => y = .returned (.bool (raR s c).1) /\ CSt w' b base s (raR s c).2 /\ Keeps (FR b base) w w':=by
 obtain ⟨R,hR⟩:∃ R,raR s c = R:=⟨_,rfl⟩
 have HR:Hid (raR s c = R):=hR
 rw [hR]
 clear hR
 obtain ⟨hv,vv,av,h1,h2,h3,h4⟩:=h.ex
 have c1:=h1.c1
 have c2:=h1.c2
 have c3:=h1.c3
 have lb:=h1.lt
 have ha:=h.alloc (.cells #[.int .i64 c.p.k,.string c.p.t,.int .i64 c.p.a] 169)
 cases hk:tk c.p 3
 ·have HF:Hid (R = (false,cw s c 3)):=by unfold Hid;rw [← HR.out,raR,hk];rfl
  go_enter Tryz.func158,Tryz.ntmps158
  go_wp2_with fail
  refine (cwant b base s c 3 3 _ ha rfl hs hok).mono ?_
  rintro x w1 ⟨rfl,hc1,k1⟩
  rw [hk]
  clear hk
  go_wp2
  go_ret
  exact ⟨ret_bool (by rw [HF.out]),by rw [HF.out];exact hc1,((Keeps.refl _ _).alloc _).trans (Keeps.of k1 (fun _ _ x => Or.inl x))⟩
 ·have HK:Hid (tk c.p 3 = true):=hk
  have HW:Hid (cw s c 3 = ra3 s c):=by unfold Hid cw ra3;rw [hk,tp_yes hk];rfl
  go_enter Tryz.func158,Tryz.ntmps158
  go_wp2_with fail
  refine (cwant b base s c 3 3 _ ha rfl hs hok).mono ?_
  rintro x w1 ⟨rfl,hc1,k1⟩
  rw [HW.out] at hc1
  rw [hk]
  clear hk
  have bl1:w1.heap[w.heap.size]? = some (.cells #[.int .i64 c.p.k,.string c.p.t,.int .i64 c.p.a] 169 (0,0)):=(k1.block w.heap.size (by simp) (show ¬ w.heap.size = b by omega)).trans (heap_alloc_new _ _)
  have hK1:Keeps (FR b base) w w1:=((Keeps.refl _ _).alloc _).trans (Keeps.of k1 (fun _ _ x => Or.inl x))
  have v1:w1.cell? ⟨w.heap.size,1,none⟩ = some (.string c.p.t):=by simp [World.cell?,bl1]
  have v2:w1.cell? ⟨w.heap.size,2,none⟩ = some (.int .i64 c.p.a):=by simp [World.cell?,bl1]
  have lv:w.heap.size < w1.heap.size:=lt_of_block bl1
  clear ha k1 h1 h2 h3 h4 c1 c2 c3 h
  obtain ⟨hv1,vv1,av1,g1,g2,g3,g4⟩:=hc1.ex
  obtain ⟨ts,hts',g4',g5'⟩:=(show AR w1 base av1 c.ats from g4)
  have hts:Hid (ts.length = c.ats.length):=hts'
  clear hts'
  have d6:=g1.c6
  have lb1:=g1.lt
  have hB1:base <= w1.heap.size:=Nat.le_trans hB hK1.size
  obtain ⟨aa,acap,hav⟩:=own_form g4'
  subst hav
  have hok3:OkC s (ra3 s c).p:=hok.next
  by_cases hf:c.ats.length = 4
  ·have HF:Hid (R = (false,{ ra3 s c with e:=3,a:=c.p.a })):=by unfold Hid;rw [← HR.out,raR,HK.out,if_pos rfl,if_pos hf]
   have hf':((c.ats.length:Int) == 4) = true:=by rw [hf];rfl
   clear hf
   go_wp2_with fail
   refine (cfail b base s _ 3 3 c.p.a _ hc1 rfl).mono ?_
   rintro x w2 ⟨rfl,hc2,k2⟩
   go_wp2
   go_ret
   exact ⟨ret_bool (by rw [HF.out]),by rw [HF.out];exact hc2,hK1.trans (Keeps.of k2 (fun _ _ x => Or.inl x))⟩
  ·have HFF:Hid (¬ c.ats.length = 4):=hf
   have hf':((c.ats.length:Int) == 4) = false:=beq_eq_false_iff_ne.2 (by omega)
   clear hf
   have hbA:Below w1.heap.size w1 (w1.alloc (.cells #[.string c.p.t,.slice none 0 0,.int .u8 0] 180)):=(Below.refl _ _).alloc (Nat.le_refl _) _
   have g1a:Cdr (w1.alloc (.cells #[.string c.p.t,.slice none 0 0,.int .u8 0] 180)) b s (ra3 s c).p hv1 vv1 (.slice aa c.ats.length acap) c.e c.a:=⟨(hbA.block b lb1).trans g1.blk⟩
   have avlt:∀ k,Value.ownBlock (.slice aa c.ats.length acap) = some k -> k < w1.heap.size:=fun k hk => (g4'.lt k hk).2
   have AVLT:Hid (∀ k,Value.ownBlock (.slice aa c.ats.length acap) = some k -> k < w1.heap.size):=avlt
   clear avlt
   go_wp2_with fail
   refine (want_at b s (ra3 s c).p hv1 vv1 (.slice aa c.ats.length acap) c.e c.a 5 5 _ g1a rfl hs hok3).mono ?_
   rintro x w2 ⟨rfl,q1,k2⟩
   have q2:=row_kept g1a k2 (by decide) (own_below' g2 hbA)
   have q3:=row_kept g1a k2 (by decide) (own_below' g3 hbA)
   have q4:=row_kept g1a k2 (by decide) (own_below' g4' hbA)
   have q5:TRow w2 base c.ats ts:=fun x hx => row_kept g1a k2 (by decide) (own_below' (g5' x hx) hbA)
   have q6:Hid (∀ x,x ∈ c.ats.zip ts -> ∀ k,Value.ownBlock (.slice x.2.1 x.1.n x.2.2) = some k -> k < w1.heap.size):=fun x hx k hk => ((g5' x hx).lt k hk).2
   have hc2:CSt w2 b base s (cw s (ra3 s c) 5):=cw_mk s (ra3 s c) 5 q1 q2 q3 ⟨ts,hts.out,q4,q5⟩
   have bl2:w2.heap[w1.heap.size]? = some (.cells #[.string c.p.t,.slice none 0 0,.int .u8 0] 180 (0,0)):=(k2.block w1.heap.size (by simp) (show ¬ w1.heap.size = b by omega)).trans (heap_alloc_new _ _)
   have blv:w2.heap[w.heap.size]? = some (.cells #[.int .i64 c.p.k,.string c.p.t,.int .i64 c.p.a] 169 (0,0)):=(k2.block w.heap.size (by simp;omega) (show ¬ w.heap.size = b by omega)).trans ((Below.heap_alloc _ _ _ lv).trans bl1)
   have hK2:Keeps (FR b base) w w2:=(hK1.alloc _).trans (Keeps.of k2 (fun _ _ x => Or.inl x))
   have hok5:OkC s (cw s (ra3 s c) 5).p:=hok3.tp 5
   have lAB:w1.heap.size < w2.heap.size:=lt_of_block bl2
   clear g1 g2 g3 g4 g4' g5' g1a hbA hc1 v1 v2 d6 bl1 k2
   cases hk5:tk (ra3 s c).p 5
   ·have HF:Hid (R = (false,cw s (ra3 s c) 5)):=by unfold Hid;rw [← HR.out,raR,HK.out,if_pos rfl,if_neg HFF.out,hk5];rfl
    clear hk5
    go_wp2_with fail
    go_ret
    exact ⟨ret_bool (by rw [HF.out]),by rw [HF.out];exact hc2,hK2⟩
   ·have HK5:Hid (tk (ra3 s c).p 5 = true):=hk5
    clear hk5
    obtain ⟨AB,hAB⟩:∃ AB,w1.heap.size = AB:=⟨_,rfl⟩
    have T0:TSt w2 b base w1.heap.size s (cw s (ra3 s c) 5).p c.vars hv1 (.slice aa c.ats.length acap) (cw s (ra3 s c) 5).e (cw s (ra3 s c) 5).a (x0 c.p.t):=⟨⟨vv1,q1,q3⟩,⟨none,0,bl2,World.ownsRow_nil _ _ _ _⟩,hB1⟩
    have hB2:base <= w2.heap.size:=Nat.le_trans hB hK2.size
    clear hAB AB
    go_wp2_with fail
    refine (readTerms_any b base w1.heap.size s (cw s (ra3 s c) 5).p c.vars hv1 (.slice aa c.ats.length acap) (cw s (ra3 s c) 5).e (cw s (ra3 s c) 5).a (x0 c.p.t) _ T0 hs hok5 hl hB2 (by simp [x0])).mono ?_
    rintro x w3 ⟨rfl,hT,k3⟩
    change TSt w3 b base w1.heap.size s (raT s c).p (raT s c).vars hv1 (.slice aa c.ats.length acap) (raT s c).e (raT s c).a (raT s c).x at hT
    have HTT:Hid (ltR s (4 - (x0 c.p.t).n) (cw s (ra3 s c) 5).p c.vars (cw s (ra3 s c) 5).e (cw s (ra3 s c) 5).a (x0 c.p.t) = raT s c):=rfl
    rw [HTT.out]
    have hokT:OkC s (raT s c).p:=(ltR_ok s 4 hok5 hl).1
    have ntag:∀ j n,n ≠ 172 -> n ≠ 180 -> n ≠ 9 -> n ≠ 205 -> tag w2.heap[j]? = n -> ¬ FT b w1.heap.size base j w2.heap[j]?:=by
     rintro j n h60 h93 h9 h112 ht (e | e | ⟨_,e | ⟨e,_⟩⟩)
     ·rw [e,q1.tg] at ht;exact h60 ht.symm
     ·rw [e,bl2] at ht;exact h93 ht.symm
     ·rw [e] at ht;exact h9 ht.symm
     ·rw [e] at ht;exact h112 ht.symm
    have r2:=own_keeps q2 k3 (fun j _ _ h9 _ => ntag j 169 (by decide) (by decide) (by decide) (by decide) h9)
    have r4:w3.ownsRow base 180 3 (.slice aa c.ats.length acap) c.ats.length (ccells c.ats ts):=own_keeps q4 k3 (fun j _ _ h9 hj => by
     rintro (e | e | ⟨_,e | ⟨e,_⟩⟩)
     ·rw [e,q1.tg] at h9;simp at h9
     ·have:=AVLT.out j hj;omega
     ·rw [e] at h9;simp at h9
     ·rw [e] at h9;simp at h9)
    have r5:TRow w3 base c.ats ts:=fun x hx => own_keeps (q5 x hx) k3 (fun j _ _ h9 hj => by
     have hlt:=q6.out x hx j hj
     rintro (e | e | ⟨_,e | ⟨_,e⟩⟩)
     ·rw [e,q1.tg] at h9;simp at h9
     ·omega
     ·rw [e] at h9;simp at h9
     ·omega)
    have blv3:w3.heap[w.heap.size]? = some (.cells #[.int .i64 c.p.k,.string c.p.t,.int .i64 c.p.a] 169 (0,0)):=(k3.block w.heap.size (lt_of_block blv) (ntag w.heap.size 169 (by decide) (by decide) (by decide) (by decide) (by rw [blv];rfl))).trans blv
    have hK3:Keeps (FR b base) w w3:=by
     refine ⟨k3.os.trans hK2.os,k3.tape.trans hK2.tape,k3.output.trans hK2.output,Nat.le_trans hK2.size k3.size,fun j hj hF => ?_⟩
     have e2:=hK2.block j hj hF
     refine (k3.block j (Nat.lt_of_lt_of_le hj hK2.size) ?_).trans e2
     rw [e2]
     rintro (e | e | ⟨e1,e | ⟨e,_⟩⟩)
     ·exact hF (Or.inl e)
     ·omega
     ·exact hF (Or.inr ⟨e1,Or.inl e⟩)
     ·exact hF (Or.inr ⟨e1,Or.inr (Or.inr e)⟩)
    obtain ⟨vv3,r1,r3⟩:=hT.ex
    have hc3:CSt w3 b base s (raC3 s c):=⟨hv1,vv3,_,r1,r2,r3,ts,hts.out,r4,r5⟩
    have lAB3:w1.heap.size < w3.heap.size:=hT.ltA
    obtain ⟨xa,xc,abT,tmT'⟩:=hT.at_
    have tmT:w3.ownsRow base 205 2 (.slice xa (raT s c).x.n xc) (raT s c).x.n (kcells (raT s c).x.tm):=tmT'.mono hT.le
    clear q1 q2 q3 q4 q5 q6 tmT' hc2 T0 k3 ntag bl2 blv hK2 hB2
    cases hTo:(raT s c).ok
    ·have HF:Hid (R = (false,raC3 s c)):=by unfold Hid;rw [← HR.out,raR,HK.out,if_pos rfl,if_neg HFF.out,HK5.out,if_pos rfl,hTo];rfl
     clear hTo
     go_wp2_with fail
     go_ret
     exact ⟨ret_bool (by rw [HF.out]),by rw [HF.out];exact hc3,hK3⟩
    ·have HTO:Hid ((raT s c).ok = true):=hTo
     clear hTo
     go_wp2_with fail
     refine (want_at b s (raT s c).p hv1 vv3 (.slice aa c.ats.length acap) (raT s c).e (raT s c).a 6 6 _ r1 rfl hs hokT).mono ?_
     rintro x w4 ⟨rfl,s1,k4⟩
     have s2:=row_kept r1 k4 (by decide) r2
     have s3:=row_kept r1 k4 (by decide) r3
     have s4:=row_kept r1 k4 (by decide) r4
     have s5:TRow w4 base c.ats ts:=fun x hx => row_kept r1 k4 (by decide) (r5 x hx)
     have s6:=row_kept r1 k4 (by decide) tmT
     have hc4:CSt w4 b base s (cw s (raC3 s c) 6):=cw_mk s (raC3 s c) 6 s1 s2 s3 ⟨ts,hts.out,s4,s5⟩
     have ab4:=(k4.block w1.heap.size lAB3 hT.ne).trans abT
     have blv4:=(k4.block w.heap.size (lt_of_block blv3) (show ¬ w.heap.size = b by omega)).trans blv3
     have hK4:Keeps (FR b base) w w4:=hK3.trans (Keeps.of k4 (fun _ _ x => Or.inl x))
     clear r1 r2 r3 r4 r5 tmT hc3 hT blv3 hK3 k4 abT lAB3
     cases hk6:tk (raT s c).p 6
     ·have HF:Hid (R = (false,cw s (raC3 s c) 6)):=by unfold Hid;rw [← HR.out,raR,HK.out,if_pos rfl,if_neg HFF.out,HK5.out,if_pos rfl,HTO.out,if_pos rfl,hk6];rfl
      clear hk6
      go_wp2_with fail
      go_ret
      exact ⟨ret_bool (by rw [HF.out]),by rw [HF.out];exact hc4,hK4⟩
     ·have HK6:Hid (tk (raT s c).p 6 = true):=hk6
      clear hk6
      have a0:w4.cell? ⟨w1.heap.size,0,none⟩ = some (.string (raT s c).x.rel):=by simp [World.cell?,ab4]
      have a1:w4.cell? ⟨w1.heap.size,1,none⟩ = some (.slice xa (raT s c).x.n xc):=by simp [World.cell?,ab4]
      have a2:w4.cell? ⟨w1.heap.size,2,none⟩ = some (.int .u8 (raT s c).x.set):=by simp [World.cell?,ab4]
      have d6:=s1.c6
      go_upto_region 9 with fail
      go_cut [43] (fun y wx => y = .bool (decide (0 <= oixOf c.ats (raT s c).x.rel (raT s c).x.n)) /\ Below w4.heap.size w4 wx)
      case first =>
       go_region_with (go_at_call 175;refine (otherShape_any b base c.ats (.slice aa c.ats.length acap) (raT s c).x xa xc _ (by exact d6) ⟨ts,hts.out,(by exact (own_keeps s4 (F:=fun _ _ => False) (Keeps.refl _ _).drew (fun _ _ _ _ _ x => x))),(by exact (s5.keeps (F:=fun _ _ => False) (Keeps.refl _ _).drew (fun _ _ _ _ x => x)))⟩ (by omega)).mono ?_;rintro x w5 ⟨rfl,hb5⟩)
       all_goals (go_wp2;go_meet)
       all_goals exact ⟨rfl,⟨hb5.os,hb5.tape,hb5.output,hb5.size,hb5.block⟩⟩
      case rest =>
       obtain ⟨rfl,hb5⟩:=hcut
       obtain ⟨w5,hw5⟩:∃ w5:World,w5 = wc:=⟨_,rfl⟩
       subst hw5
       have hc5:=hc4.below hb5
       have u1:Cdr w5 b s (cw s (raC3 s c) 6).p hv1 vv3 (.slice aa c.ats.length acap) (cw s (raC3 s c) 6).e (cw s (raC3 s c) 6).a:=⟨(hb5.block b s1.lt).trans s1.blk⟩
       have u2:=own_below' s2 hb5
       have u3:=own_below' s3 hb5
       have u4:=own_below' s4 hb5
       have u5:=s5.below hb5
       have u6:=own_below' s6 hb5
       have ab5:=(hb5.block w1.heap.size (lt_of_block ab4)).trans ab4
       have blv5:=(hb5.block w.heap.size (lt_of_block blv4)).trans blv4
       have hK5:Keeps (FR b base) w w5:=hK4.below hb5
       have v2:w5.cell? ⟨w.heap.size,2,none⟩ = some (.int .i64 c.p.a):=by simp [World.cell?,blv5]
       have z0:w5.cell? ⟨w1.heap.size,0,none⟩ = some (.string (raT s c).x.rel):=by simp [World.cell?,ab5]
       have z1:w5.cell? ⟨w1.heap.size,1,none⟩ = some (.slice xa (raT s c).x.n xc):=by simp [World.cell?,ab5]
       have z2:w5.cell? ⟨w1.heap.size,2,none⟩ = some (.int .u8 (raT s c).x.set):=by simp [World.cell?,ab5]
       have y6:=u1.c6
       have l5:=u1.lt
       have lA5:w1.heap.size < w5.heap.size:=lt_of_block ab5
       have hB5:base <= w5.heap.size:=Nat.le_trans hB hK5.size
       clear hc4 s1 s2 s3 s4 s5 s6 ab4 blv4 hK4 a0 a1 a2 d6 hb5
       cases hx:decide (0 <= oixOf c.ats (raT s c).x.rel (raT s c).x.n)
       ·have HF:Hid (R = (true,{ cw s (raC3 s c) 6 with ats:=c.ats ++ [(raT s c).x] })):=by
         unfold Hid;rw [← HR.out,raR,HK.out,if_pos rfl,if_neg HFF.out,HK5.out,if_pos rfl,HTO.out,if_pos rfl,HK6.out,if_pos rfl,if_neg (of_decide_eq_false hx)]
        clear hx
        obtain ⟨i0,hi,hz0,hz1,hz2⟩:=info_parts Tryz.info180
        have HI:Hid _:=hi
        have HZ0:Hid _:=hz0
        have HZ1:Hid _:=hz1
        have HZ2:Hid _:=hz2
        clear hi hz0 hz1 hz2
        go_wp2_with fail
        go_region_law (refine step_append_own rfl (.tmp 53) (.tmp 55) 118 rfl base 180 i0 (.agg #[.string ⟨#[]⟩,.slice none 0 0,.int .u8 0]) 3 48 Tryz.underlying118 HI.out HZ0.out HZ1.out HZ2.out rfl (by decide) (.slice aa c.ats.length acap) _ _ rfl (by exact (u4.alloc _)) ⟨w5.heap.size,0,none⟩ 1 1 [.string (raT s c).x.rel,.slice xa (raT s c).x.n xc,.int .u8 (raT s c).x.set] rfl rfl (three_new _ _ _ _ _) (by intro u hu;simp at hu;rcases hu with rfl | rfl | rfl <;> rfl) (by unfold maxLen;omega) (by omega) (by simp;omega) ?_;intro v' w6 hown6 hgrow6;obtain ⟨va6,cap6,rfl⟩:=own_form hown6;have FIN:=ats_appended (c:=cw s (raC3 s c) 6) (q:=(raT s c).x) (qt:=(xa,xc)) (ts:=ts) u1 u2 u3 hts.out u4 u5 u6 (by exact ((Kept.refl (fun _ => False) w5).alloc _).drew) hgrow6 hown6;have e2:=FIN.2.1;have e3:=FIN.2.2)
        all_goals go_wp2
        all_goals go_ret
        all_goals exact ⟨ret_bool (by rw [HF.out]),by rw [HF.out];exact FIN.1.1,hK5.trans FIN.1.2⟩
       ·have HF:Hid (R = (false,{ cw s (raC3 s c) 6 with e:=6,a:=c.p.a })):=by
         unfold Hid;rw [← HR.out,raR,HK.out,if_pos rfl,if_neg HFF.out,HK5.out,if_pos rfl,HTO.out,if_pos rfl,HK6.out,if_pos rfl,if_pos (of_decide_eq_true hx)]
        clear hx
        go_wp2_with fail
        refine (cfail b base s _ 6 6 c.p.a _ hc5 rfl).mono ?_
        rintro x w6 ⟨rfl,hc6,k6⟩
        go_wp2
        go_ret
        exact ⟨ret_bool (by rw [HF.out]),by rw [HF.out];exact hc6,hK5.trans (Keeps.of k6 (fun _ _ x => Or.inl x))⟩
theorem raR_ok {s:ByteArray} {c:CS} (hok:OkC s c.p) (hl:c.vars.length <= 6):OkC s (raR s c).2.p /\ (raR s c).2.vars.length <= 6 /\ ((raR s c).1 = true -> (raR s c).2.ats.length = c.ats.length + 1 /\ c.ats.length ≠ 4):=by
 have h3:OkC s (ra3 s c).p:=hok.next
 have h5:OkC s (cw s (ra3 s c) 5).p:=h3.tp 5
 have hT:=ltR_ok (e:=(cw s (ra3 s c) 5).e) (a:=(cw s (ra3 s c) 5).a) (x:=x0 c.p.t) s 4 h5 hl
 unfold raR
 split
 ·split
  ·exact ⟨h3,hl,fun h => by cases h⟩
  ·rename_i h4
   split
   ·split
    ·split
     ·split
      ·exact ⟨hT.1.tp 6,hT.2,fun h => by cases h⟩
      ·exact ⟨hT.1.tp 6,hT.2,fun _ => ⟨by simp,h4⟩⟩
     ·exact ⟨hT.1.tp 6,hT.2,fun h => by cases h⟩
    ·exact ⟨hT.1,hT.2,fun h => by cases h⟩
   ·exact ⟨h5,hl,fun h => by cases h⟩
 ·exact ⟨hok.tp 3,hl,fun h => by cases h⟩
def la (s:ByteArray):Nat -> CS -> Bool × CS
 | 0,c => (false,c)
 | n + 1,c => if (raR s c).1 then (if tk (raR s c).2.p 7 then la s n { (raR s c).2 with p:=tp s (raR s c).2.p 7 } else (true,(raR s c).2)) else (false,(raR s c).2)
theorem la_ok (s:ByteArray) (n:Nat) {c:CS} (hok:OkC s c.p) (hl:c.vars.length <= 6):OkC s (la s n c).2.p /\ (la s n c).2.vars.length <= 6:=by
 induction n generalizing c with
 | zero => exact ⟨hok,hl⟩
 | succ n ih =>
  obtain ⟨t1,t2,_⟩:=raR_ok hok hl
  unfold la
  split
  ·split
   ·exact ih (c:={ (raR s c).2 with p:=tp s (raR s c).2.p 7 }) (t1.tp 7) t2
   ·exact ⟨t1,t2⟩
  ·exact ⟨t1,t2⟩
theorem slen_ats {w:World} {b base:Nat} {s:ByteArray} {c:CS} (h:CSt w b base s c):slen (w.cell? ⟨b,6,none⟩) = c.ats.length:=by
 obtain ⟨hv,vv,av,h1,_,_,h4⟩:=h.ex
 obtain ⟨a,cap,rfl⟩:=AR.form h4
 rw [h1.c6];rfl
theorem readList_atoms (b base:Nat) (s:ByteArray) (c:CS) (w:World) (h:CSt w b base s c) (hs:s.size <= maxLen) (hok:OkC s c.p) (hl:c.vars.length <= 6) (hla:c.ats.length <= 4) (hB:base <= w.heap.size) :
  Calls Tryz.prog 155 #[.pointer (some ⟨b,0,none⟩),.func (.func 158) #[.pointer (some ⟨b,0,none⟩)] #[]] w fun x w' => x = .returned (.bool (la s (5 - c.ats.length) c).1) /\ CSt w' b base s (la s (5 - c.ats.length) c).2 /\ Keeps (FR b base) w w':=by
 obtain ⟨R,hR⟩:∃ R,la s (5 - c.ats.length) c = R:=⟨_,rfl⟩
 have HR:Hid (la s (5 - c.ats.length) c = R):=hR
 rw [hR]
 clear hR
 go_enter Tryz.func155,Tryz.ntmps155
 go_wp2_with fail
 go_loopw [] (fun wr => ∃ c',CSt wr b base s c' /\ OkC s c'.p /\ c'.vars.length <= 6 /\ c'.ats.length <= 4 /\ Keeps (FR b base) w wr /\ la s (5 - c'.ats.length) c' = R) (fun wr => 5 - slen (wr.cell? ⟨b,6,none⟩))
 case atStart => exact ⟨c,h,hok,hl,hla,Keeps.refl _ _,HR.out⟩
 case round =>
  obtain ⟨c1,h1,hok1,hl1,hla1,hk1,he1⟩:=hrel
  have HE:Hid (la s (5 - c1.ats.length) c1 = R):=he1
  have HM:Hid (slen (wr.cell? ⟨b,6,none⟩) = c1.ats.length):=slen_ats h1
  clear he1
  have hB1:base <= wr.heap.size:=Nat.le_trans hB hk1.size
  go_wp2_with fail
  refine (readAtom_any b base s c1 _ h1 hs hok1 hl1 (by omega) hB1).mono ?_
  rintro x w2 ⟨rfl,h2,k2⟩
  obtain ⟨t1,t2,t3⟩:=raR_ok hok1 hl1
  have HE2:Hid ((if (raR s c1).1 then (if tk (raR s c1).2.p 7 then la s (4 - c1.ats.length) { (raR s c1).2 with p:=tp s (raR s c1).2.p 7 } else (true,(raR s c1).2)) else (false,(raR s c1).2)) = R):=by
   have:=HE.out
   rw [show 5 - c1.ats.length = (4 - c1.ats.length) + 1 by omega,la] at this
   exact this
  obtain ⟨T,hT⟩:∃ T,raR s c1 = T:=⟨_,rfl⟩
  rw [hT] at h2 t1 t2 t3 HE2 ⊢
  have HT3:Hid (T.1 = true -> T.2.ats.length = c1.ats.length + 1 /\ c1.ats.length ≠ 4):=t3
  clear hT HE t3
  have hk2:Keeps (FR b base) w w2:=hk1.trans k2
  cases hb:T.1
  ·have HF:Hid (R = (false,T.2)):=by unfold Hid;rw [← HE2.out,hb];rfl
   clear hb HE2
   go_wp2_with fail
   go_ret
   exact ⟨ret_bool (by rw [HF.out]),by rw [HF.out];exact h2,hk2⟩
  ·obtain ⟨q1,q2⟩:=HT3.out hb
   have HQ:Hid (T.2.ats.length = c1.ats.length + 1):=q1
   have HB:Hid (T.1 = true):=hb
   clear hb q1
   go_wp2_with fail
   refine (ctake b base s T.2 7 7 _ h2 rfl hs t1).mono ?_
   rintro x w3 ⟨rfl,h3,k3⟩
   have hk3:Keeps (FR b base) w w3:=hk2.trans (Keeps.of k3 (fun _ _ x => Or.inl x))
   cases ht:tk T.2.p 7
   ·have HF:Hid (R = (true,T.2)):=by unfold Hid;rw [← HE2.out,HB.out,ht];rfl
    rw [tp_no ht] at h3
    clear ht
    go_wp2_with fail
    go_ret
    exact ⟨ret_bool (by rw [HF.out]),by rw [HF.out];exact h3,hk3⟩
   ·have HF:Hid (la s (4 - c1.ats.length) { T.2 with p:=tp s T.2.p 7 } = R):=by unfold Hid;rw [← HE2.out,HB.out,ht];rfl
    have HM3:Hid (slen (w3.cell? ⟨b,6,none⟩) = c1.ats.length + 1):=(slen_ats h3).trans HQ.out
    clear ht
    go_wp2_with fail
    go_roundw
    case rel =>
     refine ⟨_,h3,t1.tp 7,t2,?_,hk3,?_⟩
     ·show T.2.ats.length <= 4;rw [HQ.out];omega
     ·show la s (5 - T.2.ats.length) _ = R
      rw [HQ.out,show 5 - (c1.ats.length + 1) = 4 - c1.ats.length by omega];exact HF.out
    case measure => rw [HM.out,HM3.out];omega
theorem readAtoms_any (b base:Nat) (s:ByteArray) (c:CS) (w:World) (h:CSt w b base s c) (hs:s.size <= maxLen) (hok:OkC s c.p) (hl:c.vars.length <= 6) (hla:c.ats.length <= 4) (hB:base <= w.heap.size) :
  Calls Tryz.prog 120 #[.pointer (some ⟨b,0,none⟩)] w fun x w' => x = .returned (.bool (la s (5 - c.ats.length) c).1) /\ CSt w' b base s (la s (5 - c.ats.length) c).2 /\ Keeps (FR b base) w w':=by
 go_enter Tryz.func120,Tryz.ntmps120
 go_wp2_with fail
 refine (readList_atoms b base s c _ h hs hok hl hla hB).mono ?_
 rintro x w2 ⟨rfl,h2,k2⟩
 obtain ⟨R,hR⟩:∃ R,la s (5 - c.ats.length) c = R:=⟨_,rfl⟩
 have HR:Hid (la s (5 - c.ats.length) c = R):=hR
 rw [hR] at h2 ⊢
 clear hR
 go_wp2
 go_ret
 exact ⟨ret_bool (by rw [HR.out]),by rw [HR.out];exact h2,k2⟩
theorem lh_keep (s:ByteArray) (n:Nat) (c:CS):(lh s n c).2.vars = c.vars /\ (lh s n c).2.ats = c.ats:=by
 have hr:∀ c,(rhC s c).vars = c.vars /\ (rhC s c).ats = c.ats:=by
  intro c;unfold rhC;split
  ·split
   ·exact ⟨rfl,rfl⟩
   ·split <;> exact ⟨rfl,rfl⟩
  ·exact ⟨rfl,rfl⟩
 induction n generalizing c with
 | zero => exact ⟨rfl,rfl⟩
 | succ n ih =>
  unfold lh
  split
  ·split
   ·obtain ⟨i1,i2⟩:=ih { rhC s c with p:=tp s (rhC s c).p 7 }
    exact ⟨i1.trans (hr c).1,i2.trans (hr c).2⟩
   ·exact hr c
  ·exact hr c
theorem rdH_keep (s:ByteArray) (c:CS) (hok:OkC s c.p):(rdH s c).2.vars = c.vars /\ (rdH s c).2.ats = c.ats /\ OkC s (rdH s c).2.p:=by
 have h5:OkC s (cw s c 5).p:=hok.tp 5
 have hL:=lh_keep s (7 - c.hd.length) (cw s c 5)
 have hO:OkC s (lh s (7 - c.hd.length) (cw s c 5)).2.p:=h5.lh _
 unfold rdH
 split
 ·split
  ·exact ⟨rfl,rfl,h5.tp 6⟩
  ·split
   ·exact ⟨hL.1,hL.2,hO.tp 6⟩
   ·exact ⟨hL.1,hL.2,hO⟩
 ·exact ⟨rfl,rfl,h5⟩
def rq (s:ByteArray) (c:CS):Bool × CS :=
 if (rdH s c).1 then
  if tk (rdH s c).2.p 8 then
   if (la s (5 - c.ats.length) (cw s (rdH s c).2 8)).1 then
    if tk (la s (5 - c.ats.length) (cw s (rdH s c).2 8)).2.p 9 then
     (tk (cw s (la s (5 - c.ats.length) (cw s (rdH s c).2 8)).2 9).p 1,cw s (cw s (la s (5 - c.ats.length) (cw s (rdH s c).2 8)).2 9) 1)
    else (false,cw s (la s (5 - c.ats.length) (cw s (rdH s c).2 8)).2 9)
   else (false,(la s (5 - c.ats.length) (cw s (rdH s c).2 8)).2)
  else (false,cw s (rdH s c).2 8)
 else (false,(rdH s c).2)
def FQ (b base:Nat):Nat -> Option Obj -> Prop:=fun k _ => k = b ∨ base <= k
theorem readQuery_any (b base:Nat) (s:ByteArray) (c:CS) (w:World) (h:CSt w b base s c) (hs:s.size <= maxLen) (hok:OkC s c.p) (hh:c.hd.length <= 6) (hl:c.vars.length <= 6) (hla:c.ats.length <= 4) (hB:base <= w.heap.size) :
  Calls Tryz.prog 83 #[.pointer (some ⟨b,0,none⟩)] w fun x w' => x = .returned (.bool (rq s c).1) /\ CSt w' b base s (rq s c).2 /\ Keeps (FQ b base) w w':=by
 obtain ⟨R,hR⟩:∃ R,rq s c = R:=⟨_,rfl⟩
 have HR:Hid (rq s c = R):=hR
 rw [hR]
 clear hR
 obtain ⟨e1,e2,hok1⟩:=rdH_keep s c hok
 have HE1:Hid ((rdH s c).2.vars = c.vars):=e1
 have HE2:Hid ((rdH s c).2.ats = c.ats):=e2
 clear e1 e2
 go_enter Tryz.func83,Tryz.ntmps83
 go_wp2_with fail
 refine (readHead_any b base s c _ h hs hok hh hB).mono ?_
 rintro x w1 ⟨rfl,h1,k1⟩
 have hK1:Keeps (FQ b base) w w1:=k1.mono (fun k o hx => by rcases hx with e | ⟨e,_⟩;exact Or.inl e;exact Or.inr e)
 have HRR:=HR.out
 unfold rq at HRR
 obtain ⟨A,hA⟩:∃ A,rdH s c = A:=⟨_,rfl⟩
 rw [hA] at h1 hok1 HRR HE1 HE2 ⊢
 have HRQ:Hid _:=HRR
 clear HRR hA
 cases hx:A.1
 ·have HF:Hid (R = (false,A.2)):=by unfold Hid;rw [← HRQ.out,hx];rfl
  clear hx
  go_wp2_with fail
  go_ret
  exact ⟨ret_bool (by rw [HF.out]),by rw [HF.out];exact h1,hK1⟩
 ·have HA:Hid (A.1 = true):=hx
  clear hx
  go_wp2_with fail
  refine (cwant b base s A.2 8 8 _ h1 rfl hs hok1).mono ?_
  rintro x w2 ⟨rfl,h2,k2⟩
  have hK2:Keeps (FQ b base) w w2:=hK1.trans (Keeps.of k2 (fun _ _ x => Or.inl x))
  cases ht:tk A.2.p 8
  ·have HF:Hid (R = (false,cw s A.2 8)):=by unfold Hid;rw [← HRQ.out,HA.out,ht];rfl
   clear ht
   go_wp2_with fail
   go_ret
   exact ⟨ret_bool (by rw [HF.out]),by rw [HF.out];exact h2,hK2⟩
  ·have HT8:Hid (tk A.2.p 8 = true):=ht
   clear ht
   have hB2:base <= w2.heap.size:=Nat.le_trans hB hK2.size
   have hl2:(cw s A.2 8).vars.length <= 6:=by show A.2.vars.length <= 6;rw [HE1.out];exact hl
   have hla2:(cw s A.2 8).ats.length <= 4:=by show A.2.ats.length <= 4;rw [HE2.out];exact hla
   have hok2:OkC s (cw s A.2 8).p:=hok1.tp 8
   have HEA:Hid ((cw s A.2 8).ats.length = c.ats.length):=by show A.2.ats.length = c.ats.length;rw [HE2.out]
   go_wp2_with fail
   refine (readAtoms_any b base s (cw s A.2 8) _ h2 hs hok2 hl2 hla2 hB2).mono ?_
   rintro x w3 ⟨rfl,h3,k3⟩
   rw [HEA.out] at h3 ⊢
   have hK3:Keeps (FQ b base) w w3:=hK2.trans (k3.mono (fun k o hx => by rcases hx with e | ⟨e,_⟩;exact Or.inl e;exact Or.inr e))
   obtain ⟨hok3,_⟩:=la_ok s (5 - c.ats.length) hok2 hl2
   obtain ⟨B,hBB⟩:∃ B,la s (5 - c.ats.length) (cw s A.2 8) = B:=⟨_,rfl⟩
   rw [hBB] at h3 hok3 HRQ ⊢
   clear hBB
   cases hb:B.1
   ·have HF:Hid (R = (false,B.2)):=by unfold Hid;rw [← HRQ.out,HA.out,HT8.out,hb];rfl
    clear hb
    go_wp2_with fail
    go_ret
    exact ⟨ret_bool (by rw [HF.out]),by rw [HF.out];exact h3,hK3⟩
   ·have HBB:Hid (B.1 = true):=hb
    clear hb
    go_wp2_with fail
    refine (cwant b base s B.2 9 9 _ h3 rfl hs hok3).mono ?_
    rintro x w4 ⟨rfl,h4,k4⟩
    have hK4:Keeps (FQ b base) w w4:=hK3.trans (Keeps.of k4 (fun _ _ x => Or.inl x))
    cases ht:tk B.2.p 9
    ·have HF:Hid (R = (false,cw s B.2 9)):=by unfold Hid;rw [← HRQ.out,HA.out,HT8.out,HBB.out,ht];rfl
     clear ht
     go_wp2_with fail
     go_ret
     exact ⟨ret_bool (by rw [HF.out]),by rw [HF.out];exact h4,hK4⟩
    ·have HF:Hid (R = (tk (cw s B.2 9).p 1,cw s (cw s B.2 9) 1)):=by unfold Hid;rw [← HRQ.out,HA.out,HT8.out,HBB.out,ht];rfl
     clear ht
     have hok4:OkC s (cw s B.2 9).p:=hok3.tp 9
     go_wp2_with fail
     refine (cwant b base s (cw s B.2 9) 1 1 _ h4 rfl hs hok4).mono ?_
     rintro x w5 ⟨rfl,h5,k5⟩
     go_wp2_with fail
     go_ret
     exact ⟨ret_bool (by rw [HF.out]),by rw [HF.out];exact h5,hK4.trans (Keeps.of k5 (fun _ _ x => Or.inl x))⟩
end Go.Proofs.YtondkinefmjpjaaGreat.K
