import Derived.Shelf.Abstract
import Derived.Test.YtondkinefmjpjaaGreatI26
set_option maxHeartbeats 8000000
set_option maxRecDepth 100000
namespace Go.Proofs.YtondkinefmjpjaaGreat
open Go.RowKit Go.WideMaps Go.WideElems Go.Maps Go.Shelf
def JP (ob wb:Nat) (O W J:List Int -> Int) (w:World) (e:Ending) (w':World):Prop :=
 e = .returned (.tuple #[]) /\ CF 93 6 w' ob (fun h => O h + J h) /\ CF 93 6 w' wb (fun h => W h + J h) /\ Fr (fun i => i = ob ∨ i = wb) w w'
theorem bump_jn (H:Nat) (O:List Int -> Int) (a:List Int) (c:Int):bump O (rst H a) c = fun h => O h + jn H [] a c h:=by
 funext h;simp only [bump,jn]
 by_cases e:h = rst H a
 ·subst e;simp
 ·rw [if_neg e,if_neg (fun e' => e e'.symm)]
theorem join_nil (ob wb vb OB VB HB VB2 H:Nat) (O W:List Int -> Int) (sa:Option Addr) (cap:Nat) (a:List Int) (c:Int) (w:World) (E:HEnv w ob wb vb OB VB HB VB2 H) (hH:H < 256) (hO:CF 93 6 w ob O) (hW:CF 93 6 w wb W) (hne:ob ≠ wb) (ha:a ∈ box) :
  Calls Tryz.prog 76 #[.pointer (some ⟨vb,0,none⟩),.slice sa 0 cap,.agg (i64s a).toArray,.int .i64 (wr c),.func (.func 77) #[] #[.pointer (some ⟨HB,0,none⟩),.pointer (some ⟨VB,0,none⟩)]] w (JP ob wb O W (jn H [] a c) w):=by
 have HAND:=fun (u:World) (E:HEnv u ob wb vb OB VB HB VB2 H) (hO:CF 93 6 u ob O) (hW:CF 93 6 u wb W) => hand_any ob wb vb OB VB HB VB2 H O W a c u E hH hO hW hne ha
 obtain ⟨a0,a1,a2,a3,a4,a5,hae⟩:=six a (box_length ha)
 have hA:(i64s a).toArray = #[.int .i64 a0,.int .i64 a1,.int .i64 a2,.int .i64 a3,.int .i64 a4,.int .i64 a5]:=by rw [hae];rfl
 obtain ⟨C,hC⟩:∃ C,wr c = C:=⟨_,rfl⟩
 rw [hA,hC] at HAND ⊢
 have F0:Fr (fun _ => False) w (w.alloc (.cells #[.int .i64 a0,.int .i64 a1,.int .i64 a2,.int .i64 a3,.int .i64 a4,.int .i64 a5] 93)):=Fr.alloc _ _
 have HF:Hid _:=F0
 have HE:Hid (HEnv w ob wb vb OB VB HB VB2 H):=E
 have HQ:Hid (JP ob wb O W (jn H [] a c) w = fun e w' => e = .returned (.tuple #[]) /\ CF 93 6 w' ob (bump O (rst H a) c) /\ CF 93 6 w' wb (bump W (rst H a) c) /\ Fr (fun i => i = ob ∨ i = wb) w w'):=by
  unfold Hid JP;funext e w';rw [bump_jn,bump_jn]
 rw [HQ.out]
 clear hA hae hC F0 E HQ
 go_enter Tryz.func76,Tryz.ntmps76
 go_wp2_with (go_at_call 77;refine (HAND _ (HE.out.fr HF.out (mps_none _)) (hO.fr HF.out (fun h => h)) (hW.fr HF.out (fun h => h))).mono ?_;rintro e w2 ⟨rfl,hC1,hC2,hf2⟩)
 refine bodyPost_ret (results_none rfl _ _ _) rfl ?_
 exact ⟨rfl,hC1,hC2,(HF.out.mono (fun _ _ h => h.elim)).trans hf2 (fun _ _ h => h)⟩
def dS (H:Nat) (ws:List Stp) (s fr:Nat) (F:List Int -> Int) (a:List Int) (c:Int) (left:Lit -> Bool) (h:List Int):Int:=doneSum left (fun x => decide (rst s x = rst s a) && F x != 0) (fun x => jn H ws (mix fr a x) (c * F x) h)
theorem dS_step {H:Nat} {ws:List Stp} {s fr:Nat} {F:List Int -> Int} {a:List Int} {c:Int} {left:Lit -> Bool} {X:List Int} (hxb:X ∈ box) (hxs:rst s X = rst s a) (hx0:F X ≠ 0) (hlx:left (klOf X) = true) (h:List Int) (o:Int) :
  o + dS H ws s fr F a c left h + jn H ws (mix fr a X) (c * F X) h = o + dS H ws s fr F a c (fun z => left z && !z.sameKey (klOf X)) h:=by
 have hpx:(fun x => decide (rst s x = rst s a) && F x != 0) X = true:=by simp [hxs,hx0]
 have:=done_step (left:=left) (p:=fun x => decide (rst s x = rst s a) && F x != 0) (fun x => jn H ws (mix fr a x) (c * F x) h) hxb hpx hlx
 unfold dS
 rw [this,Int.add_assoc]
def JL (ob wb d r n1:Nat) (D1:DataW Unit) (H:Nat) (ws:List Stp) (s fr:Nat) (F O W:List Int -> Int) (a:List Int) (c:Int) (w wr:World) (A L:Array Value):Prop :=
 ∃ left cnt,wr.ranges Tryz.prog 93 (plainElem Tryz.prog 3) d r n1 D1 left cnt /\ (∀ kl,left kl = true -> has D1 kl = true) /\
  CF 93 6 wr ob (fun h => O h + dS H ws s fr F a c left h) /\
  CF 93 6 wr wb (fun h => W h + dS H ws s fr F a c left h) /\
  Fr (fun i => i = ob ∨ i = wb) w wr /\ wr.heap[w.heap.size]? = some (.cells A 93 (0,0)) /\ wr.heap[w.heap.size + 1]? = some (.cells L 163 (0,0))
theorem ranges_block {w w':World} {b r n cnt:Nat} {D:DataW Unit} {left:Lit -> Bool} {k:TypeId} {R:Value -> Option (DataW Unit × List MemPlace)} (h:w.ranges Tryz.prog k R b r n D left cnt) (hb:w'.heap[b]? = w.heap[b]?) (hr:w'.heap[r]? = w.heap[r]?):w'.ranges Tryz.prog k R b r n D left cnt:=by
 obtain ⟨es,clock,since,seen,c0,h1,h2,h3,h4,h5,h6⟩:=h
 exact ⟨es,clock,since,seen,c0,hb.trans h1,h2,h3,h4,hr.trans h5,h6⟩
theorem JL.start {ob wb d r n1:Nat} {D1:DataW Unit} {H:Nat} {ws:List Stp} {s fr:Nat} {F O W:List Int -> Int} {a:List Int} {c:Int} {w wr:World} {A L:Array Value} (hrg:wr.ranges Tryz.prog 93 (plainElem Tryz.prog 3) d r n1 D1 (has D1) (size D1)) (hr:Rep 6 D1 (part s F (rst s a))) (hT:∀ x,Go.Proofs.YtondkinefmjpjaaGreat.wr (F x) = F x)
  (hO:CF 93 6 wr ob O) (hW:CF 93 6 wr wb W) (hF:Fr (fun _ => False) w wr) (c0:wr.heap[w.heap.size]? = some (.cells A 93 (0,0))) (c1:wr.heap[w.heap.size + 1]? = some (.cells L 163 (0,0))):JL ob wb d r n1 D1 H ws s fr F O W a c w wr A L:=by
 have hz:∀ h,dS H ws s fr F a c (has D1) h = 0:=fun h => done_start fun x hx hp => by
  simp only [Bool.and_eq_true,decide_eq_true_eq,bne_iff_ne] at hp
  rw [hr.2.1 x hx]
  simp [part,hp.1,hT x,hp.2]
 exact ⟨_,_,hrg,fun _ h => h,hO.congr (fun x _ => by rw [hz];simp),hW.congr (fun x _ => by rw [hz];simp),hF.mono (fun _ _ h => h.elim),c0,c1⟩
theorem jn_done {H:Nat} {ws:List Stp} {s fr:Nat} {F:List Int -> Int} {a:List Int} {c:Int} {left:Lit -> Bool} (hl:∀ kl,left kl = false) (h:List Int):dS H ws s fr F a c left h = jn H (⟨s,fr,F⟩ :: ws) a c h:=by
 unfold dS;rw [done_end hl]
 show _ = Sg box fun x => if rst s x = rst s a then jn H ws (mix fr a x) (c * F x) h else 0
 refine S_congr fun x _ => ?_
 by_cases e:rst s x = rst s a
 ·by_cases e0:F x = 0
  ·simp only [e,e0,bne_self_eq_false,Bool.and_false,if_true]
   rw [jn_lin];simp
  ·simp [e,e0]
 ·simp [e]
theorem jn_none {H:Nat} {ws:List Stp} {s fr:Nat} {F:List Int -> Int} {a:List Int} {c:Int} (hz:∀ x,x ∈ box -> rst s x = rst s a -> F x = 0) (h:List Int):jn H (⟨s,fr,F⟩ :: ws) a c h = 0:=by
 show (Sg box fun x => if rst s x = rst s a then jn H ws (mix fr a x) (c * F x) h else 0) = 0
 refine S_zero fun x hx => ?_
 by_cases e:rst s x = rst s a
 ·rw [if_pos e,hz x hx e,jn_lin];simp
 ·rw [if_neg e]
theorem JL.key {D1:DataW Unit} {s:Nat} {F:List Int -> Int} {a x:List Int} {cc:Int} (hr:Rep 6 D1 (part s F (rst s a))) (hT:∀ x,wr (F x) = F x) (hx6:x.length = 6) (hwx:wfA x) (hh:has D1 (klOf x) = true) (hat:∀ zd,D1.atKey (klOf x) zd = i64d cc):x ∈ box /\ rst s x = rst s a /\ F x ≠ 0 /\ cc = F x:=by
 obtain ⟨x',hx',e⟩:=hr.1 _ hh
 have:=klOf_inj hx6 (box_length hx') hwx (box_wf hx') e
 subst this
 rw [hr.2.1 x hx'] at hh
 have hp:wr (part s F (rst s a) x) ≠ 0:=by simpa using hh
 have hc:=(hat (i64d 0)).symm.trans (hr.2.2 x hx')
 simp only [i64d,DataW.lit.injEq,Lit.int.injEq,true_and] at hc
 by_cases e:rst s x = rst s a
 ·simp only [part,e,if_true] at hp hc
  rw [hT x] at hp hc
  exact ⟨hx',e,hp,hc⟩
 ·exact absurd (by simp [part,e,wr_zero]) hp
theorem with_step (s:Nat) (a o:List Int) (u:World) (hs:s < 256) (ha:a.length = 6) (ho:o.length = 6):Calls Tryz.prog 111 #[.agg (i64s a).toArray,.int .u8 s,.agg (i64s o).toArray] u fun e w' => ∃ v,e = .returned v /\ (v = .agg (i64s (mix s a o)).toArray /\ Below u.heap.size u w'):=by
 refine (with_any s a o u hs ha ho).mono ?_
 rintro e w' ⟨rfl,hb⟩
 exact ⟨_,rfl,by rw [mixL_mix _ _ _ ha],hb⟩
theorem enter78:∀ vs u,(callFunc 78 vs).run Tryz.prog u = .ok (.enter 78 vs) u:=enters_of Tryz.func78 (by kernel_rfl) rfl
theorem enter111:∀ vs u,(callFunc 111 vs).run Tryz.prog u = .ok (.enter 111 vs) u:=enters_of Tryz.func111 (by kernel_rfl) rfl
theorem enter76:∀ vs u,(callFunc 76 vs).run Tryz.prog u = .ok (.enter 76 vs) u:=enters_of Tryz.func76 (by kernel_rfl) rfl
theorem only_step (s:Nat) (a:List Int) (u:World) (hs:s < 256) (ha:a.length = 6):Calls Tryz.prog 78 #[.agg (i64s a).toArray,.int .u8 s] u fun e w' => ∃ v,e = .returned v /\ (v = .agg (i64s (rst s a)).toArray /\ Below u.heap.size u w'):=by
 refine (only_any s a u hs ha).mono ?_
 rintro e w' ⟨rfl,hb⟩
 exact ⟨_,rfl,by rw [onlyL_rst],hb⟩
theorem getD_lt {ms:List Nat} (h:∀ m,m ∈ ms -> m < 256) (k:Nat):ms.getD k 0 < 256:=by
 rw [List.getD_eq_getElem?_getD]
 cases e:ms[k]? with
 | none => simp
 | some m => exact h m (List.mem_of_getElem? e)
theorem join_call (ob wb vb OB VB HB VB2 H:Nat) (ms:List Nat) (lk:List (Nat × Nat)) (f:Nat -> List Int -> Int) (ib:List Nat) (g:Nat -> List Int -> Option Nat) (ws:List Nat) (O W:List Int -> Int) (sg so so' cap:Nat) (a:List Int) (c:Int) (w u:World) (l s fr q:Nat) (C:Int) (X:List Int) (left:Lit -> Bool)
  (IH:∀ (u:World) (O' W':List Int -> Int) (a':List Int) (c':Int),a' ∈ box -> HEnv u ob wb vb OB VB HB VB2 H -> JEnv u vb ms lk f ib g -> CF 93 6 u ob O' -> CF 93 6 u wb W' -> (∀ j,j < ws.length -> u.cell? ⟨sg,so' + j,none⟩ = some (.int .i64 (ws.getD j 0:Nat))) ->
   Calls Tryz.prog 76 #[.pointer (some ⟨vb,0,none⟩),.slice (some ⟨sg,so',none⟩) ws.length (cap - 1),.agg (i64s a').toArray,.int .i64 (wr c'),.func (.func 77) #[] #[.pointer (some ⟨HB,0,none⟩),.pointer (some ⟨VB,0,none⟩)]] u (JP ob wb O' W' (jn H (ws.map (stpOf ms lk f)) a' c') u))
  (E:HEnv w ob wb vb OB VB HB VB2 H) (J:JEnv w vb ms lk f ib g) (hO:CF 93 6 w ob O) (hW:CF 93 6 w wb W) (ha:a ∈ box) (ho1:∀ k,k < lk.length -> ib.getD k 0 ≠ ob /\ ib.getD k 0 ≠ wb) (ho2:∀ k,k < lk.length -> ∀ x,x ∈ box -> ∀ d,g k x = some d -> d ≠ ob /\ d ≠ wb)
  (hcap:ws.length + 1 <= cap) (hso:cap ≠ 1 -> so' = so + 1) (hs:∀ j,j < (l :: ws).length -> w.cell? ⟨sg,so + j,none⟩ = some (.int .i64 ((l :: ws).getD j 0:Nat))) (hC:wr c = C) (hT:∀ x,wr (f q x) = f q x) (hxb:X ∈ box) (hxs:rst s X = rst s a) (hx0:f q X ≠ 0) (hlx:left (klOf X) = true)
  (hf:Fr (fun i => i = ob ∨ i = wb) w u) (h1:CF 93 6 u ob (fun h => O h + dS H (ws.map (stpOf ms lk f)) s fr (f q) a c left h)) (h2:CF 93 6 u wb (fun h => W h + dS H (ws.map (stpOf ms lk f)) s fr (f q) a c left h)) :
  Calls Tryz.prog 76 #[.pointer (some ⟨vb,0,none⟩),.slice (some ⟨sg,so',none⟩) ws.length (cap - 1),.agg (i64s (mix fr a X)).toArray,.int .i64 (IntKind.i64.wrap (C * f q X)),.func (.func 77) #[] #[.pointer (some ⟨HB,0,none⟩),.pointer (some ⟨VB,0,none⟩)]] u fun e w' => ∃ v,e = .returned v /\ (v = .tuple #[] /\ CF 93 6 w' ob (fun h => O h + dS H (ws.map (stpOf ms lk f)) s fr (f q) a c (fun z => left z && !z.sameKey (klOf X)) h) /\ CF 93 6 w' wb (fun h => W h + dS H (ws.map (stpOf ms lk f)) s fr (f q) a c (fun z => left z && !z.sameKey (klOf X)) h) /\ Fr (fun i => i = ob ∨ i = wb) u w'):=by
 have hm:=mps_two hO hW
 have hmb:mix fr a X ∈ box:=mem_box.2 ((mem_box.1 ha).mix (mem_box.1 hxb) fr)
 have hCX:IntKind.i64.wrap (C * f q X) = wr (c * f q X):=by
  rw [← hC,← wr_mul c (f q X),hT X];rfl
 rw [hCX]
 refine (IH u _ _ (mix fr a X) (c * f q X) hmb (E.fr hf hm) (J.fr hf hm (fun k hk h => h.elim (ho1 k hk).1 (ho1 k hk).2) (fun k hk x hx e he h => h.elim (ho2 k hk x hx e he).1 (ho2 k hk x hx e he).2)) h1 h2 (fun j hj => hf.cell hm (by have:=hs (j + 1) (by simp;omega);rw [List.getD_cons_succ,show so + (j + 1) = so' + j by have:=hso (by omega);omega] at this;exact this))).mono ?_
 rintro e w' ⟨rfl,q3,q4,q5⟩
 refine ⟨_,rfl,rfl,q3.congr (fun h _ => ?_),q4.congr (fun h _ => ?_),q5⟩
 ·exact congrArg wr (dS_step hxb hxs hx0 hlx h _)
 ·exact congrArg wr (dS_step hxb hxs hx0 hlx h _)
theorem join_cons (ob wb vb OB VB HB VB2 H:Nat) (ms:List Nat) (lk:List (Nat × Nat)) (f:Nat -> List Int -> Int) (ib:List Nat) (g:Nat -> List Int -> Option Nat) (l:Nat) (ws:List Nat) (O W:List Int -> Int) (sg so so' cap:Nat) (hna:(if cap = 1 then some (⟨sg,so,none⟩:Addr) else some ⟨sg,so + 1,none⟩) = some ⟨sg,so',none⟩) (hso:cap ≠ 1 -> so' = so + 1) (a:List Int) (c:Int) (w:World)
  (IH:∀ (u:World) (O' W':List Int -> Int) (a':List Int) (c':Int),a' ∈ box -> HEnv u ob wb vb OB VB HB VB2 H -> JEnv u vb ms lk f ib g -> CF 93 6 u ob O' -> CF 93 6 u wb W' -> (∀ j,j < ws.length -> u.cell? ⟨sg,so' + j,none⟩ = some (.int .i64 (ws.getD j 0:Nat))) ->
   Calls Tryz.prog 76 #[.pointer (some ⟨vb,0,none⟩),.slice (some ⟨sg,so',none⟩) ws.length (cap - 1),.agg (i64s a').toArray,.int .i64 (wr c'),.func (.func 77) #[] #[.pointer (some ⟨HB,0,none⟩),.pointer (some ⟨VB,0,none⟩)]] u (JP ob wb O' W' (jn H (ws.map (stpOf ms lk f)) a' c') u))
  (E:HEnv w ob wb vb OB VB HB VB2 H) (J:JEnv w vb ms lk f ib g) (hms:∀ m,m ∈ ms -> m < 256) (hT:∀ k x,wr (f k x) = f k x) (hl:l < lk.length) (hcap:ws.length + 1 <= cap) (hlen:ws.length < 100) (hlk:lk.length < 100)
  (hs:∀ j,j < (l :: ws).length -> w.cell? ⟨sg,so + j,none⟩ = some (.int .i64 ((l :: ws).getD j 0:Nat)))
  (hO:CF 93 6 w ob O) (hW:CF 93 6 w wb W) (_hne:ob ≠ wb) (ha:a ∈ box) (ho1:∀ k,k < lk.length -> ib.getD k 0 ≠ ob /\ ib.getD k 0 ≠ wb) (ho2:∀ k,k < lk.length -> ∀ x,x ∈ box -> ∀ d,g k x = some d -> d ≠ ob /\ d ≠ wb) :
  Calls Tryz.prog 76 #[.pointer (some ⟨vb,0,none⟩),.slice (some ⟨sg,so,none⟩) (ws.length + 1) cap,.agg (i64s a).toArray,.int .i64 (wr c),.func (.func 77) #[] #[.pointer (some ⟨HB,0,none⟩),.pointer (some ⟨VB,0,none⟩)]] w (JP ob wb O W (jn H ((l :: ws).map (stpOf ms lk f)) a c) w):=by
 obtain ⟨lv,lb,j1,j2⟩:=J.lks
 obtain ⟨iv,ibb,j3,j4⟩:=J.ix
 have hil:=J.len
 obtain ⟨lg,lcap,rfl⟩:=vown_some j2 (by omega)
 obtain ⟨ig,icap,rfl⟩:=vown_some j4 (by omega)
 obtain ⟨x0,x1,x2,x3⟩:=lkcells_at ms lk l hl
 have y0:=(j2.cellAt (l * 4) (by omega)).trans x0
 have y1:=(j2.cellAt (l * 4 + 1) (by omega)).trans x1
 have y2:=(j2.cellAt (l * 4 + 2) (by omega)).trans x2
 have y3:=(j2.cellAt (l * 4 + 3) (by omega)).trans x3
 have y4:=(j4.cellAt l (by omega)).trans (mapVs_at ib l (by omega))
 have y5:=hs 0 (by simp)
 simp only [Nat.add_zero,List.getD_cons_zero] at y5
 have l1:=World.block_lt_of_cell? _ _ j1
 have l2:=World.block_lt_of_cell? _ _ y0
 have l3:=World.block_lt_of_cell? _ _ y4
 have l4:=World.block_lt_of_cell? _ _ y5
 obtain ⟨s,hsE⟩:∃ s,ms.getD (lk.getD l (0,0)).2 0 &&& ms.getD (lk.getD l (0,0)).1 0 = s:=⟨_,rfl⟩
 obtain ⟨fr,hfE⟩:∃ fr,ms.getD (lk.getD l (0,0)).2 0 &&& (255 ^^^ ms.getD (lk.getD l (0,0)).1 0) = fr:=⟨_,rfl⟩
 obtain ⟨p,hp⟩:∃ p,(lk.getD l (0,0)).1 = p:=⟨_,rfl⟩
 obtain ⟨q,hq⟩:∃ q,(lk.getD l (0,0)).2 = q:=⟨_,rfl⟩
 obtain ⟨b,hb⟩:∃ b,ib.getD l 0 = b:=⟨_,rfl⟩
 rw [hsE] at y2
 rw [hfE] at y3
 rw [hp] at y0
 rw [hq] at y1
 rw [hb] at y4
 obtain ⟨a0,a1,a2,a3,a4,a5,hae⟩:=six a (box_length ha)
 have hA:(i64s a).toArray = #[.int .i64 a0,.int .i64 a1,.int .i64 a2,.int .i64 a3,.int .i64 a4,.int .i64 a5]:=by rw [hae];rfl
 obtain ⟨C,hC⟩:∃ C,wr c = C:=⟨_,rfl⟩
 rw [hA,hC]
 obtain ⟨QQ,hQQ⟩:∃ QQ,JP ob wb O W (jn H ((l :: ws).map (stpOf ms lk f)) a c) w = QQ:=⟨_,rfl⟩
 rw [hQQ]
 have HQ:Hid _:=hQQ
 have bl:(l:Int) < (lk.length:Int):=by omega
 rw [hil] at j3
 clear x0 x1 x2 x3 hQQ
 have HJ2:Hid _:=j2
 have HJ4:Hid _:=j4
 have HIH:Hid _:=IH
 have HO1:Hid _:=ho1
 have HO2:Hid _:=ho2
 have HS:Hid _:=hs
 have HT:Hid _:=hT
 have HSO:Hid _:=hso
 have b1l:(1:Int) <= (ws.length:Int) + 1:=by omega
 clear j2 j4 IH ho1 ho2 hs hT hso
 go_enter Tryz.func76,Tryz.ntmps76
 have hk:=rst_mem ha s
 have IX:=J.st l hl
 rw [hsE,hb,hq] at IX
 obtain ⟨n0,D0,m1,m2,_⟩:=IX.o.tight
 have hs256:s < 256:=by rw [← hsE];exact Nat.lt_of_le_of_lt Nat.and_le_left (getD_lt hms _)
 have hfr256:fr < 256:=by rw [← hfE];exact Nat.lt_of_le_of_lt Nat.and_le_left (getD_lt hms _)
 have ONLY:=fun (u:World) => only_step s a u hs256 (box_length ha)
 have hkey:=keyA (rst s a) (box_length hk) (box_wf hk)
 rw [hA] at ONLY
 obtain ⟨K,hK⟩:∃ K,(i64s (rst s a)).toArray = K:=⟨_,rfl⟩
 rw [hK] at ONLY hkey
 have FF:∀ w1,Below (((w.alloc (.cells #[.int .i64 a0,.int .i64 a1,.int .i64 a2,.int .i64 a3,.int .i64 a4,.int .i64 a5] 93)).alloc (.cells #[.int .i64 p,.int .i64 q,.int .u8 s,.int .u8 fr] 163)).drew.drew).heap.size (((w.alloc (.cells #[.int .i64 a0,.int .i64 a1,.int .i64 a2,.int .i64 a3,.int .i64 a4,.int .i64 a5] 93)).alloc (.cells #[.int .i64 p,.int .i64 q,.int .u8 s,.int .u8 fr] 163)).drew.drew) w1 -> Fr (fun _ => False) w w1 /\ w1.heap[w.heap.size]? = some (.cells #[.int .i64 a0,.int .i64 a1,.int .i64 a2,.int .i64 a3,.int .i64 a4,.int .i64 a5] 93 (0,0)) /\ w1.heap[w.heap.size + 1]? = some (.cells #[.int .i64 p,.int .i64 q,.int .u8 s,.int .u8 fr] 163 (0,0)):=by
  intro w1 hb1
  refine ⟨(((Fr.alloc _ _).trans (Fr.alloc _ _) (fun _ _ h => h)).trans ((Fr.drew _).trans (Fr.drew _) (fun _ _ h => h)) (fun _ _ h => h)).trans (Fr.of_below hb1) (fun _ _ h => h),?_,?_⟩
  ·rw [hb1.block w.heap.size (by simp;omega)]
   exact (Below.heap_alloc _ _ _ (by simp)).trans (vheap_alloc_new w _)
  ·rw [hb1.block (w.heap.size + 1) (by simp)]
   have:=vheap_alloc_new (w.alloc (.cells #[.int .i64 a0,.int .i64 a1,.int .i64 a2,.int .i64 a3,.int .i64 a4,.int .i64 a5] 93)) (.cells #[.int .i64 p,.int .i64 q,.int .u8 s,.int .u8 fr] 163)
   rw [World.size_alloc] at this
   exact this
 have HFF:Hid _:=FF
 have HM2:Hid _:=m2
 have HIX:Hid _:=IX
 have HK:Hid (keyOf Tryz.prog 93 (.agg K) = some (klOf (rst s a))):=hkey
 have HAE:Hid ((i64s a).toArray = #[.int .i64 a0,.int .i64 a1,.int .i64 a2,.int .i64 a3,.int .i64 a4,.int .i64 a5]):=hA
 clear FF m2 IX hkey hK hA hae
 cases hg:g l (rst s a) with
 | none =>
  have hat:D0.atKey (klOf (rst s a)) .nil = .nil:=by rw [HM2.out.2.2 _ hk,hg];rfl
  have LOOK:∀ w1,Fr (fun _ => False) w w1 -> (Instr.lookup 166 (.map (some b)) (.agg K) false).run Tryz.prog w1 = .ok (.map none) w1:=fun w1 hf => imap_new (own_block m1 (hf.block b m1.lt (fun h => h))) HK.out hat
  go_upto_region 3 with fail
  go_region
  go_upto_region 4 with fail
  go_cut [45] (fun it wx => ∃ w1:World,it = .pointer (some ⟨w1.heap.size,0,none⟩) /\ wx = w1.alloc (.mapIter none 0 #[] 0) /\ Fr (fun _ => False) w w1)
  case first =>
   go_region_law (refine step_call rfl 78 #[.tmp 40,.tmp 42] #[93,77] rfl enter78 #[.agg #[.int .i64 a0,.int .i64 a1,.int .i64 a2,.int .i64 a3,.int .i64 a4,.int .i64 a5],.int .u8 s] (by kernel_rfl) _ (ONLY _) ?_;rintro v1 w1 ⟨rfl,hb1⟩;have hf1:=(HFF.out w1 hb1).1;have j3':=hf1.cell (mps_none _) j3;have y4':=hf1.cell (mps_none _) y4;have y5':=hf1.cell (mps_none _) y5;have hlook:=LOOK w1 hf1;have hrn:=run_range_nilMap (P:=Tryz.prog) w1 86 93 3 Tryz.underlying86)
   all_goals (go_wp2_with fail;go_meet)
   all_goals exact ⟨w1,rfl,rfl,hf1⟩
  case rest =>
   obtain ⟨w1,rfl,rfl,hf1⟩:=hcut
   have HF0:Hid (Fr (fun _ => False) w w1):=hf1
   have hnx:∀ ty,(Instr.next (.pointer (some ⟨w1.heap.size,0,none⟩)) false ty).run Tryz.prog (w1.alloc (.mapIter none 0 #[] 0)) = _:=fun ty => run_next_nilMap _ ty 0 0 #[]
   clear hf1 LOOK
   go_wp2_with fail
   refine wp_loop_rounds 1 ?_
   rw [rounds_succ]
   go_wp2_with fail
   refine bodyPost_end (results_none rfl _ _ _) rfl ?_
   rw [← HQ.out]
   have e0:stpOf ms lk f l = ⟨s,fr,f q⟩:=by unfold stpOf;rw [hsE,hfE,hq]
   have hfa:Fr (fun _ => False) w (w1.alloc (.mapIter none 0 #[] 0)):=HF0.out.trans (Fr.alloc _ _) (fun _ _ h => h)
   have hz:∀ h,jn H ((l :: ws).map (stpOf ms lk f)) a c h = 0:=fun h => by
    rw [List.map_cons,e0]
    exact jn_none (fun x hx e => by rw [← HT.out q x];exact HIX.out.n _ hk hg x hx e) h
   exact ⟨rfl,(hO.fr hfa (fun h => h)).congr (fun h _ => by rw [hz];simp),(hW.fr hfa (fun h => h)).congr (fun h _ => by rw [hz];simp),hfa.mono (fun _ _ h => h.elim)⟩
 | some d =>
  obtain ⟨hd1,_⟩:=HIX.out.i _ hk d hg
  obtain ⟨D1,q1,q2,_⟩:=hd1.tight (Or.inl ⟨rfl,rfl⟩)
  obtain ⟨n1,hn1⟩:∃ n1,(live 6 (part s (f q) (rst s a))).length = n1:=⟨_,rfl⟩
  rw [hn1] at q1
  have hat:D0.atKey (klOf (rst s a)) .nil = refD d:=by rw [HM2.out.2.2 _ hk,hg];rfl
  have HQ2:Hid _:=q2
  have LOOK:∀ w1,Fr (fun _ => False) w w1 -> (Instr.lookup 166 (.map (some b)) (.agg K) false).run Tryz.prog w1 = .ok (.map (some d)) w1:=fun w1 hf => imap_old (own_block m1 (hf.block b m1.lt (fun h => h))) HK.out hat
  have RNG:∀ w1,Fr (fun _ => False) w w1 -> w1.ownsMap (H:=Unit) Tryz.prog 93 (plainElem Tryz.prog 3) d n1 D1:=fun w1 hf => own_block q1 (hf.block d q1.lt (fun h => h))
  have FIN:∀ w1 w2,Below (((w.alloc (.cells #[.int .i64 a0,.int .i64 a1,.int .i64 a2,.int .i64 a3,.int .i64 a4,.int .i64 a5] 93)).alloc (.cells #[.int .i64 p,.int .i64 q,.int .u8 s,.int .u8 fr] 163)).drew.drew).heap.size (((w.alloc (.cells #[.int .i64 a0,.int .i64 a1,.int .i64 a2,.int .i64 a3,.int .i64 a4,.int .i64 a5] 93)).alloc (.cells #[.int .i64 p,.int .i64 q,.int .u8 s,.int .u8 fr] 163)).drew.drew) w1 -> w1.grownBy w2 none -> Fr (fun _ => False) w w2 /\ w2.heap[w.heap.size]? = some (.cells #[.int .i64 a0,.int .i64 a1,.int .i64 a2,.int .i64 a3,.int .i64 a4,.int .i64 a5] 93 (0,0)) /\ w2.heap[w.heap.size + 1]? = some (.cells #[.int .i64 p,.int .i64 q,.int .u8 s,.int .u8 fr] 163 (0,0)) /\ w.heap.size + 2 <= w1.heap.size:=by
   intro w1 w2 hb1 hg2
   obtain ⟨h1,h2,h3⟩:=HFF.out w1 hb1
   have hsz:w.heap.size + 2 <= w1.heap.size:=by have:=hb1.size;simp at this;omega
   exact ⟨h1.trans (Fr.of_grown hg2 (fun _ _ e => by cases e)) (fun _ _ h => h),(hg2.block _ (by omega) (by simp)).trans h2,(hg2.block _ (by omega) (by simp)).trans h3,hsz⟩
  have HFIN:Hid _:=FIN
  clear FIN
  clear q2 hn1
  go_upto_region 3 with fail
  go_region
  go_upto_region 4 with fail
  go_cut [45] (fun it wx => ∃ r,it = .pointer (some ⟨r,0,none⟩) /\ wx.ranges (H:=Unit) Tryz.prog 93 (plainElem Tryz.prog 3) d r n1 D1 (has D1) (size D1) /\ Fr (fun _ => False) w wx /\ wx.heap[w.heap.size]? = some (.cells #[.int .i64 a0,.int .i64 a1,.int .i64 a2,.int .i64 a3,.int .i64 a4,.int .i64 a5] 93 (0,0)) /\ wx.heap[w.heap.size + 1]? = some (.cells #[.int .i64 p,.int .i64 q,.int .u8 s,.int .u8 fr] 163 (0,0)) /\ w.heap.size + 2 <= r)
  case first =>
   go_region_law (refine step_call rfl 78 #[.tmp 40,.tmp 42] #[93,77] rfl enter78 #[.agg #[.int .i64 a0,.int .i64 a1,.int .i64 a2,.int .i64 a3,.int .i64 a4,.int .i64 a5],.int .u8 s] (by kernel_rfl) _ (ONLY _) ?_;rintro v1 w1 ⟨rfl,hb1⟩;have hf1:=(HFF.out w1 hb1).1;have j3':=hf1.cell (mps_none _) j3;have y4':=hf1.cell (mps_none _) y4;have y5':=hf1.cell (mps_none _) y5;have hlook:=LOOK w1 hf1;obtain ⟨w2,hrun2,hrg,hg2,hs2⟩:=World.ownsMap.range (RNG w1 hf1) (Keyed.of_law lawA) Tryz.underlying86)
   all_goals (go_wp2_with fail;go_meet)
   all_goals exact ⟨_,rfl,hrg,HFIN.out w1 w2 hb1 hg2⟩
  case rest =>
   obtain ⟨r,rfl,hrg0,hf0,b0,b1,hr⟩:=hcut
   obtain ⟨u0,hu0⟩:∃ u0:World,u0 = wc:=⟨_,rfl⟩
   subst hu0
   have hO0:=hO.fr hf0 (fun h => h)
   have hW0:=hW.fr hf0 (fun h => h)
   have HF0:Hid (Fr (fun _ => False) w u0):=hf0
   have lo:=hO.lt
   have lw:=hW.lt
   have ld:=q1.lt
   clear hf0 LOOK RNG
   go_wp2_with fail
   go_loopw [11,12] (fun _ _ wr => JL ob wb d r n1 D1 H (ws.map (stpOf ms lk f)) s fr (f q) O W a c w wr #[.int .i64 a0,.int .i64 a1,.int .i64 a2,.int .i64 a3,.int .i64 a4,.int .i64 a5] #[.int .i64 p,.int .i64 q,.int .u8 s,.int .u8 fr]) (fun _ _ wr => wr.rangeLeft d r)
   case atStart => exact JL.start hrg0 HQ2.out (HT.out q) hO0 hW0 HF0.out b0 b1
   case round =>
    obtain ⟨left,cnt,hrg,hleft,cO,cW,hF,c0,c1⟩:=hrel
    have HFR:Hid (Fr (fun i => i = ob ∨ i = wb) w wr):=hF
    have HLF:Hid _:=hleft
    clear hF hleft
    go_wp2_with (first | (at_next;refine wpList_next_A _ rfl _ rfl d r n1 D1 _ _ rfl hrg ?_ ?_) | go_in)
    ·intro hl0
     have HL0:Hid (∀ kl,left kl = false):=hl0
     clear hl0
     go_wp2_with fail
     refine bodyPost_end (results_none rfl _ _ _) rfl ?_
     rw [← HQ.out]
     have e0:stpOf ms lk f l = ⟨s,fr,f q⟩:=by unfold stpOf;rw [hsE,hfE,hq]
     refine ⟨rfl,cO.congr (fun h _ => ?_),cW.congr (fun h _ => ?_),HFR.out⟩
     ·rw [jn_done HL0.out,List.map_cons,e0]
     ·rw [jn_done HL0.out,List.map_cons,e0]
    ·intro x0 x1 x2 x3 x4 x5 cc w1 cnt1 hlx hat hwx hrg1 hlt hg1 hs1 hen
     obtain ⟨hxb,hxs,hx0,rfl⟩:=JL.key (a:=a) HQ2.out (HT.out q) rfl hwx (HLF.out _ hlx) hat
     have lr:r < wr.heap.size:=hrg.lt
     have nor:ob ≠ r:=by omega
     have nwr:wb ≠ r:=by omega
     have k0:w1.heap[w.heap.size]? = some (.cells #[.int .i64 a0,.int .i64 a1,.int .i64 a2,.int .i64 a3,.int .i64 a4,.int .i64 a5] 93 (0,0)):=(hg1.block _ (vlt_of_block c0) (by simp;omega)).trans c0
     have k1:w1.heap[w.heap.size + 1]? = some (.cells #[.int .i64 p,.int .i64 q,.int .u8 s,.int .u8 fr] 163 (0,0)):=(hg1.block _ (vlt_of_block c1) (by simp;omega)).trans c1
     have z0:w1.cell? ⟨w.heap.size,0,none⟩ = some (.int .i64 a0):=by simp [World.cell?,k0]
     have z1:w1.cell? ⟨w.heap.size,1,none⟩ = some (.int .i64 a1):=by simp [World.cell?,k0]
     have z2:w1.cell? ⟨w.heap.size,2,none⟩ = some (.int .i64 a2):=by simp [World.cell?,k0]
     have z3:w1.cell? ⟨w.heap.size,3,none⟩ = some (.int .i64 a3):=by simp [World.cell?,k0]
     have z4:w1.cell? ⟨w.heap.size,4,none⟩ = some (.int .i64 a4):=by simp [World.cell?,k0]
     have z5:w1.cell? ⟨w.heap.size,5,none⟩ = some (.int .i64 a5):=by simp [World.cell?,k0]
     have z6:w1.cell? ⟨w.heap.size + 1,3,none⟩ = some (.int .u8 fr):=by simp [World.cell?,k1]
     have lk0:=vlt_of_block k0
     have lk1:=vlt_of_block k1
     obtain ⟨X,hX⟩:∃ X:List Int,[x0,x1,x2,x3,x4,x5] = X:=⟨_,rfl⟩
     have hX6:(i64s X).toArray = #[.int .i64 x0,.int .i64 x1,.int .i64 x2,.int .i64 x3,.int .i64 x4,.int .i64 x5]:=by rw [← hX];rfl
     rw [hX] at hxb hxs hx0 hlx hrg1 hen ⊢
     obtain ⟨FX,hFX⟩:∃ FX,f q X = FX:=⟨_,rfl⟩
     obtain ⟨K2,hK2⟩:∃ K2,(i64s (mix fr a X)).toArray = K2:=⟨_,rfl⟩
     have WITH:=fun (u:World) => with_step fr a X u hfr256 (box_length ha) (box_length hxb)
     rw [hX6,HAE.out,hK2] at WITH
     have JOIN:=fun (u:World) => join_call ob wb vb OB VB HB VB2 H ms lk f ib g ws O W sg so so' cap a c w u l s fr q C X left HIH.out E J hO hW ha HO1.out HO2.out hcap HSO.out HS.out hC (HT.out q) hxb hxs hx0 hlx
     rw [hK2,hFX] at JOIN
     have UF:∀ w2,Below (w1.alloc (.cells #[.int .i64 x0,.int .i64 x1,.int .i64 x2,.int .i64 x3,.int .i64 x4,.int .i64 x5] 93)).drew.heap.size (w1.alloc (.cells #[.int .i64 x0,.int .i64 x1,.int .i64 x2,.int .i64 x3,.int .i64 x4,.int .i64 x5] 93)).drew w2 -> Fr (fun _ => False) w1 w2:=fun w2 hb => ((Fr.alloc _ _).trans (Fr.drew _) (fun _ _ h => h)).trans (Fr.of_below hb) (fun _ _ h => h)
     have F1:Fr (fun i => i = ob ∨ i = wb) w w1:=HFR.out.trans (M':=fun i => i = r) (Fr.of_grown hg1 (fun j _ e => (Option.some.inj e).symm)) (fun i hi e => by omega)
     have o1:CF 93 6 w1 ob _:=cO.block (hg1.block _ cO.lt (by simp [nor]))
     have o2:CF 93 6 w1 wb _:=cW.block (hg1.block _ cW.lt (by simp [nwr]))
     have lsz:=hcap
     have ndo:=HO2.out l hl _ hk d hg
     have NXT:∀ w2 w3,Fr (fun _ => False) w1 w2 -> Fr (fun i => i = ob ∨ i = wb) w2 w3 -> w3.ranges Tryz.prog 93 (plainElem Tryz.prog 3) d r n1 D1 (fun z => left z && !z.sameKey (klOf X)) cnt1 /\ Fr (fun i => i = ob ∨ i = wb) w w3 /\ w3.heap[w.heap.size]? = some (.cells #[.int .i64 a0,.int .i64 a1,.int .i64 a2,.int .i64 a3,.int .i64 a4,.int .i64 a5] 93 (0,0)) /\ w3.heap[w.heap.size + 1]? = some (.cells #[.int .i64 p,.int .i64 q,.int .u8 s,.int .u8 fr] 163 (0,0)):=by
      intro w2 w3 h2 h3
      have keep:∀ i,i < w1.heap.size -> i ≠ ob -> i ≠ wb -> w3.heap[i]? = w1.heap[i]?:=fun i hi ho hw => (h3.block i (by have:=h2.size;omega) (fun h => h.elim ho hw)).trans (h2.block i hi (fun h => h))
      have lr1:=hrg1.lt
      exact ⟨ranges_block hrg1 (keep d (by omega) ndo.1 ndo.2) (keep r lr1 (Ne.symm nor) (Ne.symm nwr)),(F1.trans h2 (fun _ _ h => h.elim)).trans h3 (fun _ _ h => h),(keep _ lk0 (by omega) (by omega)).trans k0,(keep _ lk1 (by omega) (by omega)).trans k1⟩
     have HNX:Hid _:=NXT
     have HLE:Hid (∀ kl,(left kl && !kl.sameKey (klOf X)) = true -> has D1 kl = true):=fun kl h => HLF.out kl (by simp only [Bool.and_eq_true] at h;exact h.1)
     have HUF:Hid _:=UF
     have HF1:Hid _:=F1
     have HJN:Hid _:=JOIN
     have HO':Hid _:=o1
     have HW':Hid _:=o2
     clear UF F1 hX hX6 hK2 JOIN o1 o2 cO cW hs1 NXT ndo
     go_wp2_with fail
     go_region_law (first | (refine step_call rfl 111 #[.tmp 54,.tmp 56,.tmp 57] #[93,77,93] rfl enter111 #[.agg #[.int .i64 a0,.int .i64 a1,.int .i64 a2,.int .i64 a3,.int .i64 a4,.int .i64 a5],.int .u8 fr,.agg #[.int .i64 x0,.int .i64 x1,.int .i64 x2,.int .i64 x3,.int .i64 x4,.int .i64 x5]] (by kernel_rfl) _ (WITH _) ?_;rintro v1 w2 ⟨rfl,hb2⟩;have hf2:=HUF.out w2 hb2) | (refine step_call rfl 76 #[.tmp 51,.tmp 53,.tmp 58,.tmp 61,.tmp 62] #[23,28,93,3,114] rfl enter76 #[.pointer (some ⟨vb,0,none⟩),.slice (some ⟨sg,so',none⟩) ws.length (cap - 1),.agg K2,.int .i64 (IntKind.i64.wrap (C * FX)),.func (.func 77) #[] #[.pointer (some ⟨HB,0,none⟩),.pointer (some ⟨VB,0,none⟩)]] (by kernel_rfl) _ (HJN.out w2 (HF1.out.trans hf2 (fun _ _ h => h.elim)) (CF.fr HO'.out hf2 (fun h => h)) (CF.fr HW'.out hf2 (fun h => h))) ?_;rintro v3 w3 ⟨rfl,r1,r2,r3⟩))
     all_goals obtain ⟨t1,t2,t3,t4⟩:=HNX.out w2 w3 hf2 r3
     all_goals go_wp2_with fail
     all_goals go_roundw
     all_goals first
      | exact ⟨_,cnt1,t1,HLE.out,r1,r2,t2,t3,t4⟩
      | (rw [t1.left_eq,hrg.left_eq];exact hlt)
end Go.Proofs.YtondkinefmjpjaaGreat
