import Derived.Deep.Onto
import Derived.Test.YtondkinefmjpjaaGreatI04
import Derived.Test.YtondkinefmjpjaaGreatI05
import Derived.Test.YtondkinefmjpjaaGreatI11
set_option maxHeartbeats 4000000
set_option maxRecDepth 100000
namespace Go.Proofs.YtondkinefmjpjaaGreat.K
open Go.RowKit
structure CA where
 rel:ByteArray
 n:Nat
 set:Int
 tm:List (Bool × Int)
def kcells (l:List (Bool × Int)):List Value:=l.flatMap fun t => [.bool t.1,.int .i64 t.2]
theorem kcells_snoc (l:List (Bool × Int)) (t:Bool × Int):kcells (l ++ [t]) = kcells l ++ [.bool t.1,.int .i64 t.2]:=by simp [kcells]
def ccell (d:CA) (t:Option Addr × Nat):List Value:=[.string d.rel,.slice t.1 d.n t.2,.int .u8 d.set]
def ccells (l:List CA) (ts:List (Option Addr × Nat)):List Value:=(List.zipWith ccell l ts).flatten
theorem ccells_snoc (l:List CA) (ts:List (Option Addr × Nat)) (d:CA) (t:Option Addr × Nat) (h:ts.length = l.length):ccells (l ++ [d]) (ts ++ [t]) = ccells l ts ++ [.string d.rel,.slice t.1 d.n t.2,.int .u8 d.set]:=by
 unfold ccells;rw [List.zipWith_append h.symm];simp [ccell]
def TRow (w:World) (base:Nat) (l:List CA) (ts:List (Option Addr × Nat)):Prop:=∀ x,x ∈ l.zip ts -> w.ownsRow base 205 2 (.slice x.2.1 x.1.n x.2.2) x.1.n (kcells x.1.tm)
theorem TRow.keeps {F:Nat -> Option Obj -> Prop} {w w':World} {base:Nat} {l:List CA} {ts:List (Option Addr × Nat)} (h:TRow w base l ts) (hk:Keeps F w w') (hf:∀ k,base <= k -> k < w.heap.size -> tag w.heap[k]? = 205 -> ¬ F k w.heap[k]?):TRow w' base l ts :=
 fun x hx => own_keeps (h x hx) hk (fun k h1 h2 h3 _ => hf k h1 h2 h3)
theorem TRow.below {w w':World} {base:Nat} {l:List CA} {ts:List (Option Addr × Nat)} (h:TRow w base l ts) (hb:Below w.heap.size w w'):TRow w' base l ts :=
 fun x hx => own_below' (h x hx) hb
theorem TRow.snoc {w:World} {base:Nat} {l:List CA} {ts:List (Option Addr × Nat)} (h:TRow w base l ts) (hl:ts.length = l.length) {d:CA} {t:Option Addr × Nat} (hd:w.ownsRow base 205 2 (.slice t.1 d.n t.2) d.n (kcells d.tm)):TRow w base (l ++ [d]) (ts ++ [t]):=by
 intro x hx
 rw [List.zip_append hl.symm] at hx
 rcases List.mem_append.1 hx with hx | hx
 ·exact h x hx
 ·simp at hx;subst hx;exact hd
def AR (w:World) (base:Nat) (av:Value) (l:List CA):Prop:=∃ ts:List (Option Addr × Nat),ts.length = l.length /\ w.ownsRow base 180 3 av l.length (ccells l ts) /\ TRow w base l ts
theorem AR.keeps {F:Nat -> Option Obj -> Prop} {w w':World} {base:Nat} {av:Value} {l:List CA} (h:AR w base av l) (hk:Keeps F w w')
  (hf:∀ k,base <= k -> k < w.heap.size -> tag w.heap[k]? = 180 -> av.ownBlock = some k -> ¬ F k w.heap[k]?) (hf2:∀ k,base <= k -> k < w.heap.size -> tag w.heap[k]? = 205 -> ¬ F k w.heap[k]?):AR w' base av l:=by
 obtain ⟨ts,h1,h2,h3⟩:=h
 exact ⟨ts,h1,own_keeps h2 hk hf,h3.keeps hk hf2⟩
theorem AR.below {w w':World} {base:Nat} {av:Value} {l:List CA} (h:AR w base av l) (hb:Below w.heap.size w w'):AR w' base av l:=by
 obtain ⟨ts,h1,h2,h3⟩:=h
 exact ⟨ts,h1,own_below' h2 hb,h3.below hb⟩
theorem AR.form {w:World} {base:Nat} {av:Value} {l:List CA} (h:AR w base av l):∃ a cap,av = .slice a l.length cap:=by
 obtain ⟨ts,_,h2,_⟩:=h
 exact own_form h2
structure CS where
 p:Est.Pc
 hd:List Est.Pc
 vars:List ByteArray
 ats:List CA
 e:Nat
 a:Nat
structure CSt (w:World) (b base:Nat) (s:ByteArray) (c:CS):Prop where
 ex:∃ hv vv av,Cdr w b s c.p hv vv av c.e c.a /\ w.ownsRow base 169 3 hv c.hd.length (pcells c.hd) /\ w.ownsRow base 9 1 vv c.vars.length (strs c.vars) /\ AR w base av c.ats
section
variable {w w':World} {b base:Nat} {s:ByteArray} {c:CS}
theorem CSt.keeps {F:Nat -> Option Obj -> Prop} (h:CSt w b base s c) (k:Keeps F w w') (hb:¬ F b w.heap[b]?) (hr:∀ j,base <= j -> (tag w.heap[j]? = 169 ∨ tag w.heap[j]? = 9 ∨ tag w.heap[j]? = 180 ∨ tag w.heap[j]? = 205) -> ¬ F j w.heap[j]?):CSt w' b base s c:=by
 obtain ⟨hv,vv,av,h1,h2,h3,h4⟩:=h.ex
 exact ⟨hv,vv,av,h1.keeps k hb,own_keeps h2 k (fun j hj _ ht _ => hr j hj (Or.inl ht)),own_keeps h3 k (fun j hj _ ht _ => hr j hj (Or.inr (Or.inl ht))),AR.keeps h4 k (fun j hj _ ht _ => hr j hj (Or.inr (Or.inr (Or.inl ht)))) (fun j hj _ ht => hr j hj (Or.inr (Or.inr (Or.inr ht))))⟩
theorem CSt.below (h:CSt w b base s c) (hb:Below w.heap.size w w'):CSt w' b base s c :=
 h.keeps (F:=fun _ _ => False) ⟨hb.os,hb.tape,hb.output,hb.size,fun k hk _ => hb.block k hk⟩ (fun x => x) (fun _ _ _ x => x)
theorem CSt.alloc (h:CSt w b base s c) (o:Obj):CSt (w.alloc o) b base s c:=h.below ((Below.refl _ _).alloc (Nat.le_refl _) _)
theorem CSt.kept {hv vv av:Value} {p':Est.Pc} {e' a':Nat} (h1:Cdr w b s c.p hv vv av c.e c.a) (h2:w.ownsRow base 169 3 hv c.hd.length (pcells c.hd)) (h3:w.ownsRow base 9 1 vv c.vars.length (strs c.vars)) (h4:AR w base av c.ats)
  (hc:Cdr w' b s p' hv vv av e' a') (k:Kept (· = b) w w'):CSt w' b base s { c with p:=p',e:=e',a:=a' }:=by
 have hK:Keeps (fun j _ => j = b) w w':=Keeps.of k (fun _ _ x => x)
 have ht:∀ j (n:Nat),n ≠ 172 -> tag w.heap[j]? = n -> ¬ (j = b):=by
  intro j n hn h9 e;rw [e,h1.tg] at h9;exact hn h9.symm
 exact ⟨hv,vv,av,hc,own_keeps h2 hK (fun j _ _ h9 _ => ht j 169 (by decide) h9),own_keeps h3 hK (fun j _ _ h9 _ => ht j 9 (by decide) h9),AR.keeps h4 hK (fun j _ _ h9 _ => ht j 180 (by decide) h9) (fun j _ _ h9 => ht j 205 (by decide) h9)⟩
end
theorem ctake (b base:Nat) (s:ByteArray) (c:CS) (n:Int) (k:Nat) (w:World) (h:CSt w b base s c) (hn:(k:Int) = n) (hs:s.size <= maxLen) (hok:OkC s c.p) :
  Calls Tryz.prog 154 #[.pointer (some ⟨b,0,none⟩),.int .i64 n] w fun x w' => x = .returned (.bool (tk c.p k)) /\ CSt w' b base s { c with p:=tp s c.p k } /\ Kept (· = b) w w':=by
 obtain ⟨hv,vv,av,h1,h2,h3,h4⟩:=h.ex
 exact (take_at b s c.p hv vv av c.e c.a n k w h1 hn hs hok).mono fun x w' ⟨e1,e2,e3⟩ => ⟨e1,CSt.kept h1 h2 h3 h4 e2 e3,e3⟩
def cw (s:ByteArray) (c:CS) (k:Nat):CS:={ c with p:=tp s c.p k,e:=if tk c.p k then c.e else 2,a:=if tk c.p k then c.a else c.p.a }
theorem cwant (b base:Nat) (s:ByteArray) (c:CS) (n:Int) (k:Nat) (w:World) (h:CSt w b base s c) (hn:(k:Int) = n) (hs:s.size <= maxLen) (hok:OkC s c.p) :
  Calls Tryz.prog 119 #[.pointer (some ⟨b,0,none⟩),.int .i64 n] w fun x w' => x = .returned (.bool (tk c.p k)) /\ CSt w' b base s (cw s c k) /\ Kept (· = b) w w':=by
 obtain ⟨hv,vv,av,h1,h2,h3,h4⟩:=h.ex
 exact (want_at b s c.p hv vv av c.e c.a n k w h1 hn hs hok).mono fun x w' ⟨e1,e2,e3⟩ => ⟨e1,CSt.kept h1 h2 h3 h4 e2 e3,e3⟩
theorem cfail (b base:Nat) (s:ByteArray) (c:CS) (n:Int) (e' a':Nat) (w:World) (h:CSt w b base s c) (hn:(e':Int) = n) :
  Calls Tryz.prog 157 #[.pointer (some ⟨b,0,none⟩),.int .i64 n,.int .i64 a'] w fun x w' => x = .returned (.bool false) /\ CSt w' b base s { c with e:=e',a:=a' } /\ Kept (· = b) w w':=by
 obtain ⟨hv,vv,av,h1,h2,h3,h4⟩:=h.ex
 exact (cfail_at b s c.p hv vv av c.e c.a n e' a' w h1 hn).mono fun x w' ⟨e1,e2,e3⟩ => ⟨e1,CSt.kept h1 h2 h3 h4 e2 e3,e3⟩
def rhB (c:CS):Bool:=tk c.p 2 && !decide (0 <= pixOf c.hd c.p.t) && !decide (c.hd.length = 6)
def rhC (s:ByteArray) (c:CS):CS :=
 if tk c.p 2 then
  if 0 <= pixOf c.hd c.p.t then { c with p:=pnext s c.p,e:=4,a:=c.p.a }
  else if c.hd.length = 6 then { c with p:=pnext s c.p,e:=3,a:=c.p.a }
  else { c with p:=pnext s c.p,hd:=c.hd ++ [c.p] }
 else { c with e:=2,a:=c.p.a }
def FH (b base:Nat):Nat -> Option Obj -> Prop:=fun k o => k = b ∨ (base <= k /\ tag o = 169)
theorem Tryz.info169:(Tryz.prog.info? 169).map (fun i => (i.zero,i.size,i.bytes)) = some (some (.agg #[.int .i64 0,.string ⟨#[]⟩,.int .i64 0]),3,32):=by kernel_rfl
theorem head_appended {w w1 w2:World} {b base:Nat} {s:ByteArray} {c:CS} {hv vv av hv':Value} {q:Est.Pc} (h1:Cdr w b s c.p hv vv av c.e c.a) (h2:w.ownsRow base 169 3 hv c.hd.length (pcells c.hd)) (h3:w.ownsRow base 9 1 vv c.vars.length (strs c.vars)) (h4:AR w base av c.ats)
  (hk:Kept (fun _ => False) w w1) (hg:w1.grownBy w2 hv.ownBlock) (ho:w2.ownsRow base 169 3 hv' (c.hd.length + 1) (pcells c.hd ++ [.int .i64 q.k,.string q.t,.int .i64 q.a])) :
  (CSt (w2.setCell ⟨b,4,none⟩ hv') b base s { c with hd:=c.hd ++ [q] } /\ Keeps (FH b base) w (w2.setCell ⟨b,4,none⟩ hv')) /\ w2.cell? ⟨b,4,none⟩ = some hv /\ w2.frozen? ⟨b,4,none⟩ = false:=by
 have hbl:∀ k,hv.ownBlock = some k -> base <= k /\ tag w.heap[k]? = 169:=fun k hk => ⟨(own_tag h2 hk).1,(own_tag h2 hk).2.2⟩
 have k1:Keeps (fun k _ => hv.ownBlock = some k) w w2:=(Keeps.of hk (fun _ _ x => x.elim)).trans (Keeps.grown (Keeps.refl _ _) hg (fun k hk => hk))
 have k2:Keeps (fun k _ => k = b) w2 (w2.setCell ⟨b,4,none⟩ hv'):=(Keeps.refl _ _).setCell _ (fun _ => rfl) _
 have nb:hv.ownBlock ≠ some b:=fun e => by have:=(hbl _ e).2;rw [h1.tg] at this;simp at this
 have e2:w2.heap[b]? = some (cdBlk s c.p hv vv av c.e c.a):=(k1.block b h1.lt nb).trans h1.blk
 have t2:tag w2.heap[b]? = 172:=by rw [e2];rfl
 have row:∀ {v:Value} {bb n z t:Nat} {ys:List Value},t ≠ 172 -> w2.ownsRow bb t z v n ys -> (w2.setCell ⟨b,4,none⟩ hv').ownsRow bb t z v n ys:=fun ht hx => own_keeps hx k2 (fun k _ _ h9 _ e => by rw [show k = b from e,t2] at h9;exact ht h9.symm)
 refine ⟨⟨⟨hv',vv,av,⟨?_⟩,?_,row (by decide) (own_keeps h3 k1 (fun k _ _ h9 _ e => by have:=(hbl k e).2;rw [h9] at this;simp at this)),AR.keeps (AR.keeps h4 k1 (fun k _ _ h9 _ e => by have:=(hbl k e).2;rw [h9] at this;simp at this) (fun k _ _ h9 e => by have:=(hbl k e).2;rw [h9] at this;simp at this)) k2 (fun k _ _ h9 _ e => by rw [show k = b from e,t2] at h9;simp at h9) (fun k _ _ h9 e => by rw [show k = b from e,t2] at h9;simp at h9)⟩,?_⟩,by simp [World.cell?,e2,cdBlk],by simp [World.frozen?,e2,cdBlk]⟩
 ·rw [blk_setCell e2 4 hv'];simp [cdBlk,Array.setIfInBounds]
 ·rw [pcells_snoc,List.length_append];exact row (by decide) ho
 ·exact (k1.mono_at (fun k hk => Or.inr ⟨(hbl k hk).1,(hbl k hk).2⟩)).trans (k2.mono (fun _ _ x => Or.inl x))
theorem readHeadVar_any (b base:Nat) (s:ByteArray) (c:CS) (w:World) (h:CSt w b base s c) (hs:s.size <= maxLen) (hok:OkC s c.p) (hl:c.hd.length <= 100) (hB:base <= w.heap.size) :
  Calls Tryz.prog 156 #[.pointer (some ⟨b,0,none⟩)] w fun x w' => x = .returned (.bool (rhB c)) /\ CSt w' b base s (rhC s c) /\ Keeps (FH b base) w w':=by
 obtain ⟨hv,vv,av,h1,h2,h3,h4⟩:=h.ex
 have c1:=h1.c1
 have c2:=h1.c2
 have c3:=h1.c3
 have lb:=h1.lt
 have ha:=h.alloc (.cells #[.int .i64 c.p.k,.string c.p.t,.int .i64 c.p.a] 169)
 cases hk:tk c.p 2
 ·have HC:Hid (rhC s c = cw s c 2 /\ rhB c = false):=by
   constructor
   ·unfold rhC cw;rw [hk,tp_no hk];rfl
   ·unfold rhB;rw [hk];rfl
  go_enter Tryz.func156,Tryz.ntmps156
  go_wp2_with fail
  refine (cwant b base s c 2 2 _ ha rfl hs hok).mono ?_
  rintro x w1 ⟨rfl,hc1,k1⟩
  rw [hk]
  clear hk
  go_wp2
  go_ret
  exact ⟨ret_bool HC.out.2.symm,by rw [HC.out.1];exact hc1,((Keeps.refl _ _).alloc _).trans (Keeps.of k1 (fun _ _ x => Or.inl x))⟩
 ·have HK:Hid (tk c.p 2 = true):=hk
  have HW:Hid (cw s c 2 = { c with p:=pnext s c.p }):=by unfold Hid cw;rw [hk,tp_yes hk];rfl
  go_enter Tryz.func156,Tryz.ntmps156
  go_wp2_with fail
  refine (cwant b base s c 2 2 _ ha rfl hs hok).mono ?_
  rintro x w1 ⟨rfl,hc1,k1⟩
  rw [HW.out] at hc1
  rw [hk]
  clear hk
  have bl1:w1.heap[w.heap.size]? = some (.cells #[.int .i64 c.p.k,.string c.p.t,.int .i64 c.p.a] 169 (0,0)):=(k1.block w.heap.size (by simp) (show ¬ w.heap.size = b by omega)).trans (heap_alloc_new _ _)
  have hK1:Keeps (FH b base) w w1:=((Keeps.refl _ _).alloc _).trans (Keeps.of k1 (fun _ _ x => Or.inl x))
  have v1:w1.cell? ⟨w.heap.size,1,none⟩ = some (.string c.p.t):=by simp [World.cell?,bl1]
  obtain ⟨hv1,vv1,av1,g1,g2,g3,g4⟩:=hc1.ex
  have g1':Cdr w1 b s (pnext s c.p) hv1 vv1 av1 c.e c.a:=g1
  have d4:=g1.c4
  clear ha k1 h1 h2 h3 h4 c1 c2 c3 h
  go_upto_region 4 with fail
  go_cut [16] (fun x wx => x = .bool (decide (0 <= pixOf c.hd c.p.t)) /\ Below w1.heap.size w1 wx)
  case first =>
   go_region_with (go_at_call 173;refine (headHas_any b base c.hd hv1 c.p.t _ (by exact d4) (by exact (own_keeps g2 (F:=fun _ _ => False) (Keeps.refl _ _).drew (fun _ _ _ _ _ x => x))) (by omega)).mono ?_;rintro x w2 ⟨rfl,hb2⟩)
   all_goals (go_wp2;go_meet)
   all_goals exact ⟨rfl,⟨hb2.os,hb2.tape,hb2.output,hb2.size,hb2.block⟩⟩
  case rest =>
   obtain ⟨rfl,hb2⟩:=hcut
   obtain ⟨w2,hw2⟩:∃ w2:World,w2 = wc:=⟨_,rfl⟩
   subst hw2
   have hc2:=hc1.below hb2
   have hK2:Keeps (FH b base) w w2:=hK1.below hb2
   have bl2:=(hb2.block w.heap.size (lt_of_block bl1)).trans bl1
   have z1:w2.cell? ⟨w.heap.size,0,none⟩ = some (.int .i64 c.p.k):=by simp [World.cell?,bl2]
   have z2:w2.cell? ⟨w.heap.size,1,none⟩ = some (.string c.p.t):=by simp [World.cell?,bl2]
   have z3:w2.cell? ⟨w.heap.size,2,none⟩ = some (.int .i64 c.p.a):=by simp [World.cell?,bl2]
   have l2:w.heap.size < w2.heap.size:=lt_of_block bl2
   clear g1 g1' g2 g3 g4 d4 v1 hc1 bl1 hb2 hK1
   obtain ⟨hv2,vv2,av2,g1,g2,g3,g4⟩:=hc2.ex
   have d4:=g1.c4
   have lb2:=g1.lt
   have hB2:base <= w2.heap.size:=Nat.le_trans hB hK2.size
   obtain ⟨ha2,hcap2,hhv⟩:=own_form g2
   have hhv':hv2 = .slice ha2 c.hd.length hcap2:=hhv
   subst hhv'
   cases hx:decide (0 <= pixOf c.hd c.p.t)
   ·by_cases h6:c.hd.length = 6
    ·have HC:Hid (rhC s c = { c with p:=pnext s c.p,e:=3,a:=c.p.a } /\ rhB c = false):=by
      constructor
      ·unfold rhC;rw [HK.out,if_pos rfl,if_neg (of_decide_eq_false hx),if_pos h6]
      ·unfold rhB;rw [h6];simp
     have h6':((c.hd.length:Int) == 6) = true:=by rw [h6];rfl
     have H6:Hid (c.hd.length = 6):=h6
     clear h6 hx
     go_wp2_with fail
     refine (cfail b base s _ 3 3 c.p.a _ hc2 rfl).mono ?_
     rintro x w3 ⟨rfl,hc3,k3⟩
     go_wp2
     go_ret
     exact ⟨ret_bool HC.out.2.symm,by rw [HC.out.1];exact hc3,hK2.trans (Keeps.of k3 (fun _ _ x => Or.inl x))⟩
    ·have HC:Hid (rhC s c = { c with p:=pnext s c.p,hd:=c.hd ++ [c.p] } /\ rhB c = true):=by
      constructor
      ·unfold rhC;rw [HK.out,if_pos rfl,if_neg (of_decide_eq_false hx),if_neg h6]
      ·unfold rhB;rw [HK.out,hx,decide_eq_false h6];rfl
     have h6':((c.hd.length:Int) == 6) = false:=beq_eq_false_iff_ne.2 (by omega)
     clear h6 hx
     obtain ⟨i0,hi,hz0,hz1,hz2⟩:=info_parts Tryz.info169
     have HI:Hid _:=hi
     have HZ0:Hid _:=hz0
     have HZ1:Hid _:=hz1
     have HZ2:Hid _:=hz2
     clear hi hz0 hz1 hz2
     go_wp2_with fail
     go_region_law (refine step_append_own rfl (.tmp 37) (.tmp 39) 117 rfl base 169 i0 (.agg #[.int .i64 0,.string ⟨#[]⟩,.int .i64 0]) 3 32 Tryz.underlying117 HI.out HZ0.out HZ1.out HZ2.out rfl (by decide) (.slice ha2 c.hd.length hcap2) _ _ rfl (by exact (g2.alloc _)) ⟨w2.heap.size,0,none⟩ 1 1 [.int .i64 c.p.k,.string c.p.t,.int .i64 c.p.a] rfl rfl (three_new _ _ _ _ _) (by intro u hu;simp at hu;rcases hu with rfl | rfl | rfl <;> rfl) (by unfold maxLen;omega) (by omega) (by simp;omega) ?_;intro v' w3 hown3 hgrow3;obtain ⟨va3,cap3,rfl⟩:=own_form hown3;have FIN:=head_appended (c:={ c with p:=pnext s c.p }) (q:=c.p) g1 g2 g3 g4 (by exact ((Kept.refl (fun _ => False) w2).alloc _).drew) hgrow3 hown3;have e2:=FIN.2.1;have e3:=FIN.2.2)
     all_goals go_wp2
     all_goals go_ret
     all_goals exact ⟨ret_bool HC.out.2.symm,by rw [HC.out.1];exact FIN.1.1,hK2.trans FIN.1.2⟩
   ·have HC:Hid (rhC s c = { c with p:=pnext s c.p,e:=4,a:=c.p.a } /\ rhB c = false):=by
     constructor
     ·unfold rhC;rw [HK.out,if_pos rfl,if_pos (of_decide_eq_true hx)]
     ·unfold rhB;rw [hx];simp
    clear hx
    go_wp2_with fail
    refine (cfail b base s _ 4 4 c.p.a _ hc2 rfl).mono ?_
    rintro x w3 ⟨rfl,hc3,k3⟩
    go_wp2
    go_ret
    exact ⟨ret_bool HC.out.2.symm,by rw [HC.out.1];exact hc3,hK2.trans (Keeps.of k3 (fun _ _ x => Or.inl x))⟩
theorem OkC.rhC {s:ByteArray} {c:CS} (h:OkC s c.p):OkC s (rhC s c).p:=by
 unfold YtondkinefmjpjaaGreat.K.rhC
 split
 ·split
  ·exact h.next
  ·split <;> exact h.next
 ·exact h
theorem rhC_len {s:ByteArray} {c:CS} (h:rhB c = true):(rhC s c).hd.length = c.hd.length + 1 /\ c.hd.length ≠ 6:=by
 unfold rhB at h
 simp only [Bool.and_eq_true,Bool.not_eq_true',decide_eq_false_iff_not] at h
 unfold rhC
 rw [h.1.1,if_pos rfl,if_neg h.1.2,if_neg h.2]
 exact ⟨by simp,h.2⟩
def lh (s:ByteArray):Nat -> CS -> Bool × CS
 | 0,c => (false,c)
 | n + 1,c => if rhB c then (if tk (rhC s c).p 7 then lh s n { rhC s c with p:=tp s (rhC s c).p 7 } else (true,rhC s c)) else (false,rhC s c)
theorem slen_hd {w:World} {b base:Nat} {s:ByteArray} {c:CS} (h:CSt w b base s c):slen (w.cell? ⟨b,4,none⟩) = c.hd.length:=by
 obtain ⟨hv,vv,av,h1,h2,_,_⟩:=h.ex
 obtain ⟨a,cap,rfl⟩:=own_form h2
 rw [h1.c4];rfl
theorem readList_head (b base:Nat) (s:ByteArray) (c:CS) (w:World) (h:CSt w b base s c) (hs:s.size <= maxLen) (hok:OkC s c.p) (hl:c.hd.length <= 6) (hB:base <= w.heap.size) :
  Calls Tryz.prog 155 #[.pointer (some ⟨b,0,none⟩),.func (.func 156) #[.pointer (some ⟨b,0,none⟩)] #[]] w fun x w' => x = .returned (.bool (lh s (7 - c.hd.length) c).1) /\ CSt w' b base s (lh s (7 - c.hd.length) c).2 /\ Keeps (FH b base) w w':=by
 obtain ⟨R,hR⟩:∃ R,lh s (7 - c.hd.length) c = R:=⟨_,rfl⟩
 have HR:Hid (lh s (7 - c.hd.length) c = R):=hR
 rw [hR]
 clear hR
 go_enter Tryz.func155,Tryz.ntmps155
 go_wp2_with fail
 go_loopw [] (fun wr => ∃ c',CSt wr b base s c' /\ OkC s c'.p /\ c'.hd.length <= 6 /\ Keeps (FH b base) w wr /\ lh s (7 - c'.hd.length) c' = R) (fun wr => 7 - slen (wr.cell? ⟨b,4,none⟩))
 case atStart => exact ⟨c,h,hok,hl,Keeps.refl _ _,HR.out⟩
 case round =>
  obtain ⟨c1,h1,hok1,hl1,hk1,he1⟩:=hrel
  have HE:Hid (lh s (7 - c1.hd.length) c1 = R):=he1
  have HM:Hid (slen (wr.cell? ⟨b,4,none⟩) = c1.hd.length):=slen_hd h1
  clear he1
  have hB1:base <= wr.heap.size:=Nat.le_trans hB hk1.size
  go_wp2_with fail
  refine (readHeadVar_any b base s c1 _ h1 hs hok1 (by omega) hB1).mono ?_
  rintro x w2 ⟨rfl,h2,k2⟩
  have hok2:=hok1.rhC
  have HE2:Hid ((if rhB c1 then (if tk (rhC s c1).p 7 then lh s (6 - c1.hd.length) { rhC s c1 with p:=tp s (rhC s c1).p 7 } else (true,rhC s c1)) else (false,rhC s c1)) = R):=by
   have:=HE.out
   rw [show 7 - c1.hd.length = (6 - c1.hd.length) + 1 by omega,lh] at this
   exact this
  cases hb:rhB c1
  ·have HF:Hid (R = (false,rhC s c1)):=by unfold Hid;rw [← HE2.out,hb];rfl
   clear hb HE2 HE
   go_wp2_with fail
   go_ret
   exact ⟨ret_bool (by rw [HF.out]),by rw [HF.out];exact h2,hk1.trans k2⟩
  ·have hlen:=rhC_len (s:=s) hb
   have HL:Hid ((rhC s c1).hd.length = c1.hd.length + 1):=hlen.1
   have hne:=hlen.2
   have HB:Hid (rhB c1 = true):=hb
   clear hb hlen
   go_wp2_with fail
   refine (ctake b base s (rhC s c1) 7 7 _ h2 rfl hs hok2).mono ?_
   rintro x w3 ⟨rfl,h3,k3⟩
   have hk3:Keeps (FH b base) w w3:=(hk1.trans k2).trans (Keeps.of k3 (fun _ _ x => Or.inl x))
   cases ht:tk (rhC s c1).p 7
   ·have HF:Hid (R = (true,rhC s c1)):=by unfold Hid;rw [← HE2.out,HB.out,ht];rfl
    rw [tp_no ht] at h3
    clear ht
    go_wp2_with fail
    go_ret
    exact ⟨ret_bool (by rw [HF.out]),by rw [HF.out];exact h3,hk3⟩
   ·have HF:Hid (lh s (6 - c1.hd.length) { rhC s c1 with p:=tp s (rhC s c1).p 7 } = R):=by unfold Hid;rw [← HE2.out,HB.out,ht];rfl
    have HM3:Hid (slen (w3.cell? ⟨b,4,none⟩) = c1.hd.length + 1):=(slen_hd h3).trans HL.out
    clear ht
    go_wp2_with fail
    go_roundw
    case rel =>
     refine ⟨_,h3,hok2.tp 7,?_,hk3,?_⟩
     ·show (rhC s c1).hd.length <= 6;rw [HL.out];omega
     ·show lh s (7 - (rhC s c1).hd.length) _ = R
      rw [HL.out,show 7 - (c1.hd.length + 1) = 6 - c1.hd.length by omega];exact HF.out
    case measure => rw [HM.out,HM3.out];omega
def rdH (s:ByteArray) (c:CS):Bool × CS :=
 if tk c.p 5 then
  if tk (cw s c 5).p 6 then (true,{ cw s c 5 with p:=tp s (cw s c 5).p 6 })
  else if (lh s (7 - c.hd.length) (cw s c 5)).1 then (tk (lh s (7 - c.hd.length) (cw s c 5)).2.p 6,cw s (lh s (7 - c.hd.length) (cw s c 5)).2 6) else (false,(lh s (7 - c.hd.length) (cw s c 5)).2)
 else (false,cw s c 5)
theorem OkC.lh {s:ByteArray} (n:Nat) {c:CS} (h:OkC s c.p):OkC s (lh s n c).2.p:=by
 induction n generalizing c with
 | zero => exact h
 | succ n ih =>
  unfold YtondkinefmjpjaaGreat.K.lh
  split
  ·split
   ·exact ih (c:={ YtondkinefmjpjaaGreat.K.rhC s c with p:=YtondkinefmjpjaaGreat.K.tp s (YtondkinefmjpjaaGreat.K.rhC s c).p 7 }) (h.rhC.tp 7)
   ·exact h.rhC
  ·exact h.rhC
theorem readHead_any (b base:Nat) (s:ByteArray) (c:CS) (w:World) (h:CSt w b base s c) (hs:s.size <= maxLen) (hok:OkC s c.p) (hl:c.hd.length <= 6) (hB:base <= w.heap.size) :
  Calls Tryz.prog 118 #[.pointer (some ⟨b,0,none⟩)] w fun x w' => x = .returned (.bool (rdH s c).1) /\ CSt w' b base s (rdH s c).2 /\ Keeps (FH b base) w w':=by
 obtain ⟨R,hR⟩:∃ R,rdH s c = R:=⟨_,rfl⟩
 have HR:Hid (rdH s c = R):=hR
 rw [hR]
 clear hR
 have hok1:OkC s (cw s c 5).p:=hok.tp 5
 go_enter Tryz.func118,Tryz.ntmps118
 go_wp2_with fail
 refine (cwant b base s c 5 5 _ h rfl hs hok).mono ?_
 rintro x w1 ⟨rfl,h1,k1⟩
 have hk1:Keeps (FH b base) w w1:=Keeps.of k1 (fun _ _ x => Or.inl x)
 cases ht:tk c.p 5
 ·have HF:Hid (R = (false,cw s c 5)):=by unfold Hid;rw [← HR.out,rdH,ht];rfl
  clear ht
  go_wp2_with fail
  go_ret
  exact ⟨ret_bool (by rw [HF.out]),by rw [HF.out];exact h1,hk1⟩
 ·have HT:Hid (tk c.p 5 = true):=ht
  clear ht
  go_wp2_with fail
  refine (ctake b base s (cw s c 5) 6 6 _ h1 rfl hs hok1).mono ?_
  rintro x w2 ⟨rfl,h2,k2⟩
  have hk2:Keeps (FH b base) w w2:=hk1.trans (Keeps.of k2 (fun _ _ x => Or.inl x))
  cases ht:tk (cw s c 5).p 6
  ·have HT6:Hid (tk (cw s c 5).p 6 = false):=ht
   rw [tp_no ht] at h2
   clear ht
   have hB2:base <= w2.heap.size:=Nat.le_trans hB hk2.size
   go_wp2_with fail
   refine (readList_head b base s (cw s c 5) _ h2 hs hok1 hl hB2).mono ?_
   rintro x w3 ⟨rfl,h3,k3⟩
   have hk3:Keeps (FH b base) w w3:=hk2.trans k3
   have HRR:Hid (R = if (lh s (7 - c.hd.length) (cw s c 5)).1 then (tk (lh s (7 - c.hd.length) (cw s c 5)).2.p 6,cw s (lh s (7 - c.hd.length) (cw s c 5)).2 6) else (false,(lh s (7 - c.hd.length) (cw s c 5)).2)):=by
    unfold Hid;rw [← HR.out,rdH,HT.out,HT6.out];rfl
   obtain ⟨L,hL⟩:∃ L,lh s (7 - c.hd.length) (cw s c 5) = L:=⟨_,rfl⟩
   have hL':lh s (7 - (cw s c 5).hd.length) (cw s c 5) = L:=hL
   have hok3:OkC s L.2.p:=by rw [← hL];exact hok1.lh _
   rw [hL'] at h3 ⊢
   rw [hL] at HRR
   clear hL hL'
   cases hx:L.1
   ·have HF:Hid (R = (false,L.2)):=by unfold Hid;rw [HRR.out,hx];rfl
    clear hx
    go_wp2_with fail
    go_ret
    exact ⟨ret_bool (by rw [HF.out]),by rw [HF.out];exact h3,hk3⟩
   ·have HF:Hid (R = (tk L.2.p 6,cw s L.2 6)):=by unfold Hid;rw [HRR.out,hx];rfl
    clear hx
    go_wp2_with fail
    refine (cwant b base s L.2 6 6 _ h3 rfl hs hok3).mono ?_
    rintro x w4 ⟨rfl,h4,k4⟩
    go_wp2_with fail
    go_ret
    exact ⟨ret_bool (by rw [HF.out]),by rw [HF.out];exact h4,hk3.trans (Keeps.of k4 (fun _ _ x => Or.inl x))⟩
  ·have HF:Hid (R = (true,{ cw s c 5 with p:=tp s (cw s c 5).p 6 })):=by unfold Hid;rw [← HR.out,rdH,HT.out,ht];rfl
   clear ht
   go_wp2_with fail
   go_ret
   exact ⟨ret_bool (by rw [HF.out]),by rw [HF.out];exact h2,hk2⟩
theorem ccells_at (l:List CA) (ts:List (Option Addr × Nat)) (hts:ts.length = l.length) (k:Nat) (hk:k < l.length):∃ t:Option Addr × Nat,(ccells l ts)[k * 3]? = some (.string l[k].rel) /\ (ccells l ts)[k * 3 + 1]? = some (.slice t.1 l[k].n t.2) /\ (ccells l ts)[k * 3 + 2]? = some (.int .u8 l[k].set):=by
 induction l generalizing k ts with
 | nil => simp at hk
 | cons d l ih =>
  cases ts with
  | nil => simp at hts
  | cons t ts =>
   cases k with
   | zero => exact ⟨t,by simp [ccells,ccell]⟩
   | succ k =>
    obtain ⟨t',h'⟩:=ih ts (by simpa using hts) k (by simpa using hk)
    refine ⟨t',?_⟩
    have e:ccells (d :: l) (t :: ts) = [.string d.rel,.slice t.1 d.n t.2,.int .u8 d.set] ++ ccells l ts:=by simp [ccells,ccell]
    rw [e]
    have e0:(k + 1) * 3 = k * 3 + 3:=by omega
    rw [e0,List.getElem?_append_right (by simp),List.getElem?_append_right (by simp),List.getElem?_append_right (by simp)]
    simpa using h'
def oshape (rel:ByteArray) (n:Nat) (d:CA):Bool:=(d.rel.toList == rel.toList) && ((d.n:Int) != (n:Int))
def oixOf (ats:List CA) (rel:ByteArray) (n:Nat):Int:=if ats.findIdx (oshape rel n) < ats.length then (ats.findIdx (oshape rel n):Int) else -1
theorem otherShape1_any (d x:CA) (da xa:Option Addr) (dc xc:Nat) (TB:Nat) (w:World) (h0:w.cell? ⟨TB,0,none⟩ = some (.string x.rel)) (h1:w.cell? ⟨TB,1,none⟩ = some (.slice xa x.n xc)) :
  Calls Tryz.prog 182 #[.agg #[.string d.rel,.slice da d.n dc,.int .u8 d.set],.pointer (some ⟨TB,0,none⟩)] w fun y w' => y = .returned (.bool (oshape x.rel x.n d)) /\ Below w.heap.size w w':=by
 have lb:=World.block_lt_of_cell? _ _ h0
 have hdef:Hid (oshape x.rel x.n d = ((d.rel.toList == x.rel.toList) && ((d.n:Int) != (x.n:Int)))):=rfl
 cases hc:(d.rel.toList == x.rel.toList)
 ·have HD:Hid (oshape x.rel x.n d = false):=by unfold Hid;rw [hdef.out,hc];rfl
  go_enter Tryz.func182,Tryz.ntmps182
  go_wp2
  go_ret
  exact ⟨ret_bool HD.out.symm,(Below.refl _ _).alloc (Nat.le_refl _) _⟩
 ·have HD:Hid (oshape x.rel x.n d = ((d.n:Int) != (x.n:Int))):=by unfold Hid;rw [hdef.out,hc];rfl
  go_enter Tryz.func182,Tryz.ntmps182
  go_wp2
  go_ret
  exact ⟨ret_bool HD.out.symm,(Below.refl _ _).alloc (Nat.le_refl _) _⟩
theorem IndexFunc2_any (base TB:Nat) (ats:List CA) (ts:List (Option Addr × Nat)) (hts:ts.length = ats.length) (av:Value) (x:CA) (xa:Option Addr) (xc:Nat) (w:World) (ho:w.ownsRow base 180 3 av ats.length (ccells ats ts)) (hl:ats.length <= 1000) (h0:w.cell? ⟨TB,0,none⟩ = some (.string x.rel)) (h1:w.cell? ⟨TB,1,none⟩ = some (.slice xa x.n xc)) :
  Calls Tryz.prog 186 #[av,.func (.func 182) #[] #[.pointer (some ⟨TB,0,none⟩)]] w fun y w' => y = .returned (.int .i64 (oixOf ats x.rel x.n)) /\ Below w.heap.size w w':=by
 obtain ⟨ha,cap,rfl⟩:=own_form ho
 have lt:=World.block_lt_of_cell? _ _ h0
 go_enter Tryz.func186,Tryz.ntmps186
 go_wp2_with fail
 go_loopw [5,8] (fun _ i wr => ∃ k:Nat,k <= ats.length /\ i = .int .i64 k /\ Below w.heap.size w wr /\ ∀ j (hj:j < ats.length),j < k -> oshape x.rel x.n ats[j] = false) (fun _ i _ => ats.length - (intOf i).toNat)
 case atStart => exact ⟨0,Nat.zero_le _,rfl,Below.refl _ _,fun _ _ h => absurd h (Nat.not_lt_zero _)⟩
 case round =>
  obtain ⟨k,hk,rfl,hb,hd'⟩:=hrel
  have HD:Hid (∀ j (hj:j < ats.length),j < k -> oshape x.rel x.n ats[j] = false):=hd'
  clear hd'
  have hor:=own_below' ho hb
  have hc0:=(hb.cell (p:=⟨TB,0,none⟩) lt).trans h0
  have hc1:=(hb.cell (p:=⟨TB,1,none⟩) lt).trans h1
  by_cases hlt:k < ats.length
  ·obtain ⟨g,cap',he⟩:=own_some hor (by omega)
   simp only [Value.slice.injEq,true_and] at he
   obtain ⟨rfl,rfl⟩:=he
   obtain ⟨⟨da,dc⟩,x0,x1,x2⟩:=ccells_at ats ts hts k hlt
   have y0:=(hor.cellAt (k * 3) (by omega)).trans x0
   have y1:=(hor.cellAt (k * 3 + 1) (by omega)).trans x1
   have y2:=(hor.cellAt (k * 3 + 2) (by omega)).trans x2
   clear x0 x1 x2
   go_wp2_with fail
   refine (otherShape1_any ats[k] x da xa dc xc TB _ hc0 hc1).mono ?_
   rintro e w1 ⟨rfl,hb1⟩
   have hb01:Below w.heap.size w w1:=hb.trans (hb1.mono hb.size)
   cases hx:oshape x.rel x.n ats[k]
   ·go_wp2_with fail
    go_roundw
    case rel => exact ⟨k + 1,by omega,by go_num,hb01,fun j hj hjk => by
     by_cases e:j = k
     ·subst e;exact hx
     ·exact HD.out j hj (by omega)⟩
    case measure => simp [intOf];omega
   ·have HX:Hid (oixOf ats x.rel x.n = (k:Int)):=by
     have e:ats.findIdx (oshape x.rel x.n) = k:=(List.findIdx_eq hlt).2 ⟨hx,fun j hj => HD.out j (by omega) hj⟩
     unfold Hid oixOf;rw [e,if_pos hlt]
    go_wp2_with fail
    go_ret
    exact ⟨ret_int64 HX.out.symm,hb01⟩
  ·have HX:Hid (oixOf ats x.rel x.n = -1):=by
    have e:ats.findIdx (oshape x.rel x.n) = ats.length:=by
     refine List.findIdx_eq_length.2 (fun y hy => ?_)
     obtain ⟨j,hj,rfl⟩:=List.getElem_of_mem hy
     exact HD.out j hj (by omega)
    unfold Hid oixOf;rw [e,if_neg (by omega)]
   go_wp2_with fail
   go_ret
   exact ⟨ret_int64 HX.out.symm,hb⟩
theorem otherShape_any (b base:Nat) (ats:List CA) (av:Value) (x:CA) (xa:Option Addr) (xc:Nat) (w:World) (hc:w.cell? ⟨b,6,none⟩ = some av) (hA:AR w base av ats) (hl:ats.length <= 1000) :
  Calls Tryz.prog 175 #[.pointer (some ⟨b,4,none⟩),.agg #[.string x.rel,.slice xa x.n xc,.int .u8 x.set]] w fun y w' => y = .returned (.bool (decide (0 <= oixOf ats x.rel x.n))) /\ Below w.heap.size w w':=by
 obtain ⟨ts,hts,ho,_⟩:=hA
 obtain ⟨ha,cap,rfl⟩:=own_form ho
 have lb:=World.block_lt_of_cell? _ _ hc
 have t0:(w.alloc (.cells #[.string x.rel,.slice xa x.n xc,.int .u8 x.set] 180)).cell? ⟨w.heap.size,0,none⟩ = some (.string x.rel):=by simp
 have t1:(w.alloc (.cells #[.string x.rel,.slice xa x.n xc,.int .u8 x.set] 180)).cell? ⟨w.heap.size,1,none⟩ = some (.slice xa x.n xc):=by simp
 go_enter Tryz.func175,Tryz.ntmps175
 go_wp2_with (go_at_call 181;go_in)
 refine (IndexFunc2_any base w.heap.size ats ts hts _ x xa xc _ (ho.alloc _) hl t0 t1).mono ?_
 rintro e w1 ⟨rfl,hb1⟩
 obtain ⟨I,hI⟩:∃ I,oixOf ats x.rel x.n = I:=⟨_,rfl⟩
 have HI:Hid (oixOf ats x.rel x.n = I):=hI
 rw [hI]
 clear hI
 go_wp2
 go_ret
 exact ⟨ret_bool (by rw [HI.out]),((Below.refl _ _).alloc (Nat.le_refl _) _).trans (hb1.mono (by simp))⟩
end Go.Proofs.YtondkinefmjpjaaGreat.K
