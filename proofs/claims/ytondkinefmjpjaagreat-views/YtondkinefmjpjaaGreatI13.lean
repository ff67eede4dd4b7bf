import Derived.Deep.QuietTactic
import Derived.BigQuiet
import Derived.Deep.DeepCutAuto
import Derived.Test.YtondkinefmjpjaaGreatI12
set_option maxHeartbeats 4000000
set_option maxRecDepth 100000
namespace Go.Proofs.YtondkinefmjpjaaGreat.K
open Go.RowKit
structure TSt (w:World) (b base AB:Nat) (s:ByteArray) (p:Est.Pc) (vars:List ByteArray) (hv av:Value) (e a:Nat) (x:CA):Prop where
 ex:∃ vv,Cdr w b s p hv vv av e a /\ w.ownsRow base 9 1 vv vars.length (strs vars)
 at_:∃ ta tc,w.heap[AB]? = some (.cells #[.string x.rel,.slice ta x.n tc,.int .u8 x.set] 180 (0,0)) /\ w.ownsRow AB 205 2 (.slice ta x.n tc) x.n (kcells x.tm)
 le:base <= AB
def FT (b AB base:Nat):Nat -> Option Obj -> Prop:=fun k o => k = b ∨ k = AB ∨ (base <= k /\ (tag o = 9 ∨ (tag o = 205 /\ AB <= k)))
section
variable {w w':World} {b base AB:Nat} {s:ByteArray} {p p':Est.Pc} {vars:List ByteArray} {hv av:Value} {e a e' a':Nat} {x:CA}
theorem TSt.tgA (h:TSt w b base AB s p vars hv av e a x):tag w.heap[AB]? = 180:=by
 obtain ⟨_,_,h1,_⟩:=h.at_;rw [h1];rfl
theorem TSt.ltA (h:TSt w b base AB s p vars hv av e a x):AB < w.heap.size:=by
 obtain ⟨_,_,h1,_⟩:=h.at_;exact lt_of_block h1
theorem TSt.ne (h:TSt w b base AB s p vars hv av e a x):AB ≠ b:=by
 obtain ⟨vv,h1,_⟩:=h.ex
 intro e;have:=h1.tg;rw [← e,h.tgA] at this;simp at this
theorem TSt.below (h:TSt w b base AB s p vars hv av e a x) (hb:Below w.heap.size w w'):TSt w' b base AB s p vars hv av e a x:=by
 obtain ⟨vv,h1,h2⟩:=h.ex
 obtain ⟨ta,tc,h3,h4⟩:=h.at_
 exact ⟨⟨vv,⟨(hb.block b h1.lt).trans h1.blk⟩,own_below' h2 hb⟩,⟨ta,tc,(hb.block AB h.ltA).trans h3,own_below' h4 hb⟩,h.le⟩
theorem TSt.kept {vv:Value} (h:TSt w b base AB s p vars hv av e a x) (h1:Cdr w b s p hv vv av e a) (h2:w.ownsRow base 9 1 vv vars.length (strs vars)) (hc:Cdr w' b s p' hv vv av e' a') (k:Kept (· = b) w w'):TSt w' b base AB s p' vars hv av e' a' x:=by
 obtain ⟨ta,tc,h3,h4⟩:=h.at_
 have hK:Keeps (fun j _ => j = b) w w':=Keeps.of k (fun _ _ x => x)
 refine ⟨⟨vv,hc,own_keeps h2 hK (fun j _ _ h9 _ e => ?_)⟩,⟨ta,tc,(k.block AB h.ltA h.ne).trans h3,own_keeps h4 hK (fun j _ _ h9 _ e => ?_)⟩,h.le⟩
 ·rw [show j = b from e,h1.tg] at h9;simp at h9
 ·rw [show j = b from e,h1.tg] at h9;simp at h9
end
theorem ttake (b base AB:Nat) (s:ByteArray) (p:Est.Pc) (vars:List ByteArray) (hv av:Value) (e a:Nat) (x:CA) (n:Int) (k:Nat) (w:World) (h:TSt w b base AB s p vars hv av e a x) (hn:(k:Int) = n) (hs:s.size <= maxLen) (hok:OkC s p) :
  Calls Tryz.prog 154 #[.pointer (some ⟨b,0,none⟩),.int .i64 n] w fun y w' => y = .returned (.bool (tk p k)) /\ TSt w' b base AB s (tp s p k) vars hv av e a x /\ Kept (· = b) w w':=by
 obtain ⟨vv,h1,h2⟩:=h.ex
 exact (take_at b s p hv vv av e a n k w h1 hn hs hok).mono fun y w' ⟨e1,e2,e3⟩ => ⟨e1,h.kept h1 h2 e2 e3,e3⟩
theorem twant (b base AB:Nat) (s:ByteArray) (p:Est.Pc) (vars:List ByteArray) (hv av:Value) (e a:Nat) (x:CA) (n:Int) (k:Nat) (w:World) (h:TSt w b base AB s p vars hv av e a x) (hn:(k:Int) = n) (hs:s.size <= maxLen) (hok:OkC s p) :
  Calls Tryz.prog 119 #[.pointer (some ⟨b,0,none⟩),.int .i64 n] w fun y w' => y = .returned (.bool (tk p k)) /\ TSt w' b base AB s (tp s p k) vars hv av (if tk p k then e else 2) (if tk p k then a else p.a) x /\ Kept (· = b) w w':=by
 obtain ⟨vv,h1,h2⟩:=h.ex
 exact (want_at b s p hv vv av e a n k w h1 hn hs hok).mono fun y w' ⟨e1,e2,e3⟩ => ⟨e1,h.kept h1 h2 e2 e3,e3⟩
theorem tfail (b base AB:Nat) (s:ByteArray) (p:Est.Pc) (vars:List ByteArray) (hv av:Value) (e a:Nat) (x:CA) (n:Int) (e' a':Nat) (w:World) (h:TSt w b base AB s p vars hv av e a x) (hn:(e':Int) = n) :
  Calls Tryz.prog 157 #[.pointer (some ⟨b,0,none⟩),.int .i64 n,.int .i64 a'] w fun y w' => y = .returned (.bool false) /\ TSt w' b base AB s p vars hv av e' a' x /\ Kept (· = b) w w':=by
 obtain ⟨vv,h1,h2⟩:=h.ex
 exact (cfail_at b s p hv vv av e a n e' a' w h1 hn).mono fun y w' ⟨e1,e2,e3⟩ => ⟨e1,h.kept h1 h2 e2 e3,e3⟩
def setBit (z:Int) (n:Nat):Int:=bits BinOp.or IntKind.u8 z (2 ^ n % 256)
structure TR where
 ok:Bool
 p:Est.Pc
 vars:List ByteArray
 e:Nat
 a:Nat
 x:CA
def avR (s:ByteArray) (p:Est.Pc) (vars:List ByteArray) (e a:Nat) (x:CA):TR :=
 if tk p 2 then
  if 0 <= ixOf vars p.t then ⟨true,pnext s p,vars,e,a,{ x with n:=x.n + 1,set:=setBit x.set (ixOf vars p.t).toNat,tm:=x.tm ++ [(true,ixOf vars p.t)] }⟩
  else if vars.length = 6 then ⟨false,pnext s p,vars,3,p.a,x⟩
  else ⟨true,pnext s p,vars ++ [p.t],e,a,{ x with n:=x.n + 1,set:=setBit x.set vars.length,tm:=x.tm ++ [(true,(vars.length:Int))] }⟩
 else ⟨false,p,vars,2,p.a,x⟩
theorem ixOf_lt {vars:List ByteArray} {t:ByteArray} (h:0 <= ixOf vars t):(ixOf vars t).toNat < vars.length /\ ((ixOf vars t).toNat:Int) = ixOf vars t:=by
 unfold ixOf at h ⊢
 split at h
 ·rename_i hx;rw [if_pos hx];exact ⟨by simpa using hx,by simp⟩
 ·omega
theorem vars_appended {w w1 w2:World} {b base AB:Nat} {s:ByteArray} {p:Est.Pc} {vars:List ByteArray} {hv av vv vv':Value} {e a:Nat} {x:CA} {t:ByteArray} (h:TSt w b base AB s p vars hv av e a x) (h1:Cdr w b s p hv vv av e a) (h2:w.ownsRow base 9 1 vv vars.length (strs vars))
  (hk:Kept (fun _ => False) w w1) (hg:w1.grownBy w2 vv.ownBlock) (ho:w2.ownsRow base 9 1 vv' (vars.length + 1) (strs vars ++ [.string t])) :
  (TSt (w2.setCell ⟨b,5,none⟩ vv') b base AB s p (vars ++ [t]) hv av e a x /\ Keeps (FT b AB base) w (w2.setCell ⟨b,5,none⟩ vv')) /\ w2.cell? ⟨b,5,none⟩ = some vv /\ w2.frozen? ⟨b,5,none⟩ = false:=by
 have hbl:∀ k,vv.ownBlock = some k -> base <= k /\ tag w.heap[k]? = 9:=fun k hk => ⟨(own_tag h2 hk).1,(own_tag h2 hk).2.2⟩
 have k1:Keeps (fun k _ => vv.ownBlock = some k) w w2:=(Keeps.of hk (fun _ _ x => x.elim)).trans (Keeps.grown (Keeps.refl _ _) hg (fun k hk => hk))
 have k2:Keeps (fun k _ => k = b) w2 (w2.setCell ⟨b,5,none⟩ vv'):=(Keeps.refl _ _).setCell _ (fun _ => rfl) _
 have nb:vv.ownBlock ≠ some b:=fun e => by have:=(hbl _ e).2;rw [h1.tg] at this;simp at this
 have nA:vv.ownBlock ≠ some AB:=fun e => by have:=(hbl _ e).2;rw [h.tgA] at this;simp at this
 obtain ⟨ta,tc,h3,h4⟩:=h.at_
 have e2:w2.heap[b]? = some (cdBlk s p hv vv av e a):=(k1.block b h1.lt nb).trans h1.blk
 have eA:w2.heap[AB]? = some (.cells #[.string x.rel,.slice ta x.n tc,.int .u8 x.set] 180 (0,0)):=(k1.block AB h.ltA nA).trans h3
 have t2:tag w2.heap[b]? = 172:=by rw [e2];rfl
 refine ⟨⟨⟨⟨vv',⟨?_⟩,?_⟩,⟨ta,tc,?_,?_⟩,h.le⟩,?_⟩,by simp [World.cell?,e2,cdBlk],by simp [World.frozen?,e2,cdBlk]⟩
 ·rw [blk_setCell e2 5 vv'];simp [cdBlk,Array.setIfInBounds]
 ·have:=own_keeps ho k2 (fun k _ _ h9 _ e => by rw [show k = b from e,t2] at h9;simp at h9)
  simpa [strs] using this
 ·rw [Below.heap_setCell _ _ _ _ h.ne];exact eA
 ·exact own_keeps (own_keeps h4 k1 (fun k _ _ h9 _ e => by have:=(hbl k e).2;rw [h9] at this;simp at this)) k2 (fun k _ _ h9 _ e => by rw [show k = b from e,t2] at h9;simp at h9)
 ·exact (k1.mono_at (fun k hk => Or.inr (Or.inr ⟨(hbl k hk).1,Or.inl (hbl k hk).2⟩))).trans (k2.mono (fun _ _ x => Or.inl x))
theorem terms_appended {w w1 w2:World} {b base AB:Nat} {s:ByteArray} {p:Est.Pc} {vars:List ByteArray} {hv av:Value} {e a:Nat} {x:CA} {ta ta':Option Addr} {tc tc':Nat} {u:Bool × Int} (h:TSt w b base AB s p vars hv av e a x)
  (h3:w.heap[AB]? = some (.cells #[.string x.rel,.slice ta x.n tc,.int .u8 x.set] 180 (0,0))) (h4:w.ownsRow AB 205 2 (.slice ta x.n tc) x.n (kcells x.tm))
  (hk:Kept (fun _ => False) w w1) (hg:w1.grownBy w2 (Value.slice ta x.n tc).ownBlock) (ho:w2.ownsRow AB 205 2 (.slice ta' (x.n + 1) tc') (x.n + 1) (kcells x.tm ++ [.bool u.1,.int .i64 u.2])) :
  (TSt (w2.setCell ⟨AB,1,none⟩ (.slice ta' (x.n + 1) tc')) b base AB s p vars hv av e a { x with n:=x.n + 1,tm:=x.tm ++ [u] } /\ Keeps (FT b AB base) w (w2.setCell ⟨AB,1,none⟩ (.slice ta' (x.n + 1) tc'))) /\ w2.cell? ⟨AB,1,none⟩ = some (.slice ta x.n tc) /\ w2.frozen? ⟨AB,1,none⟩ = false:=by
 obtain ⟨vv,h1,h2⟩:=h.ex
 have hbl:∀ k,(Value.slice ta x.n tc).ownBlock = some k -> AB <= k /\ tag w.heap[k]? = 205:=fun k hk => ⟨(own_tag h4 hk).1,(own_tag h4 hk).2.2⟩
 rw [← kcells_snoc] at ho
 have k1:Keeps (fun k _ => (Value.slice ta x.n tc).ownBlock = some k) w w2:=(Keeps.of hk (fun _ _ x => x.elim)).trans (Keeps.grown (Keeps.refl _ _) hg (fun k hk => hk))
 have k2:Keeps (fun k _ => k = AB) w2 (w2.setCell ⟨AB,1,none⟩ (.slice ta' (x.n + 1) tc')):=(Keeps.refl _ _).setCell _ (fun _ => rfl) _
 have nb:(Value.slice ta x.n tc).ownBlock ≠ some b:=fun e => by have:=(hbl _ e).2;rw [h1.tg] at this;simp at this
 have nA:(Value.slice ta x.n tc).ownBlock ≠ some AB:=fun e => by have:=(hbl _ e).2;rw [h.tgA] at this;simp at this
 have eA:w2.heap[AB]? = some (.cells #[.string x.rel,.slice ta x.n tc,.int .u8 x.set] 180 (0,0)):=(k1.block AB h.ltA nA).trans h3
 have tA:tag w2.heap[AB]? = 180:=by rw [eA];rfl
 refine ⟨⟨⟨⟨vv,(h1.keeps k1 nb).keeps k2 (fun e => h.ne e.symm),?_⟩,⟨ta',tc',?_,?_⟩,h.le⟩,?_⟩,by simp [World.cell?,eA],by simp [World.frozen?,eA]⟩
 ·exact own_keeps (own_keeps h2 k1 (fun k _ _ h9 _ e => by have:=(hbl k e).2;rw [h9] at this;simp at this)) k2 (fun k _ _ h9 _ e => by rw [show k = AB from e,tA] at h9;simp at h9)
 ·rw [blk_setCell eA 1 _];simp [Array.setIfInBounds]
 ·exact own_keeps ho k2 (fun k _ _ h9 _ e => by rw [show k = AB from e,tA] at h9;simp at h9)
 ·exact (k1.mono_at (fun k hk => Or.inr (Or.inr ⟨Nat.le_trans h.le (hbl k hk).1,Or.inr ⟨(hbl k hk).2,(hbl k hk).1⟩⟩))).trans (k2.mono (fun _ _ x => Or.inr (Or.inl x)))
theorem TSt.marked {w:World} {b base AB:Nat} {s:ByteArray} {p:Est.Pc} {vars:List ByteArray} {hv av:Value} {e a:Nat} {x:CA} (h:TSt w b base AB s p vars hv av e a x) (z:Int) :
  TSt (w.setCell ⟨AB,2,none⟩ (.int .u8 z)) b base AB s p vars hv av e a { x with set:=z } /\ Keeps (FT b AB base) w (w.setCell ⟨AB,2,none⟩ (.int .u8 z)):=by
 obtain ⟨vv,h1,h2⟩:=h.ex
 obtain ⟨ta,tc,h3,h4⟩:=h.at_
 have k2:Keeps (fun k _ => k = AB) w (w.setCell ⟨AB,2,none⟩ (.int .u8 z)):=(Keeps.refl _ _).setCell _ (fun _ => rfl) _
 refine ⟨⟨⟨vv,h1.keeps k2 (fun e => h.ne e.symm),own_keeps h2 k2 (fun k _ _ h9 _ e => by rw [show k = AB from e,h.tgA] at h9;simp at h9)⟩,⟨ta,tc,?_,own_keeps h4 k2 (fun k _ _ h9 _ e => by rw [show k = AB from e,h.tgA] at h9;simp at h9)⟩,h.le⟩,k2.mono (fun _ _ x => Or.inr (Or.inl x))⟩
 rw [blk_setCell h3 2 _];simp [Array.setIfInBounds]
theorem TSt.drewN {w:World} {b base AB:Nat} {s:ByteArray} {p:Est.Pc} {vars:List ByteArray} {hv av:Value} {e a:Nat} {x:CA} (h:TSt w b base AB s p vars hv av e a x) (n:Nat):TSt (w.drewN n) b base AB s p vars hv av e a x :=
 h.below ⟨rfl,rfl,rfl,Nat.le_refl _,fun _ _ => rfl⟩
theorem Keeps.drewN {F:Nat -> Option Obj -> Prop} {a w:World} (h:Keeps F a w) (n:Nat):Keeps F a (w.drewN n):=⟨h.os,h.tape,h.output,h.size,h.block⟩
theorem Tryz.info205:(Tryz.prog.info? 205).map (fun i => (i.zero,i.size,i.bytes)) = some (some (.agg #[.bool false,.int .i64 0]),2,16):=by kernel_rfl
theorem readAtomVar_any (b base AB:Nat) (s:ByteArray) (p:Est.Pc) (vars:List ByteArray) (hv av:Value) (e a:Nat) (x:CA) (w:World) (h:TSt w b base AB s p vars hv av e a x) (hs:s.size <= maxLen) (hok:OkC s p) (hl:vars.length <= 6) (hB:base <= w.heap.size) (hx2:x.n <= 2) :
  Calls Tryz.prog 185 #[.pointer (some ⟨b,0,none⟩),.pointer (some ⟨AB,0,none⟩)] w fun y w' => y = .returned (.bool (avR s p vars e a x).ok) /\ TSt w' b base AB s (avR s p vars e a x).p (avR s p vars e a x).vars hv av (avR s p vars e a x).e (avR s p vars e a x).a (avR s p vars e a x).x /\ Keeps (FT b AB base) w w':=by
 obtain ⟨R,hR⟩:∃ R,avR s p vars e a x = R:=⟨_,rfl⟩
 have HR:Hid (avR s p vars e a x = R):=hR
 rw [hR]
 clear hR
 obtain ⟨vv,h1,h2⟩:=h.ex
 have c1:=h1.c1
 have c2:=h1.c2
 have c3:=h1.c3
 have lb:=h1.lt
 have la:=h.ltA
 have ha:TSt (w.alloc (.cells #[.int .i64 p.k,.string p.t,.int .i64 p.a] 169)) b base AB s p vars hv av e a x:=h.below ((Below.refl _ _).alloc (Nat.le_refl _) _)
 cases hk:tk p 2
 ·have HF:Hid (R = ⟨false,p,vars,2,p.a,x⟩):=by unfold Hid;rw [← HR.out,avR,hk];rfl
  go_enter Tryz.func185,Tryz.ntmps185
  go_wp2_with fail
  refine (twant b base AB s p vars hv av e a x 2 2 _ ha rfl hs hok).mono ?_
  rintro y w1 ⟨rfl,hc1,k1⟩
  rw [hk,tp_no hk] at hc1
  rw [hk]
  clear hk
  go_wp2
  go_ret
  exact ⟨ret_bool (by rw [HF.out]),by rw [HF.out];exact hc1,((Keeps.refl _ _).alloc _).trans (Keeps.of k1 (fun _ _ x => Or.inl x))⟩
 ·have HK:Hid (tk p 2 = true):=hk
  go_enter Tryz.func185,Tryz.ntmps185
  go_wp2_with fail
  refine (twant b base AB s p vars hv av e a x 2 2 _ ha rfl hs hok).mono ?_
  rintro y w1 ⟨rfl,hc1,k1⟩
  rw [hk,if_pos rfl,if_pos rfl,tp_yes hk] at hc1
  rw [hk]
  clear hk
  have hK1:Keeps (FT b AB base) w w1:=((Keeps.refl _ _).alloc _).trans (Keeps.of k1 (fun _ _ x => Or.inl x))
  have bl1:w1.heap[w.heap.size]? = some (.cells #[.int .i64 p.k,.string p.t,.int .i64 p.a] 169 (0,0)):=(k1.block w.heap.size (by simp) (show ¬ w.heap.size = b by omega)).trans (heap_alloc_new _ _)
  have v1:w1.cell? ⟨w.heap.size,1,none⟩ = some (.string p.t):=by simp [World.cell?,bl1]
  have v2:w1.cell? ⟨w.heap.size,2,none⟩ = some (.int .i64 p.a):=by simp [World.cell?,bl1]
  have lv:w.heap.size < w1.heap.size:=lt_of_block bl1
  obtain ⟨vv1,g1,g2⟩:=hc1.ex
  have d5:=g1.c5
  have lb1:=g1.lt
  have hB1:base <= w1.heap.size:=Nat.le_trans hB hK1.size
  obtain ⟨i1,hix⟩:∃ i,ixOf vars p.t = i:=⟨_,rfl⟩
  have HIX:Hid (ixOf vars p.t = i1):=hix
  clear h1 h2 c1 c2 c3 h ha k1
  by_cases hn:0 <= i1
  ·obtain ⟨n,hni⟩:∃ n:Nat,i1 = n:=⟨i1.toNat,by omega⟩
   subst hni
   have hn5:n <= 5:=by
    have:=ixOf_lt (vars:=vars) (t:=p.t) (by rw [hix];exact hn)
    rw [hix] at this;have:=this.1;simp at this;omega
   have HF:Hid (R = ⟨true,pnext s p,vars,e,a,{ x with n:=x.n + 1,set:=setBit x.set n,tm:=x.tm ++ [(true,(n:Int))] }⟩):=by
    unfold Hid;rw [← HR.out,avR,HK.out,if_pos rfl,HIX.out,if_pos hn];simp
   clear hix
   obtain ⟨j0,hj,hw0,hw1,hw2'⟩:=info_parts Tryz.info205
   have HJ:Hid _:=hj
   have HW0:Hid _:=hw0
   have HW1:Hid _:=hw1
   have HW2:Hid _:=hw2'
   clear hj hw0 hw1 hw2'
   go_wp2_with fail
   go_quiet ((go_at_call 88;exact Calls.quiet_of_same (varNumber_any b base vars vv1 p.t _ (by exact d5) (by exact g2) (by omega))))
   rw [HIX.out]
   obtain ⟨w2,hw2⟩:∃ w2:World,w2 = w1.drewN nq:=⟨_,rfl⟩
   have hc2:TSt w2 b base AB s (pnext s p) vars hv av e a x:=by rw [hw2];exact hc1.drewN nq
   have hK2:Keeps (FT b AB base) w w2:=by rw [hw2];exact hK1.drewN nq
   have hB2:base <= w2.heap.size:=by rw [hw2];exact hB1
   rw [← hw2]
   clear hw2 hc1 hK1 g1 g2 v1 v2 d5 bl1 lv lb1 hB1
   obtain ⟨ta,tc,x3,x4⟩:=hc2.at_
   have t1:w2.cell? ⟨AB,1,none⟩ = some (.slice ta x.n tc):=by simp [World.cell?,x3]
   have lA:AB < w2.heap.size:=hc2.ltA
   go_upto_region 10 with fail
   go_cut [] (fun wx => TSt wx b base AB s (pnext s p) vars hv av e a { x with n:=x.n + 1,tm:=x.tm ++ [(true,(n:Int))] } /\ Keeps (FT b AB base) w wx)
   case first =>
    go_wp2_with (at_builtin;refine wpList_append_own _ rfl (.tmp 51) (.tmp 54) 156 rfl AB 205 j0 (.agg #[.bool false,.int .i64 0]) 2 16 Tryz.underlying156 HJ.out HW0.out HW1.out HW2.out rfl (by decide) (.slice ta x.n tc) _ _ rfl (x4.alloc _) ⟨w2.heap.size,0,none⟩ 1 1 [.bool true,.int .i64 n] rfl rfl (two_new _ _ _ _) (by intro u hu;simp at hu;rcases hu with rfl | rfl <;> rfl) (by unfold maxLen;omega) (by omega) (by simp;omega) ?_;intro v' w4 hown4 hgrow4;obtain ⟨va4,cap4,rfl⟩:=own_form hown4;have FIN:=terms_appended (u:=(true,(n:Int))) hc2 x3 x4 (by exact (Kept.refl (fun _ => False) w2).alloc _) hgrow4 hown4;have e2:=FIN.2.1;have e3:=FIN.2.2)
    go_meet
    exact ⟨FIN.1.1,hK2.trans FIN.1.2⟩
   case rest =>
    obtain ⟨hc5,hK5⟩:=hcut
    obtain ⟨tb,td,x5,_⟩:=hc5.at_
    have a2:wc.cell? ⟨AB,2,none⟩ = some (.int .u8 x.set):=by simp [World.cell?,x5]
    have f2:wc.frozen? ⟨AB,2,none⟩ = false:=by simp [World.frozen?,x5]
    go_wp2_with fail
    go_region
    all_goals go_wp2
    all_goals go_ret
    all_goals
     have FIN:=(hc5.drewN 1).marked (setBit x.set n)
     exact ⟨ret_bool (by rw [HF.out]),by rw [HF.out];exact FIN.1,(hK5.drewN 1).trans FIN.2⟩
  ·obtain ⟨va,vcap,hvv⟩:=own_form g2
   subst hvv
   by_cases h6:vars.length = 6
   ·have HF:Hid (R = ⟨false,pnext s p,vars,3,p.a,x⟩):=by
     unfold Hid;rw [← HR.out,avR,HK.out,if_pos rfl,HIX.out,if_neg hn,if_pos h6]
    have h6':((vars.length:Int) == 6) = true:=by rw [h6];rfl
    have hi0:i1 < 0:=by omega
    clear hix h6
    go_wp2_with fail
    go_quiet ((go_at_call 88;exact Calls.quiet_of_same (varNumber_any b base vars _ p.t _ (by exact d5) (by exact g2) (by omega))))
    rw [HIX.out]
    go_wp2_with fail
    refine (tfail b base AB s _ vars hv av e a x 3 3 p.a _ (hc1.drewN nq) rfl).mono ?_
    rintro y w2 ⟨rfl,hc2,k2⟩
    go_wp2
    go_ret
    exact ⟨ret_bool (by rw [HF.out]),by rw [HF.out];exact hc2,(hK1.drewN nq).trans (Keeps.of k2 (fun _ _ x => Or.inl x))⟩
   ·have HF:Hid (R = ⟨true,pnext s p,vars ++ [p.t],e,a,{ x with n:=x.n + 1,set:=setBit x.set vars.length,tm:=x.tm ++ [(true,(vars.length:Int))] }⟩):=by
     unfold Hid;rw [← HR.out,avR,HK.out,if_pos rfl,HIX.out,if_neg hn,if_neg h6]
    have h6':((vars.length:Int) == 6) = false:=beq_eq_false_iff_ne.2 (by omega)
    have hi0:i1 < 0:=by omega
    have hl5:vars.length <= 5:=by omega
    clear hix h6
    obtain ⟨j0,hj,hw0,hw1,hw2'⟩:=info_parts Tryz.info205
    have HJ:Hid _:=hj
    have HW0:Hid _:=hw0
    have HW1:Hid _:=hw1
    have HW2:Hid _:=hw2'
    clear hj hw0 hw1 hw2'
    obtain ⟨i0,hi,hz0,hz1,hz2⟩:=info_parts Tryz.info9
    have HI:Hid _:=hi
    have HZ0:Hid _:=hz0
    have HZ1:Hid _:=hz1
    have HZ2:Hid _:=hz2
    clear hi hz0 hz1 hz2
    go_wp2_with fail
    go_quiet ((go_at_call 88;exact Calls.quiet_of_same (varNumber_any b base vars _ p.t _ (by exact d5) (by exact g2) (by omega))))
    rw [HIX.out]
    obtain ⟨w2,hw2⟩:∃ w2:World,w2 = w1.drewN nq:=⟨_,rfl⟩
    have hc2:TSt w2 b base AB s (pnext s p) vars hv av e a x:=by rw [hw2];exact hc1.drewN nq
    have hK2:Keeps (FT b AB base) w w2:=by rw [hw2];exact hK1.drewN nq
    have g12:Cdr w2 b s (pnext s p) hv (.slice va vars.length vcap) av e a:=by rw [hw2];exact ⟨g1.blk⟩
    have g22:w2.ownsRow base 9 1 (.slice va vars.length vcap) vars.length (strs vars):=by rw [hw2];exact own_below' g2 ⟨rfl,rfl,rfl,Nat.le_refl _,fun _ _ => rfl⟩
    have v12:w2.cell? ⟨w.heap.size,1,none⟩ = some (.string p.t):=by rw [hw2];exact v1
    have v22:w2.cell? ⟨w.heap.size,2,none⟩ = some (.int .i64 p.a):=by rw [hw2];exact v2
    have d52:=g12.c5
    have l1:=g12.lt
    have l2:w.heap.size < w2.heap.size:=by rw [hw2];exact lv
    have hB2:base <= w2.heap.size:=by rw [hw2];exact hB1
    rw [← hw2]
    clear hw2 hc1 hK1 g1 g2 v1 v2 d5 bl1 lv lb1 hB1
    go_upto_region 9 with fail
    go_cut [] (fun wx => TSt wx b base AB s (pnext s p) (vars ++ [p.t]) hv av e a x /\ Keeps (FT b AB base) w wx)
    case first =>
     go_region_law (refine step_append_own rfl (.tmp 39) (.tmp 42) 43 rfl base 9 i0 (.string ⟨#[]⟩) 1 16 Tryz.underlying43 HI.out HZ0.out HZ1.out HZ2.out rfl (by decide) (.slice va vars.length vcap) _ _ rfl (by exact (g22.alloc _)) ⟨w2.heap.size,0,none⟩ 1 1 [.string p.t] rfl rfl (one_new _ _ _) (by intro u hu;simp at hu;subst hu;rfl) (by unfold maxLen;omega) (by omega) (by simp;omega) ?_;intro v' w3 hown3 hgrow3;obtain ⟨va3,cap3,rfl⟩:=own_form hown3;have FIN:=vars_appended (t:=p.t) hc2 g12 g22 (by exact ((Kept.refl (fun _ => False) w2).alloc _).drew) hgrow3 hown3;have e2:=FIN.2.1;have e3:=FIN.2.2)
     all_goals (go_wp2;go_meet)
     all_goals exact ⟨FIN.1.1,hK2.trans FIN.1.2⟩
    case rest =>
     obtain ⟨hc3,hK3⟩:=hcut
     obtain ⟨w3,hw3⟩:∃ w3:World,w3 = wc:=⟨_,rfl⟩
     subst hw3
     have hB3:base <= w3.heap.size:=Nat.le_trans hB hK3.size
     clear hc2 hK2 g12 g22 v12 v22 d52 l1 l2 hB2
     obtain ⟨ta,tc,x3,x4⟩:=hc3.at_
     have t1:w3.cell? ⟨AB,1,none⟩ = some (.slice ta x.n tc):=by simp [World.cell?,x3]
     have lA:AB < w3.heap.size:=hc3.ltA
     go_upto_region 10 with fail
     go_cut [] (fun wx => TSt wx b base AB s (pnext s p) (vars ++ [p.t]) hv av e a { x with n:=x.n + 1,tm:=x.tm ++ [(true,(vars.length:Int))] } /\ Keeps (FT b AB base) w wx)
     case first =>
      go_wp2_with (at_builtin;refine wpList_append_own _ rfl (.tmp 51) (.tmp 54) 156 rfl AB 205 j0 (.agg #[.bool false,.int .i64 0]) 2 16 Tryz.underlying156 HJ.out HW0.out HW1.out HW2.out rfl (by decide) (.slice ta x.n tc) _ _ rfl (x4.alloc _) ⟨w3.heap.size,0,none⟩ 1 1 [.bool true,.int .i64 vars.length] rfl rfl (two_new _ _ _ _) (by intro u hu;simp at hu;rcases hu with rfl | rfl <;> rfl) (by unfold maxLen;omega) (by omega) (by simp;omega) ?_;intro v' w4 hown4 hgrow4;obtain ⟨va4,cap4,rfl⟩:=own_form hown4;have FIN:=terms_appended (u:=(true,(vars.length:Int))) hc3 x3 x4 (by exact (Kept.refl (fun _ => False) w3).alloc _) hgrow4 hown4;have e2:=FIN.2.1;have e3:=FIN.2.2)
      go_meet
      exact ⟨FIN.1.1,hK3.trans FIN.1.2⟩
     case rest =>
      obtain ⟨hc5,hK5⟩:=hcut
      obtain ⟨tb,td,x5,_⟩:=hc5.at_
      have a2:wc.cell? ⟨AB,2,none⟩ = some (.int .u8 x.set):=by simp [World.cell?,x5]
      have f2:wc.frozen? ⟨AB,2,none⟩ = false:=by simp [World.frozen?,x5]
      go_wp2_with fail
      go_region
      all_goals go_wp2
      all_goals go_ret
      all_goals
       have FIN:=(hc5.drewN 1).marked (setBit x.set vars.length)
       exact ⟨ret_bool (by rw [HF.out]),by rw [HF.out];exact FIN.1,(hK5.drewN 1).trans FIN.2⟩
def trR (s:ByteArray) (p:Est.Pc) (vars:List ByteArray) (e a:Nat) (x:CA):TR :=
 if x.n = 3 then ⟨false,p,vars,3,p.a,x⟩
 else if tk p 4 then ⟨true,pnext s p,vars,e,a,{ x with n:=x.n + 1,tm:=x.tm ++ [(false,numM p.t p.t.size)] }⟩ else avR s p vars e a x
theorem smallNumber_any (t:ByteArray) (w:World) (ht:t.size <= maxLen) :
  Calls Tryz.prog 184 #[.string t] w fun x w' => x = .returned (.int .i64 (numM t t.size)) /\ w' = w:=by
 unfold maxLen at ht
 go_enter Tryz.func184,Tryz.ntmps184
 go_wp2
 go_loop [3,4,7] (fun n _ i => ∃ k:Nat,k <= t.size /\ i = .int .i64 k /\ n = .int .i64 (numM t k)) (fun _ _ i => t.size - (intOf i).toNat)
 case atStart => exact ⟨0,Nat.zero_le _,rfl,rfl⟩
 case round =>
  obtain ⟨k,hk,rfl,rfl⟩:=hrel
  by_cases hlt:k < t.size
  ·have HN:Hid (numM t (k + 1) = wrap64 (wrap64 (10 * numM t k) + ((t[k].toNat:Int) - 48) % 256)):=by unfold Hid;rw [numM,dif_pos hlt]
   go_wp2
   all_goals
    go_round
    case rel => exact ⟨k + 1,by omega,by go_num,by rw [HN.out]⟩
    case measure => simp [intOf];omega
  ·go_wp2
   have hkt:k = t.size:=by omega
   subst hkt
   go_ret
   exact ⟨rfl,rfl⟩
theorem readTerm_any (b base AB:Nat) (s:ByteArray) (p:Est.Pc) (vars:List ByteArray) (hv av:Value) (e a:Nat) (x:CA) (w:World) (h:TSt w b base AB s p vars hv av e a x) (hs:s.size <= maxLen) (hok:OkC s p) (hl:vars.length <= 6) (hB:base <= w.heap.size) (hx3:x.n <= 3) :
  Calls Tryz.prog 180 #[.pointer (some ⟨b,0,none⟩),.pointer (some ⟨AB,0,none⟩)] w fun y w' => y = .returned (.bool (trR s p vars e a x).ok) /\ TSt w' b base AB s (trR s p vars e a x).p (trR s p vars e a x).vars hv av (trR s p vars e a x).e (trR s p vars e a x).a (trR s p vars e a x).x /\ Keeps (FT b AB base) w w':=by
 obtain ⟨R,hR⟩:∃ R,trR s p vars e a x = R:=⟨_,rfl⟩
 have HR:Hid (trR s p vars e a x = R):=hR
 rw [hR]
 clear hR
 obtain ⟨vv,h1,h2⟩:=h.ex
 obtain ⟨ta0,tc0,y3,_⟩:=h.at_
 have c2:=h1.c2
 have c3:=h1.c3
 have a1:w.cell? ⟨AB,1,none⟩ = some (.slice ta0 x.n tc0):=by simp [World.cell?,y3]
 have HTS:Hid (p.t.size <= maxLen):=by have:=hok.1;unfold Hid;omega
 by_cases h3:x.n = 3
 ·have HF:Hid (R = ⟨false,p,vars,3,p.a,x⟩):=by unfold Hid;rw [← HR.out,trR,if_pos h3]
  have h3':((x.n:Int) == 3) = true:=by rw [h3];rfl
  clear h3
  go_enter Tryz.func180,Tryz.ntmps180
  go_wp2_with fail
  refine (tfail b base AB s p vars hv av e a x 3 3 p.a _ h rfl).mono ?_
  rintro y w1 ⟨rfl,hc1,k1⟩
  go_wp2
  go_ret
  exact ⟨ret_bool (by rw [HF.out]),by rw [HF.out];exact hc1,Keeps.of k1 (fun _ _ x => Or.inl x)⟩
 ·have H3:Hid (¬ x.n = 3):=h3
  have h3':((x.n:Int) == 3) = false:=beq_eq_false_iff_ne.2 (by omega)
  have hx2:x.n <= 2:=by omega
  clear h3
  go_enter Tryz.func180,Tryz.ntmps180
  go_wp2_with fail
  refine (ttake b base AB s p vars hv av e a x 4 4 _ h rfl hs hok).mono ?_
  rintro y w1 ⟨rfl,hc1,k1⟩
  have hK1:Keeps (FT b AB base) w w1:=Keeps.of k1 (fun _ _ x => Or.inl x)
  have hB1:base <= w1.heap.size:=Nat.le_trans hB hK1.size
  clear c2 c3 a1 y3 h1 h2
  cases ht:tk p 4
  ·rw [tp_no ht] at hc1
   have HF:Hid (R = avR s p vars e a x):=by unfold Hid;rw [← HR.out,trR,if_neg H3.out,ht];rfl
   clear ht
   go_wp2_with fail
   refine (readAtomVar_any b base AB s p vars hv av e a x _ hc1 hs hok hl hB1 hx2).mono ?_
   rintro y w2 ⟨rfl,hc2,k2⟩
   rw [← HF.out] at hc2 ⊢
   go_wp2
   go_ret
   exact ⟨rfl,hc2,hK1.trans k2⟩
  ·have HF:Hid (R = ⟨true,pnext s p,vars,e,a,{ x with n:=x.n + 1,tm:=x.tm ++ [(false,numM p.t p.t.size)] }⟩):=by unfold Hid;rw [← HR.out,trR,if_neg H3.out,ht];rfl
   rw [tp_yes ht] at hc1
   clear ht
   obtain ⟨ta,tc,x3,x4⟩:=hc1.at_
   obtain ⟨NM,hNM⟩:∃ NM,numM p.t p.t.size = NM:=⟨_,rfl⟩
   have HNM:Hid (numM p.t p.t.size = NM):=hNM
   rw [hNM] at HF
   clear hNM
   have t1:w1.cell? ⟨AB,1,none⟩ = some (.slice ta x.n tc):=by simp [World.cell?,x3]
   have lA:AB < w1.heap.size:=hc1.ltA
   obtain ⟨j0,hj,hw0,hw1,hw2⟩:=info_parts Tryz.info205
   have HJ:Hid _:=hj
   have HW0:Hid _:=hw0
   have HW1:Hid _:=hw1
   have HW2:Hid _:=hw2
   clear hj hw0 hw1 hw2
   go_wp2_with fail
   go_region_law (first | (refine step_append_own rfl (.tmp 30) (.tmp 34) 156 rfl AB 205 j0 (.agg #[.bool false,.int .i64 0]) 2 16 Tryz.underlying156 HJ.out HW0.out HW1.out HW2.out rfl (by decide) (.slice ta x.n tc) _ _ rfl (by exact ((own_below' x4 ⟨rfl,rfl,rfl,Nat.le_refl _,fun _ _ => rfl⟩).alloc _)) ⟨w1.heap.size,0,none⟩ 1 1 [.bool false,.int .i64 NM] rfl rfl (two_new _ _ _ _) (by intro u hu;simp at hu;rcases hu with rfl | rfl <;> rfl) (by unfold maxLen;omega) (by omega) (by simp;omega) ?_;intro v' w4 hown4 hgrow4;obtain ⟨va4,cap4,rfl⟩:=own_form hown4;have FIN:=terms_appended (u:=(false,NM)) hc1 x3 x4 (by exact ((Kept.refl (fun _ => False) w1).drew.alloc _)) hgrow4 hown4;have e2:=FIN.2.1;have e3:=FIN.2.2) | (go_simp;go_wp2_with (go_at_call 184;refine (smallNumber_any p.t _ HTS.out).mono ?_;rintro e' w1' ⟨rfl,rfl⟩;rw [HNM.out])))
   all_goals go_wp2
   all_goals go_ret
   all_goals exact ⟨ret_bool (by rw [HF.out]),by rw [HF.out];exact FIN.1.1,hK1.trans FIN.1.2⟩
theorem readTerms1_any (b base AB RC AC:Nat) (s:ByteArray) (p:Est.Pc) (vars:List ByteArray) (hv av:Value) (e a:Nat) (x:CA) (w:World) (h:TSt w b base AB s p vars hv av e a x) (hs:s.size <= maxLen) (hok:OkC s p) (hl:vars.length <= 6) (hB:base <= w.heap.size) (hx3:x.n <= 3)
  (hr:w.cell? ⟨RC,0,none⟩ = some (.pointer (some ⟨b,0,none⟩))) (hA:w.cell? ⟨AC,0,none⟩ = some (.pointer (some ⟨AB,0,none⟩))) :
  Calls Tryz.prog 179 #[.pointer (some ⟨RC,0,none⟩),.pointer (some ⟨AC,0,none⟩)] w fun y w' => y = .returned (.bool (trR s p vars e a x).ok) /\ TSt w' b base AB s (trR s p vars e a x).p (trR s p vars e a x).vars hv av (trR s p vars e a x).e (trR s p vars e a x).a (trR s p vars e a x).x /\ Keeps (FT b AB base) w w':=by
 obtain ⟨R,hR⟩:∃ R,trR s p vars e a x = R:=⟨_,rfl⟩
 have HR:Hid (trR s p vars e a x = R):=hR
 rw [hR]
 clear hR
 go_enter Tryz.func179,Tryz.ntmps179
 go_wp2_with fail
 refine (readTerm_any b base AB s p vars hv av e a x _ h hs hok hl hB hx3).mono ?_
 rintro y w2 ⟨rfl,hc2,k2⟩
 rw [HR.out] at hc2 ⊢
 go_wp2
 go_ret
 exact ⟨rfl,hc2,k2⟩
def ltR (s:ByteArray):Nat -> Est.Pc -> List ByteArray -> Nat -> Nat -> CA -> TR
 | 0,p,vars,e,a,x => ⟨false,p,vars,e,a,x⟩
 | n + 1,p,vars,e,a,x =>
  if (trR s p vars e a x).ok then
   if tk (trR s p vars e a x).p 7 then ltR s n (tp s (trR s p vars e a x).p 7) (trR s p vars e a x).vars (trR s p vars e a x).e (trR s p vars e a x).a (trR s p vars e a x).x
   else trR s p vars e a x
  else trR s p vars e a x
theorem avR_ok {s:ByteArray} {p:Est.Pc} {vars:List ByteArray} {e a:Nat} {x:CA} (hok:OkC s p) (hl:vars.length <= 6):OkC s (avR s p vars e a x).p /\ (avR s p vars e a x).vars.length <= 6 /\ ((avR s p vars e a x).ok = true -> (avR s p vars e a x).x.n = x.n + 1):=by
 unfold avR
 split
 ·split
  ·exact ⟨hok.next,hl,fun _ => rfl⟩
  ·split
   ·exact ⟨hok.next,hl,fun h => by cases h⟩
   ·exact ⟨hok.next,by simp;omega,fun _ => rfl⟩
 ·exact ⟨hok,hl,fun h => by cases h⟩
theorem trR_ok {s:ByteArray} {p:Est.Pc} {vars:List ByteArray} {e a:Nat} {x:CA} (hok:OkC s p) (hl:vars.length <= 6):OkC s (trR s p vars e a x).p /\ (trR s p vars e a x).vars.length <= 6 /\ ((trR s p vars e a x).ok = true -> (trR s p vars e a x).x.n = x.n + 1 /\ x.n ≠ 3):=by
 unfold trR
 split
 ·exact ⟨hok,hl,fun h => by cases h⟩
 ·rename_i h3
  split
  ·exact ⟨hok.next,hl,fun _ => ⟨rfl,h3⟩⟩
  ·obtain ⟨a1,a2,a3⟩:=avR_ok (e:=e) (a:=a) (x:=x) hok hl
   exact ⟨a1,a2,fun h => ⟨a3 h,h3⟩⟩
def ilen:Option Value -> Nat
 | some (.slice _ n _) => n
 | _ => 0
theorem readList_terms (b base AB RC AC:Nat) (s:ByteArray) (p:Est.Pc) (vars:List ByteArray) (hv av:Value) (e a:Nat) (x:CA) (w:World) (h:TSt w b base AB s p vars hv av e a x) (hs:s.size <= maxLen) (hok:OkC s p) (hl:vars.length <= 6) (hB:base <= w.heap.size) (hx3:x.n <= 3)
  (hr:w.cell? ⟨RC,0,none⟩ = some (.pointer (some ⟨b,0,none⟩))) (hA:w.cell? ⟨AC,0,none⟩ = some (.pointer (some ⟨AB,0,none⟩))) (nr:¬ FT b AB base RC w.heap[RC]?) (na:¬ FT b AB base AC w.heap[AC]?) :
  Calls Tryz.prog 155 #[.pointer (some ⟨b,0,none⟩),.func (.func 179) #[] #[.pointer (some ⟨RC,0,none⟩),.pointer (some ⟨AC,0,none⟩)]] w fun y w' => y = .returned (.bool (ltR s (4 - x.n) p vars e a x).ok) /\ TSt w' b base AB s (ltR s (4 - x.n) p vars e a x).p (ltR s (4 - x.n) p vars e a x).vars hv av (ltR s (4 - x.n) p vars e a x).e (ltR s (4 - x.n) p vars e a x).a (ltR s (4 - x.n) p vars e a x).x /\ Keeps (FT b AB base) w w':=by
 obtain ⟨R,hR⟩:∃ R,ltR s (4 - x.n) p vars e a x = R:=⟨_,rfl⟩
 have HR:Hid (ltR s (4 - x.n) p vars e a x = R):=hR
 rw [hR]
 clear hR
 have lr:=World.block_lt_of_cell? _ _ hr
 have lA:=World.block_lt_of_cell? _ _ hA
 have HNR:Hid (¬ FT b AB base RC w.heap[RC]?):=nr
 have HNA:Hid (¬ FT b AB base AC w.heap[AC]?):=na
 clear nr na
 go_enter Tryz.func155,Tryz.ntmps155
 go_wp2_with fail
 go_loopw [] (fun wr => ∃ p' vars' e' a' x',TSt wr b base AB s p' vars' hv av e' a' x' /\ OkC s p' /\ vars'.length <= 6 /\ x'.n <= 3 /\ Keeps (FT b AB base) w wr /\ ltR s (4 - x'.n) p' vars' e' a' x' = R) (fun wr => 4 - ilen (wr.cell? ⟨AB,1,none⟩))
 case atStart => exact ⟨p,vars,e,a,x,h,hok,hl,hx3,Keeps.refl _ _,HR.out⟩
 case round =>
  obtain ⟨p1,vars1,e1,a1,x1,h1,hok1,hl1,hx1,hk1,he1⟩:=hrel
  have HE:Hid (ltR s (4 - x1.n) p1 vars1 e1 a1 x1 = R):=he1
  have HM:Hid (ilen (wr.cell? ⟨AB,1,none⟩) = x1.n):=by obtain ⟨_,_,q,_⟩:=h1.at_;unfold Hid;simp [World.cell?,q,ilen]
  clear he1
  have hB1:base <= wr.heap.size:=Nat.le_trans hB hk1.size
  have hr1:=(show wr.cell? ⟨RC,0,none⟩ = _ from World.cell?_of_block (w:=w) (hk1.block RC lr HNR.out)).trans hr
  have hA1:=(show wr.cell? ⟨AC,0,none⟩ = _ from World.cell?_of_block (w:=w) (hk1.block AC lA HNA.out)).trans hA
  go_wp2_with fail
  refine (readTerms1_any b base AB RC AC s p1 vars1 hv av e1 a1 x1 _ h1 hs hok1 hl1 hB1 hx1 hr1 hA1).mono ?_
  rintro y w2 ⟨rfl,h2,k2⟩
  obtain ⟨t1,t2,t3⟩:=trR_ok (e:=e1) (a:=a1) (x:=x1) hok1 hl1
  have HE2:Hid ((if (trR s p1 vars1 e1 a1 x1).ok then (if tk (trR s p1 vars1 e1 a1 x1).p 7 then ltR s (3 - x1.n) (tp s (trR s p1 vars1 e1 a1 x1).p 7) (trR s p1 vars1 e1 a1 x1).vars (trR s p1 vars1 e1 a1 x1).e (trR s p1 vars1 e1 a1 x1).a (trR s p1 vars1 e1 a1 x1).x else trR s p1 vars1 e1 a1 x1) else trR s p1 vars1 e1 a1 x1) = R):=by
   have:=HE.out
   rw [show 4 - x1.n = (3 - x1.n) + 1 by omega,ltR] at this
   exact this
  obtain ⟨T,hT⟩:∃ T,trR s p1 vars1 e1 a1 x1 = T:=⟨_,rfl⟩
  rw [hT] at h2 t1 t2 t3 HE2 ⊢
  have HT3:Hid (T.ok = true -> T.x.n = x1.n + 1 /\ x1.n ≠ 3):=t3
  clear hT HE t3
  have hk2:Keeps (FT b AB base) w w2:=hk1.trans k2
  cases hb:T.ok
  ·have HF:Hid (R = T):=by unfold Hid;rw [← HE2.out,hb];rfl
   have HB:Hid (T.ok = false):=hb
   clear hb HE2
   go_wp2_with fail
   go_ret
   exact ⟨ret_bool (by rw [HF.out,HB.out]),by rw [HF.out];exact h2,hk2⟩
  ·obtain ⟨q1,q2⟩:=HT3.out hb
   have HQ:Hid (T.x.n = x1.n + 1):=q1
   have HB:Hid (T.ok = true):=hb
   clear hb q1
   go_wp2_with fail
   refine (ttake b base AB s T.p T.vars hv av T.e T.a T.x 7 7 _ h2 rfl hs t1).mono ?_
   rintro y w3 ⟨rfl,h3,k3⟩
   have hk3:Keeps (FT b AB base) w w3:=hk2.trans (Keeps.of k3 (fun _ _ x => Or.inl x))
   cases ht:tk T.p 7
   ·have HF:Hid (R = T):=by unfold Hid;rw [← HE2.out,HB.out,ht];rfl
    rw [tp_no ht] at h3
    clear ht
    go_wp2_with fail
    go_ret
    exact ⟨ret_bool (by rw [HF.out,HB.out]),by rw [HF.out];exact h3,hk3⟩
   ·have HF:Hid (ltR s (3 - x1.n) (tp s T.p 7) T.vars T.e T.a T.x = R):=by unfold Hid;rw [← HE2.out,HB.out,ht];rfl
    have HM3:Hid (ilen (w3.cell? ⟨AB,1,none⟩) = x1.n + 1):=by obtain ⟨_,_,q,_⟩:=h3.at_;unfold Hid;simp [World.cell?,q,ilen];exact HQ.out
    clear ht
    go_wp2_with fail
    go_roundw
    case rel =>
     refine ⟨_,_,_,_,_,h3,t1.tp 7,t2,by rw [HQ.out];omega,hk3,?_⟩
     rw [HQ.out,show 4 - (x1.n + 1) = 3 - x1.n by omega];exact HF.out
    case measure => rw [HM.out,HM3.out];omega
theorem readTerms_any (b base AB:Nat) (s:ByteArray) (p:Est.Pc) (vars:List ByteArray) (hv av:Value) (e a:Nat) (x:CA) (w:World) (h:TSt w b base AB s p vars hv av e a x) (hs:s.size <= maxLen) (hok:OkC s p) (hl:vars.length <= 6) (hB:base <= w.heap.size) (hx3:x.n <= 3) :
  Calls Tryz.prog 174 #[.pointer (some ⟨b,0,none⟩),.pointer (some ⟨AB,0,none⟩)] w fun y w' => y = .returned (.bool (ltR s (4 - x.n) p vars e a x).ok) /\ TSt w' b base AB s (ltR s (4 - x.n) p vars e a x).p (ltR s (4 - x.n) p vars e a x).vars hv av (ltR s (4 - x.n) p vars e a x).e (ltR s (4 - x.n) p vars e a x).a (ltR s (4 - x.n) p vars e a x).x /\ Keeps (FT b AB base) w w':=by
 obtain ⟨R,hR⟩:∃ R,ltR s (4 - x.n) p vars e a x = R:=⟨_,rfl⟩
 have HR:Hid (ltR s (4 - x.n) p vars e a x = R):=hR
 rw [hR]
 clear hR
 obtain ⟨vv,h1,h2⟩:=h.ex
 have lb:=h1.lt
 have la:=h.ltA
 have hbel:Below w.heap.size w ((w.alloc (.cells #[.pointer (some ⟨b,0,none⟩)] 213)).alloc (.cells #[.pointer (some ⟨AB,0,none⟩)] 259)):=((Below.refl _ _).alloc (Nat.le_refl _) _).alloc (by simp) _
 have ha:=h.below hbel
 have b1:((w.alloc (.cells #[.pointer (some ⟨b,0,none⟩)] 213)).alloc (.cells #[.pointer (some ⟨AB,0,none⟩)] 259)).heap[w.heap.size]? = some (.cells #[.pointer (some ⟨b,0,none⟩)] 213 (0,0)):=(Below.heap_alloc _ _ _ (by simp)).trans (heap_alloc_new _ _)
 have b2:((w.alloc (.cells #[.pointer (some ⟨b,0,none⟩)] 213)).alloc (.cells #[.pointer (some ⟨AB,0,none⟩)] 259)).heap[w.heap.size + 1]? = some (.cells #[.pointer (some ⟨AB,0,none⟩)] 259 (0,0)):=by
  have:=heap_alloc_new (w.alloc (.cells #[.pointer (some ⟨b,0,none⟩)] 213)) (.cells #[.pointer (some ⟨AB,0,none⟩)] 259)
  simpa using this
 have n1:¬ FT b AB base w.heap.size ((w.alloc (.cells #[.pointer (some ⟨b,0,none⟩)] 213)).alloc (.cells #[.pointer (some ⟨AB,0,none⟩)] 259)).heap[w.heap.size]?:=by
  rw [b1];unfold FT;simp [tag];omega
 have n2:¬ FT b AB base (w.heap.size + 1) ((w.alloc (.cells #[.pointer (some ⟨b,0,none⟩)] 213)).alloc (.cells #[.pointer (some ⟨AB,0,none⟩)] 259)).heap[w.heap.size + 1]?:=by
  rw [b2];unfold FT;simp [tag];omega
 have r1:=cell_of_one b1
 have r2:=cell_of_one b2
 have hB1:base <= ((w.alloc (.cells #[.pointer (some ⟨b,0,none⟩)] 213)).alloc (.cells #[.pointer (some ⟨AB,0,none⟩)] 259)).heap.size:=Nat.le_trans hB hbel.size
 have HN1:Hid _:=n1
 have HN2:Hid _:=n2
 have HB1:Hid _:=b1
 have HB2:Hid _:=b2
 clear n1 n2 b1 b2 h1 h2
 go_enter Tryz.func174,Tryz.ntmps174
 go_wp2_with fail
 refine (readList_terms b base AB w.heap.size (w.heap.size + 1) s p vars hv av e a x _ ha hs hok hl hB1 hx3 r1 r2 HN1.out HN2.out).mono ?_
 rintro y w2 ⟨rfl,hc2,k2⟩
 rw [HR.out] at hc2 ⊢
 go_wp2
 go_ret
 exact ⟨rfl,hc2,(((Keeps.refl _ _).alloc _).alloc _).trans k2⟩
end Go.Proofs.YtondkinefmjpjaaGreat.K
