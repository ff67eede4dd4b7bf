import Derived.Test.YtondkinefmjpjaaGreatI07
import Derived.Test.YtondkinefmjpjaaGreatI10
import Derived.Test.YtondkinefmjpjaaGreatI16
set_option maxHeartbeats 2000000
set_option maxRecDepth 100000
namespace Go.Proofs.YtondkinefmjpjaaGreat.K
open Go.RowKit
structure At (s:ByteArray) (r:Est.Rd) (p:Est.Pc):Prop where
 z:r.bad = 0
 sim:Est.Sim r.g p
 ok:OkC s p
structure Bad (r:Est.Rd) (e a:Nat):Prop where
 eq:r.bad = e
 pl:r.bat = a
 ne:e ≠ 0
theorem kOf_inj:∀ i j:Nat,i <= 9 -> j <= 9 -> Est.kOf i = Est.kOf j -> i = j:=by
 have:∀ i j:Fin 10,Est.kOf i = Est.kOf j -> i = j:=by decide +kernel
 intro i j hi hj h
 have:=this ⟨i,by omega⟩ ⟨j,by omega⟩ h
 exact Fin.mk.inj this
section
variable {s:ByteArray} {r:Est.Rd} {p:Est.Pc} {e a:Nat}
theorem At.isB (h:At s r p) (k:Nat) (hk:k <= 9):r.isB (Est.kOf k) = tk p k:=by
 unfold Est.Rd.isB tk
 rw [h.z,h.sim.k]
 by_cases e:p.k = k
 ·simp [e]
 ·have:Est.kOf p.k ≠ Est.kOf k:=fun x => e (kOf_inj _ _ h.sim.le hk x)
  simp [e,this]
theorem At.next (h:At s r p) (k:Nat) (hk:tk p k = true) (h0:k ≠ 0):At s (r.next s) (pnext s p):=by
 have e:p.k = k:=of_decide_eq_true hk
 obtain ⟨_,t2⟩:=h.sim.t (by omega)
 refine ⟨h.z,?_,h.ok.next⟩
 show Est.Sim (Est.sign s r.g.n) (Est.piece s (p.a + p.t.size))
 rw [t2];exact Est.sim_at s _ h.ok.1
theorem At.must (h:At s r p) (k:Nat) (hk:k <= 9) (h0:k ≠ 0) (hy:tk p k = true):r.must s (Est.kOf k) = r.next s /\ At s (r.must s (Est.kOf k)) (pnext s p):=by
 have:r.must s (Est.kOf k) = r.next s:=by unfold Est.Rd.must;rw [h.isB k hk,hy];rfl
 exact ⟨this,by rw [this];exact h.next k hy h0⟩
theorem At.fail (h:At s r p) (e a:Nat) (he:e ≠ 0):Bad (r.fail e a) e a:=by
 unfold Est.Rd.fail;rw [if_pos h.z];exact ⟨rfl,rfl,he⟩
theorem At.mustNot (h:At s r p) (k:Nat) (hk:k <= 9) (hn:tk p k = false):Bad (r.must s (Est.kOf k)) 2 p.a:=by
 unfold Est.Rd.must;rw [h.isB k hk,hn,← h.sim.a];exact h.fail 2 _ (by decide)
theorem At.is (h:At s r p) (k:Nat) (hk:k <= 9) (h0:k ≠ 0) (hy:tk p k = true):At s (r.is s (Est.kOf k)) (tp s p k):=by
 unfold Est.Rd.is;rw [h.isB k hk,hy,tp_yes hy];exact h.next k hy h0
theorem Bad.fail (h:Bad r e a) (e' a':Nat):r.fail e' a' = r:=by
 unfold Est.Rd.fail;rw [if_neg (by rw [h.eq];exact h.ne)]
theorem Bad.isB (h:Bad r e a) (k:UInt8):r.isB k = false:=by
 unfold Est.Rd.isB;rw [h.eq];simp [h.ne]
theorem Bad.must (h:Bad r e a) (k:UInt8):r.must s k = r:=by
 unfold Est.Rd.must;rw [h.isB k];exact h.fail _ _
end
theorem pix_any (hd:List Est.Pc) (t:ByteArray):(((hd.map Est.Pc.t).take (hd.map Est.Pc.t).length).any fun x => x.toList == t.toList) = decide (0 <= pixOf hd t):=by
 rw [List.take_length,List.any_map]
 unfold pixOf
 by_cases h:hd.findIdx (fun p => p.t.toList == t.toList) < hd.length
 ·rw [if_pos h]
  have h1:=List.findIdx_lt_length.1 h
  obtain ⟨x,hx,hp⟩:=h1
  rw [decide_eq_true (by omega),List.any_eq_true]
  exact ⟨x,hx,hp⟩
 ·rw [if_neg h,decide_eq_false (by omega),List.any_eq_false]
  intro x hx hp
  exact h (List.findIdx_lt_length.2 ⟨x,hx,hp⟩)
theorem head_one (s:ByteArray) (c:CS) (r:Est.Rd) (h:At s r c.p) (hl:c.hd.length <= 6) :
  (rhB c = true -> At s (hR s r (c.hd.map Est.Pc.t)) (rhC s c).p /\ (rhC s c).hd = c.hd ++ [c.p] /\ r.g.t = c.p.t) /\
  (rhB c = false -> Bad (hR s r (c.hd.map Est.Pc.t)) (rhC s c).e (rhC s c).a):=by
 have hp:=pix_any c.hd c.p.t
 have ha:=h.sim.a
 unfold rhB rhC hR nShape
 rw [List.length_map] at hp ⊢
 cases ht:tk c.p 2
 ·have hb:Bad (r.must s 118) 2 c.p.a:=h.mustNot 2 (by decide) ht
  simp only [Bool.false_and]
  refine ⟨fun x => by simp at x,fun _ => ?_⟩
  rw [hb.fail]
  simp only [ite_self,hb.fail]
  exact hb
 ·obtain ⟨_,hm⟩:=h.must 2 (by decide) (by decide) ht
  have hm:At s (r.must s 118) (pnext s c.p):=hm
  have hk:c.p.k = 2:=of_decide_eq_true ht
  obtain ⟨t1,t2⟩:=h.sim.t (by omega)
  rw [t1,ha,hp]
  by_cases hx:0 <= pixOf c.hd c.p.t
  ·simp only [hx,decide_true,Bool.not_true,Bool.and_false,Bool.false_and,if_true]
   refine ⟨fun x => by simp at x,fun _ => ?_⟩
   have hb:=hm.fail 4 c.p.a (by decide)
   rw [hb.fail,ite_self]
   exact hb
  ·simp only [hx,decide_false,Bool.not_false,Bool.and_true,Bool.true_and,if_true,if_false,Bool.false_eq_true]
   by_cases h6:c.hd.length = 6
   ·simp only [h6,decide_true,Bool.not_true,if_true,Nat.le_refl]
    exact ⟨fun x => by simp at x,fun _ => hm.fail 3 _ (by decide)⟩
   ·have:¬ 6 <= c.hd.length:=by omega
    simp only [h6,this,decide_false,Bool.not_false,if_false]
    exact ⟨fun _ => ⟨hm,trivial,trivial⟩,fun x => by simp at x⟩
theorem head_all (s:ByteArray) (n:Nat) (c:CS) (r:Est.Rd) (h:At s r c.p) (hn:c.hd.length + n = 7) (h1:1 <= n) :
  ((lh s n c).1 = true -> At s (hl s (n + 1) r (c.hd.map Est.Pc.t) (c.hd.map Est.Pc.a)).1 (lh s n c).2.p /\ (hl s (n + 1) r (c.hd.map Est.Pc.t) (c.hd.map Est.Pc.a)).2.1 = (lh s n c).2.hd.map Est.Pc.t /\ (hl s (n + 1) r (c.hd.map Est.Pc.t) (c.hd.map Est.Pc.a)).2.2 = (lh s n c).2.hd.map Est.Pc.a) /\
  ((lh s n c).1 = false -> Bad (hl s (n + 1) r (c.hd.map Est.Pc.t) (c.hd.map Est.Pc.a)).1 (lh s n c).2.e (lh s n c).2.a):=by
 induction n generalizing c r with
 | zero => omega
 | succ n ih =>
  obtain ⟨o1,o2⟩:=head_one s c r h (by omega)
  unfold lh
  rw [hl.eq_def]
  simp only [h.z,if_true]
  cases hb:rhB c
  ·have B:=o2 hb
   rw [B.isB]
   simp only [Bool.false_eq_true,if_false]
   exact ⟨fun x => by simp at x,fun _ => B⟩
  ·obtain ⟨A,e1,e2⟩:=o1 hb
   have ha:=h.sim.a
   have hB:(hR s r (c.hd.map Est.Pc.t)).isB 44 = tk (rhC s c).p 7:=A.isB 7 (by decide)
   have em:c.hd.map Est.Pc.t ++ [r.g.t] = (rhC s c).hd.map Est.Pc.t:=by rw [e1,e2];simp
   have ea:c.hd.map Est.Pc.a ++ [r.g.a] = (rhC s c).hd.map Est.Pc.a:=by rw [e1,ha];simp
   rw [hB,em,ea]
   cases ht:tk (rhC s c).p 7
   ·simp only [Bool.false_eq_true,if_false,if_true]
    exact ⟨fun _ => ⟨A,trivial,trivial⟩,fun x => by simp at x⟩
   ·simp only [if_true]
    have A2:At s ((hR s r (c.hd.map Est.Pc.t)).is s 44) (tp s (rhC s c).p 7):=A.is 7 (by decide) (by decide) ht
    have h6:c.hd.length ≠ 6:=by
     unfold rhB at hb;simp at hb;omega
    exact ih { rhC s c with p:=tp s (rhC s c).p 7 } _ A2 (by show (rhC s c).hd.length + n = 7;rw [e1];simp;omega) (by omega)
def SR (z:Int) (f:Nat -> Bool):Prop:=∃ m:Nat,z = (m:Int) /\ m < 256 /\ ∀ v,v < 8 -> m.testBit v = f v
theorem bv8 (m:Nat) (h:m < 256):(BitVec.ofInt 8 (m:Int)).toNat = m:=by
 rw [BitVec.ofInt_natCast,BitVec.toNat_ofNat];exact Nat.mod_eq_of_lt (by omega)
theorem wrap8 (m:Nat) (h:m < 256):IntKind.u8.wrap (m:Int) = (m:Int):=by rw [IntKind.wrap_u8];omega
theorem SR.zero:SR 0 (fun _ => false):=⟨0,rfl,by decide,fun v _ => Nat.zero_testBit v⟩
theorem SR.congr {z:Int} {f g:Nat -> Bool} (h:SR z f) (e:∀ v,v < 8 -> f v = g v):SR z g:=by
 obtain ⟨m,h1,h2,h3⟩:=h;exact ⟨m,h1,h2,fun v hv => (h3 v hv).trans (e v hv)⟩
theorem SR.or {z y:Int} {f g:Nat -> Bool} (h:SR z f) (k:SR y g):SR (bits BinOp.or IntKind.u8 z y) (fun v => f v || g v):=by
 obtain ⟨m,rfl,h2,h3⟩:=h
 obtain ⟨n,rfl,k2,k3⟩:=k
 have hx:m ||| n < 2 ^ 8:=Nat.or_lt_two_pow (by omega) (by omega)
 refine ⟨m ||| n,?_,by omega,fun v hv => by rw [Nat.testBit_or,h3 v hv,k3 v hv]⟩
 show IntKind.u8.wrap ((BitVec.ofInt 8 (m:Int) ||| BitVec.ofInt 8 (n:Int)).toNat:Int) = _
 rw [BitVec.toNat_or,bv8 m h2,bv8 n k2,wrap8 _ (by omega)]
theorem SR.and {z y:Int} {f g:Nat -> Bool} (h:SR z f) (k:SR y g):SR (bits BinOp.and IntKind.u8 z y) (fun v => f v && g v):=by
 obtain ⟨m,rfl,h2,h3⟩:=h
 obtain ⟨n,rfl,k2,k3⟩:=k
 have hx:m &&& n < 2 ^ 8:=Nat.and_lt_two_pow _ (by omega)
 refine ⟨m &&& n,?_,by omega,fun v hv => by rw [Nat.testBit_and,h3 v hv,k3 v hv]⟩
 show IntKind.u8.wrap ((BitVec.ofInt 8 (m:Int) &&& BitVec.ofInt 8 (n:Int)).toNat:Int) = _
 rw [BitVec.toNat_and,bv8 m h2,bv8 n k2,wrap8 _ (by omega)]
theorem SR.andNot {z y:Int} {f g:Nat -> Bool} (h:SR z f) (k:SR y g):SR (bits BinOp.andNot IntKind.u8 z y) (fun v => f v && !g v):=by
 obtain ⟨m,rfl,h2,h3⟩:=h
 obtain ⟨n,rfl,k2,k3⟩:=k
 have hx:(BitVec.ofInt 8 (m:Int) &&& ~~~ BitVec.ofInt 8 (n:Int)).toNat < 256:=(BitVec.ofInt 8 (m:Int) &&& ~~~ BitVec.ofInt 8 (n:Int)).isLt
 refine ⟨(BitVec.ofInt 8 (m:Int) &&& ~~~ BitVec.ofInt 8 (n:Int)).toNat,wrap8 _ hx,hx,fun v hv => ?_⟩
 rw [BitVec.testBit_toNat,BitVec.getLsbD_and,BitVec.getLsbD_not,← BitVec.testBit_toNat,← BitVec.testBit_toNat,bv8 m h2,bv8 n k2,h3 v hv,k3 v hv]
 simp [hv]
theorem SR.bit (n:Nat) (hn:n < 8):SR (2 ^ n % 256) (fun v => v == n):=by
 have h:2 ^ n < 256:=by
  have:2 ^ n <= 2 ^ 7:=Nat.pow_le_pow_right (by decide) (by omega)
  omega
 refine ⟨2 ^ n,?_,h,fun v _ => ?_⟩
 ·have:((2:Int) ^ n) = ((2 ^ n:Nat):Int):=by simp
  rw [this]
  generalize 2 ^ n = q at h
  omega
 ·rw [Nat.testBit_two_pow]
  by_cases e:n = v
  ·subst e;simp
  ·have e':¬ v = n:=fun x => e x.symm
   simp [e,e']
theorem SR.setBit {z:Int} {f:Nat -> Bool} (h:SR z f) (n:Nat) (hn:n < 8):SR (setBit z n) (fun v => f v || v == n):=h.or (SR.bit n hn)
theorem SR.isZero {z:Int} {f:Nat -> Bool} (h:SR z f):(z == 0) = (List.range 8).all (fun v => !f v):=by
 obtain ⟨m,rfl,h2,h3⟩:=h
 rw [Bool.eq_iff_iff,List.all_eq_true]
 constructor
 ·intro e v hv
  have e0:m = 0:=by have:=beq_iff_eq.1 e;omega
  have hv:=List.mem_range.1 hv
  rw [← h3 v hv,e0,Nat.zero_testBit];rfl
 ·intro h
  have:m = 0:=Nat.eq_of_testBit_eq fun v => by
   rw [Nat.zero_testBit]
   by_cases hv:v < 8
   ·have:=h v (List.mem_range.2 hv);rw [h3 v hv];simpa using this
   ·exact Nat.testBit_lt_two_pow (Nat.lt_of_lt_of_le h2 (Nat.pow_le_pow_right (n:=2) (by decide) (show 8 <= v by omega)))
  rw [this];rfl
theorem At.start (s:ByteArray):At s (r00.next s) (Est.piece s 0):=⟨rfl,Est.sim_at s 0 (Nat.zero_le _),OkC.piece s 0 (Nat.zero_le _)⟩
theorem cw_yes {s:ByteArray} {c:CS} {k:Nat} (h:tk c.p k = true):cw s c k = { c with p:=pnext s c.p }:=by unfold cw;rw [tp_yes h,h];rfl
theorem cw_no {s:ByteArray} {c:CS} {k:Nat} (h:tk c.p k = false):(cw s c k).e = 2 /\ (cw s c k).a = c.p.a:=by unfold cw;rw [h];exact ⟨rfl,rfl⟩
theorem head_whole (s:ByteArray) :
  ((rdH s (c0 s)).1 = true -> At s ((TH s).1.must s 41) (rdH s (c0 s)).2.p /\ (TH s).2.1 = (rdH s (c0 s)).2.hd.map Est.Pc.t /\ (TH s).2.2 = (rdH s (c0 s)).2.hd.map Est.Pc.a) /\
  ((rdH s (c0 s)).1 = false -> Bad ((TH s).1.must s 41) (rdH s (c0 s)).2.e (rdH s (c0 s)).2.a):=by
 have A0:=At.start s
 have hc0:(c0 s).p = Est.piece s 0:=rfl
 cases h5:tk (c0 s).p 5
 ·have B:Bad (r1 s) 2 (Est.piece s 0).a:=A0.mustNot 5 (by decide) h5
  have hT:TH s = (r1 s,[],[]):=by unfold TH;rw [if_neg (by rw [B.eq];simp)]
  unfold rdH
  rw [h5,hT]
  simp only [Bool.false_eq_true,if_false]
  refine ⟨fun x => by simp at x,fun _ => ?_⟩
  rw [B.must]
  have:=cw_no (s:=s) h5
  rw [this.1,this.2];exact B
 ·have A1:At s (r1 s) (pnext s (c0 s).p):=(A0.must 5 (by decide) (by decide) h5).2
  have hcw:=cw_yes (s:=s) h5
  unfold rdH
  rw [h5]
  simp only [if_true]
  rw [hcw]
  have hk:decide ((r1 s).g.k = 41) = tk (pnext s (c0 s).p) 6:=by
   have:=A1.isB 6 (by decide)
   unfold Est.Rd.isB at this
   rw [A1.z] at this
   rw [← this]
   show _ = (_ == (41:UInt8))
   simp [BEq.beq]
  cases h6:tk (pnext s (c0 s).p) 6
  ·have hT:TH s = hl s 8 (r1 s) [] []:=by
    unfold TH;rw [if_pos ⟨A1.z,by rw [h6] at hk;exact of_decide_eq_false hk⟩]
   simp only [Bool.false_eq_true,if_false]
   rw [hT]
   obtain ⟨o1,o2⟩:=head_all s 7 { c0 s with p:=pnext s (c0 s).p } (r1 s) A1 rfl (by decide)
   have hhl:hl s (7 + 1) (r1 s) (({ c0 s with p:=pnext s (c0 s).p }:CS).hd.map Est.Pc.t) (({ c0 s with p:=pnext s (c0 s).p }:CS).hd.map Est.Pc.a) = hl s 8 (r1 s) [] []:=rfl
   rw [hhl] at o1 o2
   have h7:7 - (c0 s).hd.length = 7:=rfl
   rw [h7]
   generalize lh s 7 { c0 s with p:=pnext s (c0 s).p } = L at o1 o2
   generalize hl s 8 (r1 s) [] [] = H at o1 o2
   cases hx:L.1
   ·have B:=o2 hx
    simp only [Bool.false_eq_true,if_false]
    refine ⟨fun x => by simp at x,fun _ => ?_⟩
    rw [B.must];exact B
   ·obtain ⟨A2,e1,e2⟩:=o1 hx
    simp only [if_true]
    cases hy:tk L.2.p 6
    ·refine ⟨fun x => by simp at x,fun _ => ?_⟩
     have:=cw_no (s:=s) hy
     rw [this.1,this.2];exact A2.mustNot 6 (by decide) hy
    ·refine ⟨fun _ => ?_,fun x => by simp at x⟩
     rw [cw_yes hy]
     exact ⟨(A2.must 6 (by decide) (by decide) hy).2,e1,e2⟩
  ·have hT:TH s = (r1 s,[],[]):=by
    unfold TH;rw [if_neg (by rw [h6] at hk;exact fun x => x.2 (of_decide_eq_true hk))]
   simp only [if_true]
   rw [hT]
   refine ⟨fun _ => ⟨?_,rfl,rfl⟩,fun x => by simp at x⟩
   show At s _ (tp s (pnext s (c0 s).p) 6)
   rw [tp_yes h6]
   exact (A1.must 6 (by decide) (by decide) h6).2
def anyV (ts:List Int) (v:Nat):Bool:=ts.any fun t => t == (v:Int)
theorem anyV_snoc (ts:List Int) (z:Int) (v:Nat):anyV (ts ++ [z]) v = (anyV ts v || z == (v:Int)):=by simp [anyV]
theorem vix_eq (vars:List ByteArray) (t:ByteArray):vix vars t = vars.findIdx (fun v => t.toList == v.toList):=by
 unfold vix;congr 1;funext v;exact BEq.comm
def tP (v c:Int):Bool × Int:=if v < 0 then (false,c) else (true,v)
theorem tP_var (n:Nat) (c:Int):tP (n:Int) c = (true,(n:Int)):=by unfold tP;rw [if_neg (by omega)]
def t3 (r:Est.Rd) (ts:List Int):Est.Rd:=if 3 <= ts.length then r.fail 3 r.g.a else r
theorem term_one (s:ByteArray) (r:Est.Rd) (p:Est.Pc) (vars:List ByteArray) (e a:Nat) (x:CA) (ts:List Int) (h:At s r p) (hx:x.n = ts.length) (h3:x.n <= 3) (hv:vars.length <= 6) (hS:SR x.set (anyV ts)) :
  ((trR s p vars e a x).ok = true -> At s (tR s (t3 r ts) vars) (trR s p vars e a x).p /\ tVars s (t3 r ts) vars = (trR s p vars e a x).vars /\ (trR s p vars e a x).x.n = ts.length + 1 /\ ts.length < 3 /\ (trR s p vars e a x).x.rel = x.rel /\ SR (trR s p vars e a x).x.set (anyV (ts ++ [tV s (t3 r ts) vars])) /\ (trR s p vars e a x).vars.length <= 6 /\ (trR s p vars e a x).x.tm = x.tm ++ [tP (tV s (t3 r ts) vars) (tN (t3 r ts))]) /\
  ((trR s p vars e a x).ok = false -> Bad (tR s (t3 r ts) vars) (trR s p vars e a x).e (trR s p vars e a x).a):=by
 unfold trR
 by_cases h4:x.n = 3
 ·have B:=h.fail 3 r.g.a (by decide)
  have ht3:t3 r ts = r.fail 3 r.g.a:=by unfold t3;rw [if_pos (by omega)]
  rw [if_pos h4,ht3]
  have hT:tR s (r.fail 3 r.g.a) vars = r.fail 3 r.g.a:=by
   unfold tR;rw [B.isB,B.must];simp only [Bool.false_eq_true,if_false];rw [if_neg (by rw [B.eq];decide)]
  refine ⟨fun x => by simp at x,fun _ => ?_⟩
  rw [hT]
  have ha:=h.sim.a
  rw [ha] at B ⊢;exact B
 ·have ht3:t3 r ts = r:=by unfold t3;rw [if_neg (by omega)]
  rw [if_neg h4,ht3]
  have hlt:ts.length < 3:=by omega
  have hB:r.isB 110 = tk p 4:=h.isB 4 (by decide)
  unfold tR tVars tV avR tN
  rw [hB]
  cases k4:tk p 4
  ·simp only [Bool.false_eq_true,if_false]
   cases k2:tk p 2
   ·have B:Bad (r.must s 118) 2 p.a:=h.mustNot 2 (by decide) k2
    have hn:¬ (r.must s 118).bad = 0:=by rw [B.eq];decide
    simp only [Bool.false_eq_true,if_false,hn]
    exact ⟨fun x => by simp at x,fun _ => B⟩
   ·have A1:At s (r.must s 118) (pnext s p):=(h.must 2 (by decide) (by decide) k2).2
    have hk:p.k = 2:=of_decide_eq_true k2
    obtain ⟨t1,_⟩:=h.sim.t (by omega)
    have ha:=h.sim.a
    simp only [A1.z,if_true]
    unfold vrd vadd ixOf
    rw [t1,ha,vix_eq]
    by_cases hf:vars.findIdx (fun v => p.t.toList == v.toList) < vars.length
    ·simp only [hf,if_true,Int.natCast_nonneg,Int.toNat_natCast]
     refine ⟨fun _ => ⟨A1,trivial,by omega,hlt,trivial,?_,hv,by rw [tP_var]⟩,fun x => by simp at x⟩
     refine (hS.setBit _ (by omega)).congr fun v _ => ?_
     rw [anyV_snoc]
     congr 1
     rw [Bool.eq_iff_iff];simp;omega
    ·simp only [hf,if_false,show ¬ (0:Int) <= -1 by omega]
     by_cases h6:vars.length = 6
     ·simp only [h6,if_true,Nat.le_refl]
      exact ⟨fun x => by simp at x,fun _ => A1.fail 3 _ (by decide)⟩
     ·have:¬ 6 <= vars.length:=by omega
      simp only [h6,this,if_false]
      have hfe:vars.findIdx (fun v => p.t.toList == v.toList) = vars.length:=by
       have:=List.findIdx_le_length (xs:=vars) (p:=fun v => p.t.toList == v.toList);omega
      refine ⟨fun _ => ⟨A1,trivial,by omega,hlt,trivial,?_,by simp;omega,?_⟩,fun x => by simp at x⟩
      ·refine (hS.setBit _ (by omega)).congr fun v _ => ?_
       rw [anyV_snoc,hfe]
       congr 1
       rw [Bool.eq_iff_iff];simp;omega
      ·rw [hfe,tP_var]
  ·simp only [if_true]
   have hk4:p.k = 4:=of_decide_eq_true k4
   obtain ⟨t1,_⟩:=h.sim.t (by omega)
   refine ⟨fun _ => ⟨h.next 4 k4 (by decide),trivial,by omega,hlt,trivial,?_,hv,by rw [t1];rfl⟩,fun x => by simp at x⟩
   refine hS.congr fun v _ => ?_
   rw [anyV_snoc,show ((-1:Int) == (v:Int)) = false from beq_eq_false_iff_ne.2 (by omega),Bool.or_false]
theorem tl_t3 {s:ByteArray} {r:Est.Rd} (h:r.bad = 0) (n:Nat) (vars:List ByteArray) (ts:List Int):tl s (n + 1) r vars ts = if (tR s (t3 r ts) vars).isB 44 = true then tl s n ((tR s (t3 r ts) vars).is s 44) (tVars s (t3 r ts) vars) (ts ++ [tV s (t3 r ts) vars]) else (tR s (t3 r ts) vars,tVars s (t3 r ts) vars,ts ++ [tV s (t3 r ts) vars]):=by
 rw [tl,if_pos h];rfl
theorem tc_t3 {s:ByteArray} {r:Est.Rd} (h:r.bad = 0) (n:Nat) (vars:List ByteArray) (ts cs:List Int):tc s (n + 1) r vars ts cs = if (tR s (t3 r ts) vars).isB 44 = true then tc s n ((tR s (t3 r ts) vars).is s 44) (tVars s (t3 r ts) vars) (ts ++ [tV s (t3 r ts) vars]) (cs ++ [tN (t3 r ts)]) else cs ++ [tN (t3 r ts)]:=by
 rw [tc,if_pos h];rfl
theorem terms_all (s:ByteArray) (n:Nat) (r:Est.Rd) (p:Est.Pc) (vars:List ByteArray) (e a:Nat) (x:CA) (ts cs:List Int) (h:At s r p) (hx:x.n = ts.length) (hn:x.n + n = 4) (h1:1 <= n) (hv:vars.length <= 6) (hS:SR x.set (anyV ts)) (hcs:cs.length = ts.length) (hT:x.tm = List.zipWith tP ts cs) :
  ((ltR s n p vars e a x).ok = true -> At s (tl s (n + 1) r vars ts).1 (ltR s n p vars e a x).p /\ (tl s (n + 1) r vars ts).2.1 = (ltR s n p vars e a x).vars /\ (ltR s n p vars e a x).x.n = (tl s (n + 1) r vars ts).2.2.length /\ (ltR s n p vars e a x).x.rel = x.rel /\ SR (ltR s n p vars e a x).x.set (anyV (tl s (n + 1) r vars ts).2.2) /\ (ltR s n p vars e a x).vars.length <= 6 /\ (ltR s n p vars e a x).x.tm = List.zipWith tP (tl s (n + 1) r vars ts).2.2 (tc s (n + 1) r vars ts cs)) /\
  ((ltR s n p vars e a x).ok = false -> Bad (tl s (n + 1) r vars ts).1 (ltR s n p vars e a x).e (ltR s n p vars e a x).a):=by
 induction n generalizing r p vars e a x ts cs with
 | zero => omega
 | succ n ih =>
  obtain ⟨o1,o2⟩:=term_one s r p vars e a x ts h hx (by omega) hv hS
  unfold ltR
  rw [tl_t3 h.z,tc_t3 h.z]
  generalize trR s p vars e a x = T at o1 o2 ⊢
  generalize tR s (t3 r ts) vars = R at o1 o2 ⊢
  generalize tVars s (t3 r ts) vars = V at o1 o2 ⊢
  generalize tV s (t3 r ts) vars = Z at o1 o2 ⊢
  generalize tN (t3 r ts) = C at o1 o2 ⊢
  cases hb:T.ok
  ·have B:=o2 hb
   rw [B.isB]
   simp only [Bool.false_eq_true,if_false]
   exact ⟨fun x => by rw [hb] at x;simp at x,fun _ => B⟩
  ·obtain ⟨A,e1,e2,e3,e4,e5,e6,e7⟩:=o1 hb
   subst e1
   have hT2:T.x.tm = List.zipWith tP (ts ++ [Z]) (cs ++ [C]):=by rw [e7,hT,List.zipWith_append hcs.symm];rfl
   have hB:R.isB 44 = tk T.p 7:=A.isB 7 (by decide)
   rw [hB]
   cases ht:tk T.p 7
   ·simp only [Bool.false_eq_true,if_false,if_true]
    exact ⟨fun _ => ⟨A,trivial,by rw [e2];simp,e4,e5,e6,hT2⟩,fun x => by rw [hb] at x;simp at x⟩
   ·simp only [if_true]
    have A2:At s (R.is s 44) (tp s T.p 7):=A.is 7 (by decide) (by decide) ht
    rw [← e4]
    exact ih (R.is s 44) (tp s T.p 7) T.vars T.e T.a T.x (ts ++ [Z]) (cs ++ [C]) A2 (by rw [e2];simp) (by omega) (by omega) e6 e5 (by simp [hcs]) hT2
structure AE (d:PA) (x:CA):Prop where
 rel:d.rel = x.rel
 n:x.n = d.vs.length
 set:SR x.set (anyV d.vs)
 tm:x.tm = List.zipWith tP d.vs d.cs
structure ALL (pl:List PA) (ats:List CA):Prop where
 len:pl.length = ats.length
 el:∀ i (h1:i < pl.length) (h2:i < ats.length),AE pl[i] ats[i]
theorem ALL.nil:ALL [] []:=⟨rfl,fun _ h => absurd h (Nat.not_lt_zero _)⟩
theorem ALL.snoc {pl:List PA} {ats:List CA} (h:ALL pl ats) {d:PA} {x:CA} (k:AE d x):ALL (pl ++ [d]) (ats ++ [x]):=by
 refine ⟨by simp [h.len],fun i h1 h2 => ?_⟩
 by_cases hi:i < pl.length
 ·rw [List.getElem_append_left hi,List.getElem_append_left (by rw [← h.len];exact hi)];exact h.el i hi _
 ·rw [List.getElem_append_right (by omega),List.getElem_append_right (by rw [← h.len];omega)]
  simpa using k
theorem ALL.anyEq {pl:List PA} {ats:List CA} (h:ALL pl ats) (f:PA -> Bool) (g:CA -> Bool) (e:∀ d x,AE d x -> f d = g x):pl.any f = ats.any g:=by
 have:pl.map f = ats.map g:=List.ext_getElem (by simp [h.len]) fun i h1 h2 => by
  simp only [List.getElem_map]
  exact e _ _ (h.el i (by simpa using h1) (by simpa using h2))
 have h1:pl.any f = (pl.map f).any id:=by simp [List.any_map]
 have h2:ats.any g = (ats.map g).any id:=by simp [List.any_map]
 rw [h1,h2,this]
theorem ALL.clash {pl:List PA} {ats:List CA} (h:ALL pl ats) (rel:ByteArray) (n:Nat):pl.any (clashP rel n) = decide (0 <= oixOf ats rel n):=by
 rw [h.anyEq (clashP rel n) (oshape rel n) (fun d x k => by
  unfold clashP oshape;rw [k.rel,k.n];congr 1;rw [Bool.eq_iff_iff];simp;omega)]
 unfold oixOf
 by_cases hf:ats.findIdx (oshape rel n) < ats.length
 ·rw [if_pos hf]
  obtain ⟨x,hx,hp⟩:=List.findIdx_lt_length.1 hf
  rw [decide_eq_true (by omega),List.any_eq_true]
  exact ⟨x,hx,hp⟩
 ·rw [if_neg hf,decide_eq_false (by omega),List.any_eq_false]
  intro x hx hp
  exact hf (List.findIdx_lt_length.2 ⟨x,hx,hp⟩)
theorem Bad.tl {r:Est.Rd} {e a:Nat} (h:Bad r e a) (s:ByteArray) (n:Nat) (vars:List ByteArray) (ts:List Int):tl s n r vars ts = (r,vars,ts):=by
 cases n with
 | zero => rfl
 | succ n => rw [YtondkinefmjpjaaGreat.K.tl.eq_def];simp only;rw [if_neg (by rw [h.eq];exact h.ne)]
theorem Bad.fin {s:ByteArray} {r:Est.Rd} {pl:List PA} {vars:List ByteArray} {e a:Nat} (h:Bad (aT s r pl.length vars).1 e a):Bad (aFinP s r pl vars) e a:=by
 unfold aFinP
 rw [h.must,h.fail,ite_self];exact h
theorem Bad.fin3 {s:ByteArray} {r:Est.Rd} {pl:List PA} {vars:List ByteArray} {e a:Nat} (h:Bad (aR3 s r pl.length) e a):Bad (aFinP s r pl vars) e a:=by
 apply Bad.fin;unfold aT;rw [h.tl];exact h
theorem atom_one (s:ByteArray) (c:CS) (r:Est.Rd) (pl:List PA) (h:At s r c.p) (hA:ALL pl c.ats) (ha:c.ats.length <= 4) (hv:c.vars.length <= 6) :
  ((raR s c).1 = true -> At s (aFinP s r pl c.vars) (raR s c).2.p /\ (aT s r pl.length c.vars).2.1 = (raR s c).2.vars /\ ALL (pl ++ [⟨(aR1 r pl.length).g.t,(aT s r pl.length c.vars).2.2,r.g.a,aC s r pl.length c.vars⟩]) (raR s c).2.ats /\ (raR s c).2.vars.length <= 6 /\ (raR s c).2.ats.length = c.ats.length + 1 /\ c.ats.length < 4) /\
  ((raR s c).1 = false -> Bad (aFinP s r pl c.vars) (raR s c).2.e (raR s c).2.a):=by
 have hB:r.isB 114 = tk c.p 3:=h.isB 3 (by decide)
 have hsa:=h.sim.a
 unfold raR
 cases k3:tk c.p 3
 ·simp only [Bool.false_eq_true,if_false]
  refine ⟨fun x => by simp at x,fun _ => ?_⟩
  have B:Bad (r.must s 114) 2 c.p.a:=h.mustNot 3 (by decide) k3
  have:=cw_no (s:=s) k3
  rw [this.1,this.2]
  apply Bad.fin3
  have h1:aR1 r pl.length = r:=by unfold aR1;rw [hB,k3];rfl
  unfold aR3;rw [h1,B.must];exact B
 ·simp only [if_true]
  by_cases h4:c.ats.length = 4
  ·rw [if_pos h4]
   refine ⟨fun x => by simp at x,fun _ => ?_⟩
   have B:Bad (r.fail 3 r.g.a) 3 c.p.a:=by rw [hsa];exact h.fail 3 _ (by decide)
   apply Bad.fin3
   have h1:aR1 r pl.length = r.fail 3 r.g.a:=by unfold aR1;rw [hB,k3,decide_eq_true (by rw [hA.len];omega)];rfl
   unfold aR3;rw [h1,B.must,B.must];exact B
  ·rw [if_neg h4]
   have h1:aR1 r pl.length = r:=by unfold aR1;rw [decide_eq_false (by rw [hA.len];omega),Bool.and_false];rfl
   have hk:c.p.k = 3:=of_decide_eq_true k3
   obtain ⟨t1,_⟩:=h.sim.t (by omega)
   have A1:At s (r.must s 114) (ra3 s c).p:=(h.must 3 (by decide) (by decide) k3).2
   cases k5:tk (ra3 s c).p 5
   ·simp only [Bool.false_eq_true,if_false]
    refine ⟨fun x => by simp at x,fun _ => ?_⟩
    have:=cw_no (s:=s) k5
    rw [this.1,this.2]
    apply Bad.fin3
    unfold aR3;rw [h1]
    exact A1.mustNot 5 (by decide) k5
   ·simp only [if_true]
    have A2:At s (aR3 s r pl.length) (cw s (ra3 s c) 5).p:=by
     unfold aR3;rw [h1,cw_yes k5];exact (A1.must 5 (by decide) (by decide) k5).2
    obtain ⟨o1,o2⟩:=terms_all s 4 (aR3 s r pl.length) (cw s (ra3 s c) 5).p c.vars (cw s (ra3 s c) 5).e (cw s (ra3 s c) 5).a (x0 c.p.t) [] [] A2 rfl rfl (by decide) hv SR.zero rfl rfl
    change ((raT s c).ok = true -> At s (aT s r pl.length c.vars).1 (raT s c).p /\ (aT s r pl.length c.vars).2.1 = (raT s c).vars /\ (raT s c).x.n = (aT s r pl.length c.vars).2.2.length /\ (raT s c).x.rel = c.p.t /\ SR (raT s c).x.set (anyV (aT s r pl.length c.vars).2.2) /\ (raT s c).vars.length <= 6 /\ (raT s c).x.tm = List.zipWith tP (aT s r pl.length c.vars).2.2 (aC s r pl.length c.vars)) at o1
    change ((raT s c).ok = false -> Bad (aT s r pl.length c.vars).1 (raT s c).e (raT s c).a) at o2
    cases ko:(raT s c).ok
    ·simp only [Bool.false_eq_true,if_false]
     exact ⟨fun x => by simp at x,fun _ => (o2 ko).fin⟩
    ·simp only [if_true]
     obtain ⟨A3,e1,e2,e3,e4,e5,e6⟩:=o1 ko
     have hp:(raC3 s c).p = (raT s c).p:=rfl
     cases k6:tk (raT s c).p 6
     ·simp only [Bool.false_eq_true,if_false]
      refine ⟨fun x => by simp at x,fun _ => ?_⟩
      have:=cw_no (s:=s) (c:=raC3 s c) (k:=6) k6
      rw [this.1,this.2,hp]
      have B:Bad ((aT s r pl.length c.vars).1.must s 41) 2 (raT s c).p.a:=A3.mustNot 6 (by decide) k6
      unfold aFinP
      rw [B.fail,ite_self];exact B
     ·simp only [if_true]
      have A4:At s ((aT s r pl.length c.vars).1.must s 41) (pnext s (raT s c).p):=(A3.must 6 (by decide) (by decide) k6).2
      have hcw:=cw_yes (s:=s) (c:=raC3 s c) (k:=6) k6
      have hcl:=hA.clash (raT s c).x.rel (raT s c).x.n
      unfold aFinP
      rw [h1,t1,← e3,← e2,hcl]
      by_cases ho:0 <= oixOf c.ats (raT s c).x.rel (raT s c).x.n
      ·rw [if_pos ho,decide_eq_true ho]
       simp only [if_true]
       refine ⟨fun x => by simp at x,fun _ => ?_⟩
       rw [hsa];exact A4.fail 6 _ (by decide)
      ·rw [if_neg ho,decide_eq_false ho]
       simp only [Bool.false_eq_true,if_false]
       refine ⟨fun _ => ?_,fun x => by simp at x⟩
       rw [hcw]
       exact ⟨A4,e1,hA.snoc ⟨rfl,e2,e4,e6⟩,e5,by simp,by omega⟩
theorem Bad.al {s:ByteArray} {x:Est.Rd × List ByteArray × List PA} {e a:Nat} (h:Bad x.1 e a) (n:Nat):al s n x = x:=by
 cases n with
 | zero => rfl
 | succ n => unfold YtondkinefmjpjaaGreat.K.al;rw [h.isB];rfl
theorem Bad.step {s:ByteArray} {r:Est.Rd} {e a:Nat} (h:Bad r e a) (vars:List ByteArray) (pl:List PA):Bad (aStep s (r,vars,pl)).1 e a:=by
 show Bad (aFinP s r pl vars) e a
 apply Bad.fin3
 have h1:aR1 r pl.length = r:=by unfold aR1;rw [h.isB];rfl
 unfold aR3;rw [h1,h.must,h.must];exact h
theorem atoms_all (s:ByteArray) (n:Nat) (c:CS) (r:Est.Rd) (pl:List PA) (h:At s r c.p) (hA:ALL pl c.ats) (hn:c.ats.length + n = 5) (h1:1 <= n) (hv:c.vars.length <= 6) :
  ((la s n c).1 = true -> At s (al s n (aStep s (r,c.vars,pl))).1 (la s n c).2.p /\ (al s n (aStep s (r,c.vars,pl))).2.1 = (la s n c).2.vars /\ ALL (al s n (aStep s (r,c.vars,pl))).2.2 (la s n c).2.ats) /\
  ((la s n c).1 = false -> Bad (al s n (aStep s (r,c.vars,pl))).1 (la s n c).2.e (la s n c).2.a):=by
 induction n generalizing c r pl with
 | zero => omega
 | succ n ih =>
  obtain ⟨o1,o2⟩:=atom_one s c r pl h hA (by omega) hv
  unfold la
  cases hb:(raR s c).1
  ·have B:Bad (aStep s (r,c.vars,pl)).1 _ _:=o2 hb
   rw [B.al]
   simp only [Bool.false_eq_true,if_false]
   exact ⟨fun x => by simp at x,fun _ => B⟩
  ·obtain ⟨A,e1,e2,e3,e4,e5⟩:=o1 hb
   have hB:(aFinP s r pl c.vars).isB 44 = tk (raR s c).2.p 7:=A.isB 7 (by decide)
   unfold al
   rw [show (aStep s (r,c.vars,pl)).1.isB 44 = tk (raR s c).2.p 7 from hB]
   simp only [if_true]
   cases ht:tk (raR s c).2.p 7
   ·simp only [Bool.false_eq_true,if_false]
    exact ⟨fun _ => ⟨A,e1,e2⟩,fun x => by simp at x⟩
   ·simp only [if_true]
    have A2:At s ((aFinP s r pl c.vars).next s) (tp s (raR s c).2.p 7):=by rw [tp_yes ht];exact A.next 7 ht (by decide)
    have:=ih { (raR s c).2 with p:=tp s (raR s c).2.p 7 } ((aFinP s r pl c.vars).next s) _ A2 e2 (by show (raR s c).2.ats.length + n = 5;omega) (by omega) e3
    rw [show (aStep s (r,c.vars,pl)) = (aFinP s r pl c.vars,(raR s c).2.vars,pl ++ [⟨(aR1 r pl.length).g.t,(aT s r pl.length c.vars).2.2,r.g.a,aC s r pl.length c.vars⟩]) by rw [← e1];rfl]
    exact this
theorem Bad.nl {r:Est.Rd} {e a:Nat} (h:Bad r e a) (vars ns:List ByteArray) (ps:List Nat):nl vars ns ps r = r:=by
 cases ns with
 | nil => rfl
 | cons n ns =>
  cases ps with
  | nil => rfl
  | cons p ps => unfold YtondkinefmjpjaaGreat.K.nl;rw [if_neg (by rw [h.eq];exact h.ne)]
theorem ix_any (vars:List ByteArray) (t:ByteArray):(vars.any fun v => v.toList == t.toList) = decide (0 <= ixOf vars t):=by
 have:(fun v:ByteArray => v.toList == t.toList) = fun v => t.toList == v.toList:=by funext v;exact BEq.comm
 rw [this]
 unfold ixOf
 by_cases h:vars.findIdx (fun v => t.toList == v.toList) < vars.length
 ·rw [if_pos h]
  obtain ⟨x,hx,hp⟩:=List.findIdx_lt_length.1 h
  rw [decide_eq_true (by omega),List.any_eq_true]
  exact ⟨x,hx,hp⟩
 ·rw [if_neg h,decide_eq_false (by omega),List.any_eq_false]
  intro x hx hp
  exact h (List.findIdx_lt_length.2 ⟨x,hx,hp⟩)
theorem names_all (vars:List ByteArray) (hd:List Est.Pc) (r:Est.Rd) (h:r.bad = 0) :
  (∀ p,hd.find? (fun p => !decide (0 <= ixOf vars p.t)) = some p -> Bad (nl vars (hd.map Est.Pc.t) (hd.map Est.Pc.a) r) 5 p.a) /\
  (hd.find? (fun p => !decide (0 <= ixOf vars p.t)) = none -> nl vars (hd.map Est.Pc.t) (hd.map Est.Pc.a) r = r):=by
 induction hd with
 | nil => exact ⟨fun p x => by simp at x,fun _ => rfl⟩
 | cons q hd ih =>
  simp only [List.map_cons]
  unfold nl
  rw [if_pos h,ix_any,List.find?_cons]
  by_cases hx:0 <= ixOf vars q.t
  ·simp only [hx,decide_true,Bool.not_true,if_true]
   exact ih
  ·simp only [hx,decide_false,Bool.not_false,Bool.false_eq_true,if_false]
   refine ⟨fun p x => ?_,fun x => by simp at x⟩
   cases x
   unfold Est.Rd.fail;rw [if_pos h];exact ⟨rfl,rfl,by decide⟩
theorem query_all (s:ByteArray) :
  ((rq s (c0 s)).1 = true -> (rE s).bad = 0 /\ (TA s).2.1 = (rq s (c0 s)).2.vars /\ ALL (TA s).2.2 (rq s (c0 s)).2.ats /\ (TH s).2.1 = (rq s (c0 s)).2.hd.map Est.Pc.t /\ (TH s).2.2 = (rq s (c0 s)).2.hd.map Est.Pc.a) /\
  ((rq s (c0 s)).1 = false -> Bad (rE s) (rq s (c0 s)).2.e (rq s (c0 s)).2.a):=by
 have badE:∀ {e a},Bad ((TA s).1.must s 46) e a -> Bad (rE s) e a:=fun B => by
  unfold rE;rw [if_neg (by rw [B.eq];exact fun x => B.ne x.1)];exact B
 obtain ⟨o1,o2⟩:=head_whole s
 obtain ⟨v1,v2,hok⟩:=rdH_keep s (c0 s) (OkC.piece s 0 (Nat.zero_le _))
 have v1:(rdH s (c0 s)).2.vars = []:=v1
 have v2:(rdH s (c0 s)).2.ats = []:=v2
 unfold rq
 generalize hH:rdH s (c0 s) = H at *
 cases hb:H.1
 ·simp only [Bool.false_eq_true,if_false]
  refine ⟨fun x => by simp at x,fun _ => ?_⟩
  have B:=o2 hb
  apply badE
  have B2:Bad (aStep s ((((TH s).1.must s 41).must s 58),[],[])).1 H.2.e H.2.a:=by rw [B.must];exact B.step _ _
  unfold TA;rw [B2.al,B2.must];exact B2
 ·simp only [if_true]
  obtain ⟨A,e1,e2⟩:=o1 hb
  cases k8:tk H.2.p 8
  ·simp only [Bool.false_eq_true,if_false]
   refine ⟨fun x => by simp at x,fun _ => ?_⟩
   have:=cw_no (s:=s) k8
   rw [this.1,this.2]
   have B:Bad (((TH s).1.must s 41).must s 58) 2 H.2.p.a:=A.mustNot 8 (by decide) k8
   have B2:Bad (aStep s ((((TH s).1.must s 41).must s 58),[],[])).1 2 H.2.p.a:=B.step _ _
   apply badE
   unfold TA;rw [B2.al,B2.must];exact B2
  ·simp only [if_true]
   have A2:At s (((TH s).1.must s 41).must s 58) (cw s H.2 8).p:=by rw [cw_yes k8];exact (A.must 8 (by decide) (by decide) k8).2
   have w1:(cw s H.2 8).vars = []:=v1
   have w2:(cw s H.2 8).ats = []:=v2
   have w3:(cw s H.2 8).hd = H.2.hd:=rfl
   have L:=atoms_all s 5 (cw s H.2 8) _ [] A2 (by rw [w2];exact ALL.nil) (by rw [w2];rfl) (by decide) (by rw [w1];decide)
   rw [w1] at L
   obtain ⟨l1,-,-⟩:=la_hd s 5 (cw s H.2 8) A2.ok (by rw [w1];decide)
   rw [w3] at l1
   rw [← TA.eq_1 s] at L
   obtain ⟨p1,p2⟩:=L
   have h5:5 - (c0 s).ats.length = 5:=rfl
   rw [h5]
   generalize la s 5 (cw s H.2 8) = Q at *
   cases hq:Q.1
   ·simp only [Bool.false_eq_true,if_false]
    refine ⟨fun x => by simp at x,fun _ => badE ?_⟩
    rw [(p2 hq).must];exact p2 hq
   ·simp only [if_true]
    obtain ⟨A3,f1,f2⟩:=p1 hq
    cases k9:tk Q.2.p 9
    ·simp only [Bool.false_eq_true,if_false]
     refine ⟨fun x => by simp at x,fun _ => badE ?_⟩
     have:=cw_no (s:=s) k9
     rw [this.1,this.2];exact A3.mustNot 9 (by decide) k9
    ·simp only [if_true]
     have A4:At s ((TA s).1.must s 46) (cw s Q.2 9).p:=by rw [cw_yes k9];exact (A3.must 9 (by decide) (by decide) k9).2
     have hk:=A4.isB 1 (by decide)
     have hk:(((TA s).1.must s 46).g.k == 0) = tk (cw s Q.2 9).p 1:=by
      rw [← hk];unfold Est.Rd.isB;rw [A4.z];rfl
     cases k1:tk (cw s Q.2 9).p 1
     ·refine ⟨fun x => by simp at x,fun _ => ?_⟩
      have:=cw_no (s:=s) k1
      rw [this.1,this.2]
      unfold rE
      rw [if_pos ⟨A4.z,by rw [k1] at hk;exact beq_eq_false_iff_ne.1 hk⟩,A4.sim.a]
      exact A4.fail 2 _ (by decide)
     ·refine ⟨fun _ => ?_,fun x => by simp at x⟩
      have hE:rE s = (TA s).1.must s 46:=by
       unfold rE;rw [if_neg];rw [k1] at hk;exact fun x => x.2 (beq_iff_eq.1 hk)
      rw [hE]
      refine ⟨A4.z,f1,f2,?_,?_⟩
      ·rw [e1];show _ = Q.2.hd.map _;rw [l1]
      ·rw [e2];show _ = Q.2.hd.map _;rw [l1]
def CheckSaid:Prop:=∀ (s:ByteArray) (w:World),s.size <= maxLen -> Calls Tryz.prog 61 #[.string s] w fun x w' => x = .returned (.tuple #[.int .i64 (refE s),.int .i64 (refP s)]) /\ Below w.heap.size w w'
def ParseSaid:Prop:=∀ (s:ByteArray) (w:World),s.size <= maxLen -> Calls Tryz.prog 62 #[.string s] w fun x w' => (∃ q,x = .returned (.tuple #[q,.int .i64 (refE s),.int .i64 (refP s)])) /\ Below w.heap.size w w'
theorem num_any (n:Int) (w:World) (h:-9223372036854775808 <= n /\ n <= 9223372036854775807):Calls Tryz.prog 27 #[.int .i64 n] w fun x w' => x = .returned (.int .i64 n) /\ w' = w:=by
 obtain ⟨h1,h2⟩:=h
 go_enter Tryz.func27,Tryz.ntmps27
 go_wp2
 go_ret
 exact ⟨rfl,rfl⟩
def B8 (r:Est.Rd):Prop:=r.bad <= 8
theorem B8.fail {r:Est.Rd} (h:B8 r) (e a:Nat) (he:e <= 8):B8 (r.fail e a):=by unfold Est.Rd.fail;split;exact he;exact h
theorem B8.is {r:Est.Rd} (h:B8 r) (s:ByteArray) (k:UInt8):B8 (r.is s k):=by unfold Est.Rd.is;split <;> exact h
theorem B8.must {r:Est.Rd} (h:B8 r) (s:ByteArray) (k:UInt8):B8 (r.must s k):=by unfold Est.Rd.must;split;exact h;exact h.fail _ _ (by decide)
theorem B8.vrd {r:Est.Rd} (h:B8 r) (vars:List ByteArray) (t:ByteArray) (a:Nat):B8 (vrd r vars t a):=by
 unfold YtondkinefmjpjaaGreat.K.vrd;split;exact h;split;exact h.fail _ _ (by decide);exact h
theorem B8.tR {r:Est.Rd} (h:B8 r) (s:ByteArray) (vars:List ByteArray):B8 (tR s r vars):=by
 unfold YtondkinefmjpjaaGreat.K.tR;split;exact h;split;exact (h.must s _).vrd _ _ _;exact h.must s _
theorem B8.tl (s:ByteArray) (n:Nat) {r:Est.Rd} (h:B8 r) (vars:List ByteArray) (ts:List Int):B8 (tl s n r vars ts).1:=by
 induction n generalizing r vars ts with
 | zero => exact h
 | succ n ih =>
  by_cases hb:r.bad = 0
  ·obtain ⟨r2,hr2⟩:∃ r2,(if 3 <= ts.length then r.fail 3 r.g.a else r) = r2:=⟨_,rfl⟩
   have h2:B8 r2:=by rw [← hr2];split;exact h.fail _ _ (by decide);exact h
   rw [tl_step s n r r2 vars ts hb hr2]
   split
   ·exact ih ((h2.tR s vars).is s 44) _ _
   ·exact h2.tR s vars
  ·rw [tl_done s _ r vars ts hb];exact h
theorem B8.aR1 {r:Est.Rd} (h:B8 r) (n:Nat):B8 (aR1 r n):=by unfold YtondkinefmjpjaaGreat.K.aR1;split;exact h.fail _ _ (by decide);exact h
theorem B8.aFinP {r:Est.Rd} (h:B8 r) (s:ByteArray) (pl:List PA) (vars:List ByteArray):B8 (aFinP s r pl vars):=by
 have h2:B8 ((aT s r pl.length vars).1.must s 41):=(B8.tl s 5 (((h.aR1 _).must s 114).must s 40) vars []).must s 41
 unfold YtondkinefmjpjaaGreat.K.aFinP;split;exact h2.fail _ _ (by decide);exact h2
theorem B8.aStep (s:ByteArray) (x:Est.Rd × List ByteArray × List PA) (h:B8 x.1):B8 (aStep s x).1:=by
 show B8 (YtondkinefmjpjaaGreat.K.aFinP s x.1 x.2.2 x.2.1)
 exact h.aFinP s x.2.2 x.2.1
theorem B8.al (s:ByteArray) (n:Nat) (x:Est.Rd × List ByteArray × List PA) (h:B8 x.1):B8 (al s n x).1:=by
 induction n generalizing x with
 | zero => exact h
 | succ n ih =>
  unfold YtondkinefmjpjaaGreat.K.al;split
  ·exact ih _ (B8.aStep s (x.1.next s,x.2.1,x.2.2) h)
  ·exact h
theorem B8.hR {r:Est.Rd} (h:B8 r) (s:ByteArray) (ns:List ByteArray):B8 (hR s r ns):=by
 have h1:B8 (nShape (r.must s 118) ns r.g.t r.g.a ns.length):=by unfold nShape;split;exact (h.must s 118).fail _ _ (by decide);exact h.must s 118
 unfold YtondkinefmjpjaaGreat.K.hR;split;exact h1.fail _ _ (by decide);exact h1
theorem B8.hl (s:ByteArray) (n:Nat) {r:Est.Rd} (h:B8 r) (ns:List ByteArray) (ps:List Nat):B8 (hl s n r ns ps).1:=by
 induction n generalizing r ns ps with
 | zero => exact h
 | succ n ih =>
  unfold YtondkinefmjpjaaGreat.K.hl;split
  ·split
   ·exact ih ((h.hR s ns).is s 44) _ _
   ·exact h.hR s ns
  ·exact h
theorem B8.nl (vars ns:List ByteArray) (ps:List Nat) {r:Est.Rd} (h:B8 r):B8 (nl vars ns ps r):=by
 induction ns generalizing ps with
 | nil => simpa [YtondkinefmjpjaaGreat.K.nl] using h
 | cons n ns ih =>
  cases ps with
  | nil => simpa [YtondkinefmjpjaaGreat.K.nl] using h
  | cons p ps =>
   unfold YtondkinefmjpjaaGreat.K.nl;split
   ·split
    ·exact ih ps
    ·exact h.fail _ _ (by decide)
   ·exact h
theorem rN_le (s:ByteArray):(rN s).bad <= 8:=by
 have h0:B8 (r1 s):=B8.must (r:=r00.next s) (Nat.zero_le _) s 40
 have h1:B8 (TH s).1:=by unfold TH;split;exact B8.hl s 8 h0 [] [];exact h0
 have h2:B8 (TA s).1:=by unfold TA;exact B8.al s 5 _ (B8.aStep s (((TH s).1.must s 41).must s 58,[],[]) ((h1.must s 41).must s 58))
 have h3:B8 (rE s):=by unfold rE;split;exact (h2.must s 46).fail _ _ (by decide);exact h2.must s 46
 exact B8.nl _ _ _ h3
theorem refE_range (s:ByteArray):-9223372036854775808 <= refE s /\ refE s <= 9223372036854775807:=by
 have:=rN_le s
 unfold refE
 split
 ·omega
 ·split
  ·omega
  ·split <;> omega
theorem Checks_nil (len cap:Nat) (ao:Option Addr) (w:World) (h0:len = 0) :
  Calls Tryz.prog 32 #[.slice ao len cap] w fun x w' => x = .returned (.bool true) /\ w' = w:=by
 subst h0
 go_enter Tryz.func32,Tryz.ntmps32
 go_wp2_with fail
 refine wp_loop_rounds 1 ?_
 rw [rounds_succ]
 go_wp2
 go_ret
 exact ⟨rfl,rfl⟩
theorem Checks_any (hC:CheckSaid) (hP:ParseSaid) (b off len cap:Nat) (K:Nat -> Int) (S:Nat -> ByteArray) (w:World) (_hlen:len <= maxLen) (hb:b < w.heap.size)
  (hK:∀ i,i < len -> w.cell? ⟨b,off + i * 5,none⟩ = some (.int .i64 (K i))) (hS:∀ i,i < len -> w.cell? ⟨b,off + i * 5 + 2,none⟩ = some (.string (S i)) /\ (S i).size <= maxLen) :
  Calls Tryz.prog 32 #[.slice (some ⟨b,off,none⟩) len cap] w fun x w' => x = .returned (.bool true) /\ Below w.heap.size w w':=by
 have HS:Hid (∀ i,i < len -> w.cell? ⟨b,off + i * 5 + 2,none⟩ = some (.string (S i)) /\ (S i).size <= maxLen):=hS
 have HK:Hid (∀ i,i < len -> w.cell? ⟨b,off + i * 5,none⟩ = some (.int .i64 (K i))):=hK
 clear hS hK
 go_enter Tryz.func32,Tryz.ntmps32
 go_wp2_with fail
 go_loopw [3,4,5,6,7,8] (fun iv _ _ _ _ _ wr => ∃ k:Nat,k <= len /\ iv = .int .i64 k /\ Below w.heap.size w wr) (fun iv _ _ _ _ _ _ => len - (intOf iv).toNat)
 case atStart => exact ⟨0,Nat.zero_le _,rfl,Below.refl _ _⟩
 case round =>
  obtain ⟨k,hk,rfl,hbel⟩:=hrel
  by_cases hlt:k < len
  ·have c0:=(hbel.cell (p:=⟨b,off + k * 5,none⟩) hb).trans (HK.out k hlt)
   have c2:=(hbel.cell (p:=⟨b,off + k * 5 + 2,none⟩) hb).trans (HS.out k hlt).1
   have HZ:Hid ((S k).size <= maxLen):=(HS.out k hlt).2
   by_cases hbig:(k:Int) < 1152921504606846976
   ·cases hk1:(K k == 1)
    ·go_wp2_with fail
     go_roundw
     case rel => exact ⟨k + 1,by omega,by go_num,hbel⟩
     case measure => simp [intOf];omega
    ·go_wp2_with fail
     refine (hC (S k) _ HZ.out).mono ?_
     rintro e w1 ⟨rfl,hb1⟩
     have hbel1:Below w.heap.size w w1:=hbel.trans (hb1.mono hbel.size)
     have c2':=(hbel1.cell (p:=⟨b,off + k * 5 + 2,none⟩) hb).trans (HS.out k hlt).1
     clear c0 c2
     go_wp2_with fail
     refine (hP (S k) _ HZ.out).mono ?_
     rintro e w2 ⟨⟨q,rfl⟩,hb2⟩
     have hbel2:Below w.heap.size w w2:=hbel1.trans (hb2.mono hbel1.size)
     have hr:=refE_range (S k)
     generalize refE (S k) = E at hr
     generalize refP (S k) = P
     obtain ⟨hr1,hr2⟩:=hr
     clear c2'
     go_wp2_with (go_at_call 27;refine (num_any E _ ⟨hr1,hr2⟩).mono ?_;rintro e w' ⟨rfl,rfl⟩)
     go_roundw
     case rel => exact ⟨k + 1,by omega,by go_num,hbel2⟩
     case measure => simp [intOf];omega
   ·go_wp2_with fail
    go_ret
    exact ⟨rfl,hbel⟩
  ·go_wp2_with fail
   go_ret
   exact ⟨rfl,hbel⟩
def CycSaid:Prop:=∀ s:ByteArray,(rq s (c0 s)).1 = true -> mtI ((rq s (c0 s)).2.ats.length - 1) ((rq s (c0 s)).2.ats.map CA.set) (List.range (rq s (c0 s)).2.ats.length) = !cycP (TA s).2.1.length (TA s).2.2 ((TA s).2.2.length - 1) (List.replicate (TA s).2.2.length true)
theorem answers (hC:CycSaid) (s:ByteArray):(pE s:Int) = refE s /\ (pA s:Int) = refP s:=by
 unfold pE pA refE refP
 by_cases h200:200 < s.size
 ·simp only [h200,if_true];exact ⟨rfl,rfl⟩
 ·simp only [h200,if_false]
  obtain ⟨o1,o2⟩:=query_all s
  have hc:=hC s
  have hN:rN s = nl (TA s).2.1 (TH s).2.1 (TH s).2.2 (rE s):=rN.eq_1 s
  generalize rq s (c0 s) = Q at *
  cases hq:Q.1
  ·have B:=o2 hq
   rw [hN,B.nl]
   have hne:(rE s).bad ≠ 0:=by rw [B.eq];exact B.ne
   simp only [Bool.false_eq_true,if_false,hne,ne_eq,not_false_eq_true,if_true]
   exact ⟨by rw [B.eq],by rw [B.pl]⟩
  ·obtain ⟨z,f1,f2,f3,f4⟩:=o1 hq
   have hc:=hc hq
   obtain ⟨n1,n2⟩:=names_all Q.2.vars Q.2.hd (rE s) z
   rw [hN,f3,f4]
   unfold wfE wfA
   rw [hc]
   simp only [if_true]
   rw [f1]
   cases hf:Q.2.hd.find? (fun p => !decide (0 <= ixOf Q.2.vars p.t)) with
   | some p =>
    have B:=n1 p hf
    have hne:(nl Q.2.vars (Q.2.hd.map Est.Pc.t) (Q.2.hd.map Est.Pc.a) (rE s)).bad ≠ 0:=by rw [B.eq];decide
    simp only [hne,ne_eq,not_false_eq_true,if_true]
    exact ⟨by rw [B.eq],by rw [B.pl]⟩
   | none =>
    rw [n2 hf]
    simp only [z,ne_eq,not_true_eq_false,if_false]
    cases cycP Q.2.vars.length (TA s).2.2 ((TA s).2.2.length - 1) (List.replicate (TA s).2.2.length true) <;> exact ⟨rfl,rfl⟩
theorem check_said (hC:CycSaid):CheckSaid:=by
 intro s w hs
 have h:=Check_any s w hs
 rw [(answers hC s).1,(answers hC s).2] at h
 exact h
def idxs (N:Nat) (left:List Bool):List Nat:=(List.range N).filter fun i => left.getD i false
theorem idxs_mem {N:Nat} {left:List Bool} {i:Nat}:i ∈ idxs N left ↔ i < N /\ left.getD i false = true:=by
 unfold idxs;rw [List.mem_filter,List.mem_range]
theorem idxs_set (N:Nat) (left:List Bool) (hl:left.length = N) (g:Nat) :
  (idxs N left).filter (· != g) = idxs N (left.set g false):=by
 unfold idxs
 rw [List.filter_filter]
 apply List.filter_congr
 intro i hi
 have hi:=List.mem_range.1 hi
 by_cases e:g = i
 ·subst e;simp [List.getD,List.getElem?_set_self (show g < left.length by omega)]
 ·have:i ≠ g:=fun x => e x.symm
  simp [List.getD,List.getElem?_set_ne e,this]
theorem find_congr {l:List Nat} {f g:Nat -> Bool} (h:∀ q ∈ l,f q = g q):l.find? f = l.find? g:=by
 induction l with
 | nil => rfl
 | cons x l ih => rw [List.find?_cons,List.find?_cons,h x (by simp),ih fun q hq => h q (by simp [hq])]
theorem orK_SR' (sets:List Int) (F:Nat -> Nat -> Bool) (i:Nat) (l:List Nat) (h:∀ j,j ∈ l -> SR (sets.getD j 0) (F j)) (acc:Int) (f:Nat -> Bool) (ha:SR acc f) :
  SR (l.foldl (fun acc j => if j = i then acc else bits BinOp.or IntKind.u8 acc (sets.getD j 0)) acc) (fun v => f v || l.any fun j => !(j == i) && F j v):=by
 induction l generalizing acc f with
 | nil => exact ha.congr fun v _ => by simp
 | cons x l ih =>
  rw [List.foldl_cons]
  by_cases e:x = i
  ·rw [if_pos e]
   refine (ih (fun j hj => h j (by simp [hj])) acc f ha).congr fun v _ => ?_
   simp [e]
  ·rw [if_neg e]
   refine (ih (fun j hj => h j (by simp [hj])) _ _ (ha.or (h x (by simp)))).congr fun v _ => ?_
   have e':(x == i) = false:=beq_eq_false_iff_ne.2 e
   simp [e',Bool.or_assoc]
theorem orK_SR (sets:List Int) (F:Nat -> Nat -> Bool) (i:Nat) (l:List Nat) (h:∀ j,j ∈ l -> SR (sets.getD j 0) (F j)):SR (orK sets i l) (fun v => l.any fun j => !(j == i) && F j v) :=
 (orK_SR' sets F i l h 0 (fun _ => false) SR.zero).congr fun v _ => by simp
theorem gnB_iff (sets:List Int) (F:Nat -> Nat -> Bool) (left:List Nat) (i:Nat) (hi:i ∈ left) (h:∀ j,j ∈ left -> SR (sets.getD j 0) (F j)) :
  gnB sets left i = true ↔ ∃ k,k ∈ left /\ k ≠ i /\ ∀ v,v < 8 -> F i v = true -> (∃ j,j ∈ left /\ j ≠ i /\ F j v = true) -> F k v = true:=by
 unfold gnB
 rw [List.any_eq_true]
 constructor
 ·rintro ⟨k,hk,hj⟩
  unfold prB shV at hj
  rw [Bool.and_eq_true,(((h i hi).and (orK_SR sets F i left h)).andNot (h k hk)).isZero,List.all_eq_true] at hj
  refine ⟨k,hk,by simpa using hj.1,fun v hv h1 ⟨j,hj1,hj2,hj3⟩ => ?_⟩
  have:=hj.2 v (List.mem_range.2 hv)
  have ha:(left.any fun j => !(j == i) && F j v) = true:=List.any_eq_true.2 ⟨j,hj1,by simp [hj2,hj3]⟩
  simp only [h1,ha] at this
  simpa using this
 ·rintro ⟨k,hk,hki,hv⟩
  refine ⟨k,hk,?_⟩
  unfold prB shV
  rw [Bool.and_eq_true,(((h i hi).and (orK_SR sets F i left h)).andNot (h k hk)).isZero,List.all_eq_true]
  refine ⟨by simpa using hki,fun v hv8 => ?_⟩
  have hv8:=List.mem_range.1 hv8
  cases h1:F i v
  ·rfl
  ·cases ha:(left.any fun j => !(j == i) && F j v)
   ·rfl
   ·obtain ⟨j,hj,hp⟩:=List.any_eq_true.1 ha
    have hp:j ≠ i /\ F j v = true:=by simpa using hp
    rw [hv v hv8 h1 ⟨j,hj,hp.1,hp.2⟩];rfl
def goP (nv:Nat) (left:List Bool) (pl:List PA) (i:Nat):Bool:=(List.range pl.length).any fun k => left.getD k false && !(i == k) && earP nv left pl i k
theorem goP_iff (nv:Nat) (left:List Bool) (pl:List PA) (i:Nat) :
  goP nv left pl i = true ↔ ∃ k,k ∈ idxs pl.length left /\ k ≠ i /\ ∀ j,j ∈ idxs pl.length left -> j ≠ i -> ∀ v,v < nv -> hasP pl i v = true -> hasP pl j v = true -> hasP pl k v = true:=by
 unfold goP earP
 rw [List.any_eq_true]
 constructor
 ·rintro ⟨k,hk,h⟩
  simp only [Bool.and_eq_true,List.all_eq_true] at h
  obtain ⟨⟨h1,h2⟩,h3⟩:=h
  refine ⟨k,idxs_mem.2 ⟨List.mem_range.1 hk,h1⟩,fun e => by simp [e] at h2,fun j hj hne v hv a b => ?_⟩
  obtain ⟨j1,j2⟩:=idxs_mem.1 hj
  have:=h3 j (List.mem_range.2 j1)
  rw [j2,beq_eq_false_iff_ne.2 hne] at this
  simp only [Bool.not_true,Bool.false_or,List.all_eq_true] at this
  have:=this v (List.mem_range.2 hv)
  rw [a,b] at this
  simpa using this
 ·rintro ⟨k,hk,hne,h⟩
  obtain ⟨k1,k2⟩:=idxs_mem.1 hk
  refine ⟨k,List.mem_range.2 k1,?_⟩
  simp only [Bool.and_eq_true,List.all_eq_true]
  refine ⟨⟨k2,by have:¬ i = k:=fun e => hne e.symm;simp [this]⟩,fun j hj => ?_⟩
  cases hl:left.getD j false
  ·rfl
  ·by_cases e:j = i
   ·simp [e]
   ·rw [beq_eq_false_iff_ne.2 e]
    simp only [Bool.not_true,Bool.false_or,List.all_eq_true]
    intro v hv
    cases a:hasP pl i v
    ·rfl
    ·cases b:hasP pl j v
     ·rfl
     ·rw [h j (idxs_mem.2 ⟨List.mem_range.1 hj,hl⟩) e v (List.mem_range.1 hv) a b];rfl
theorem go_same (nv:Nat) (left:List Bool) (pl:List PA) (sets:List Int) (hnv:nv <= 8) (hS:∀ i,i < pl.length -> SR (sets.getD i 0) (hasP pl i)) (hb:∀ i,i < pl.length -> ∀ v,nv <= v -> hasP pl i v = false) (i:Nat) (hi:i ∈ idxs pl.length left) :
  gnB sets (idxs pl.length left) i = goP nv left pl i:=by
 have hm:∀ j,j ∈ idxs pl.length left -> j < pl.length:=fun j hj => (idxs_mem.1 hj).1
 rw [Bool.eq_iff_iff,gnB_iff sets (hasP pl) _ i hi (fun j hj => hS j (hm j hj)),goP_iff]
 constructor
 ·rintro ⟨k,hk,hki,h⟩
  exact ⟨k,hk,hki,fun j hj hne v hv a b => h v (by omega) a ⟨j,hj,hne,b⟩⟩
 ·rintro ⟨k,hk,hki,h⟩
  refine ⟨k,hk,hki,fun v hv a ⟨j,hj,hne,b⟩ => ?_⟩
  have hvn:v < nv:=by
   apply Nat.lt_of_not_le
   intro hle
   rw [hb j (hm j hj) v hle] at b;cases b
  exact h j hj hne v hvn a b
theorem cyc_core (nv:Nat) (pl:List PA) (sets:List Int) (hnv:nv <= 8) (hS:∀ i,i < pl.length -> SR (sets.getD i 0) (hasP pl i)) (hb:∀ i,i < pl.length -> ∀ v,nv <= v -> hasP pl i v = false) (n:Nat) (left:List Bool) (hl:left.length = pl.length) :
  mtI n sets (idxs pl.length left) = !cycP nv pl n left:=by
 induction n generalizing left with
 | zero => rfl
 | succ n ih =>
  have hf:(List.range pl.length).find? (fun i => (List.range pl.length).any fun k => left.getD i false && left.getD k false && !(i == k) && earP nv left pl i k) = (idxs pl.length left).find? (goP nv left pl):=by
   unfold idxs
   rw [List.find?_filter]
   congr 1
   funext i
   unfold goP
   rw [Bool.eq_iff_iff]
   simp only [List.any_eq_true,Bool.and_eq_true,decide_eq_true_eq]
   constructor
   ·rintro ⟨k,hk,⟨⟨h1,h2⟩,h3⟩,h4⟩;exact ⟨h1,k,hk,⟨h2,h3⟩,h4⟩
   ·rintro ⟨h1,k,hk,⟨h2,h3⟩,h4⟩;exact ⟨k,hk,⟨⟨h1,h2⟩,h3⟩,h4⟩
  have hg:gon sets (idxs pl.length left) = (idxs pl.length left).find? (goP nv left pl):=by
   unfold gon
   exact find_congr fun i hi => go_same nv left pl sets hnv hS hb i hi
  unfold mtI cycP
  rw [hf,hg]
  cases hx:(idxs pl.length left).find? (goP nv left pl) with
  | none => rfl
  | some g =>
   simp only
   rw [idxs_set pl.length left hl g,ih _ (by simp [hl])]
theorem bad_of {r:Est.Rd} (h:r.bad ≠ 0):Bad r r.bad r.bat:=⟨rfl,rfl,h⟩
theorem tV_lt (s:ByteArray) (r:Est.Rd) (vars:List ByteArray) (h:(tR s r vars).bad = 0):tV s r vars < ((tVars s r vars).length:Int) /\ vars.length <= (tVars s r vars).length:=by
 unfold tR at h
 unfold tV tVars
 cases h1:r.isB 110
 ·rw [h1] at h
  simp only [Bool.false_eq_true,if_false] at h ⊢
  by_cases h2:(r.must s 118).bad = 0
  ·simp only [h2,if_true]
   unfold vadd
   have hle:vix vars r.g.t <= vars.length:=List.findIdx_le_length
   by_cases h3:vix vars r.g.t < vars.length
   ·rw [if_pos h3];exact ⟨by omega,Nat.le_refl _⟩
   ·rw [if_neg h3];simp;omega
  ·rw [if_neg h2] at h;exact absurd h h2
 ·simp only [if_true];exact ⟨by omega,Nat.le_refl _⟩
theorem tl_below (s:ByteArray) (n:Nat) (r:Est.Rd) (vars:List ByteArray) (ts:List Int) (h:∀ t ∈ ts,t < (vars.length:Int)) (hb:(tl s n r vars ts).1.bad = 0) :
  (∀ t ∈ (tl s n r vars ts).2.2,t < ((tl s n r vars ts).2.1.length:Int)) /\ vars.length <= (tl s n r vars ts).2.1.length:=by
 induction n generalizing r vars ts with
 | zero => exact ⟨h,Nat.le_refl _⟩
 | succ n ih =>
  rw [tl.eq_def] at hb ⊢
  simp only at hb ⊢
  by_cases h0:r.bad = 0
  ·rw [if_pos h0] at hb ⊢
   have key:=tV_lt s (if 3 <= ts.length then r.fail 3 r.g.a else r) vars
   generalize tR s (if 3 <= ts.length then r.fail 3 r.g.a else r) vars = R at *
   generalize tVars s (if 3 <= ts.length then r.fail 3 r.g.a else r) vars = V at *
   generalize tV s (if 3 <= ts.length then r.fail 3 r.g.a else r) vars = Z at *
   have fine:R.bad = 0 -> ∀ t ∈ ts ++ [Z],t < (V.length:Int):=fun hR t ht => by
    obtain ⟨k1,k2⟩:=key hR
    rcases List.mem_append.1 ht with h' | h'
    ·have:=h t h';omega
    ·have:t = Z:=by simpa using h'
     omega
   cases h4:R.isB 44
   ·rw [h4] at hb
    simp only [Bool.false_eq_true,if_false] at hb ⊢
    exact ⟨fine hb,(key hb).2⟩
   ·rw [h4] at hb
    simp only [if_true] at hb ⊢
    have hR:R.bad = 0:=by
     apply Decidable.byContradiction;intro hne
     rw [(bad_of hne).isB] at h4;cases h4
    obtain ⟨i1,i2⟩:=ih _ V _ (fine hR) hb
    exact ⟨i1,Nat.le_trans (key hR).2 i2⟩
  ·rw [if_neg h0];exact ⟨h,Nat.le_refl _⟩
def InV (x:Est.Rd × List ByteArray × List PA):Prop:=∀ d ∈ x.2.2,∀ t ∈ d.vs,t < (x.2.1.length:Int)
theorem step_lt (s:ByteArray) (x:Est.Rd × List ByteArray × List PA) (h:InV x) (hb:(aStep s x).1.bad = 0):InV (aStep s x):=by
 have h1:(aT s x.1 x.2.2.length x.2.1).1.bad = 0:=by
  apply Decidable.byContradiction;intro hne
  have B:Bad (aStep s x).1 _ _:=(bad_of hne).fin
  exact B.ne (B.eq.symm.trans hb)
 obtain ⟨k1,k2⟩:=tl_below s 5 (aR3 s x.1 x.2.2.length) x.2.1 [] (by simp) h1
 intro d hd t ht
 rcases List.mem_append.1 hd with h' | h'
 ·have:=h d h' t ht
  show t < ((tl s 5 (aR3 s x.1 x.2.2.length) x.2.1 []).2.1.length:Int)
  omega
 ·have:d = _:=List.mem_singleton.1 h'
  subst this
  exact k1 t ht
theorem al_lt (s:ByteArray) (n:Nat) (x:Est.Rd × List ByteArray × List PA) (h:InV x) (hb:(al s n x).1.bad = 0):InV (al s n x):=by
 induction n generalizing x with
 | zero => exact h
 | succ n ih =>
  unfold al at hb ⊢
  cases h4:x.1.isB 44
  ·simp only [Bool.false_eq_true,if_false];exact h
  ·rw [h4] at hb
   simp only [if_true] at hb ⊢
   refine ih _ (step_lt s _ h ?_) hb
   apply Decidable.byContradiction;intro hne
   have B:=bad_of hne
   rw [B.al] at hb
   exact hne hb
theorem TA_lt (s:ByteArray) (h:(TA s).1.bad = 0):InV (TA s):=by
 unfold TA at h ⊢
 refine al_lt s 5 _ (step_lt s _ (fun d hd => by simp at hd) ?_) h
 apply Decidable.byContradiction;intro hne
 rw [(bad_of hne).al] at h
 exact hne h
theorem rq_vars6 (s:ByteArray):(rq s (c0 s)).2.vars.length <= 6:=by
 obtain ⟨v1,v2,hok⟩:=rdH_keep s (c0 s) (OkC.piece s 0 (Nat.zero_le _))
 have v1:(rdH s (c0 s)).2.vars = []:=v1
 have hh:(rdH s (c0 s)).2.vars.length <= 6:=by rw [v1];decide
 have hl:=(la_ok s (5 - (c0 s).ats.length) (c:=cw s (rdH s (c0 s)).2 8) (hok.tp 8) hh).2
 unfold rq
 split
 ·split
  ·split
   ·split
    ·exact hl
    ·exact hl
   ·exact hl
  ·exact hh
 ·exact hh
theorem cyc_plain (X:Est.Rd × List ByteArray × List PA) (ats:List CA) (f2:ALL X.2.2 ats) (hI:InV X) (h6:X.2.1.length <= 6) :
  mtI (ats.length - 1) (ats.map CA.set) (List.range ats.length) = !cycP X.2.1.length X.2.2 (X.2.2.length - 1) (List.replicate X.2.2.length true):=by
 have hP:∀ i (hi:i < X.2.2.length) v,hasP X.2.2 i v = anyV X.2.2[i].vs v:=fun i hi v => by
  unfold hasP anyV;simp [hi]
 have hlen:=f2.len
 have core:=cyc_core X.2.1.length X.2.2 (ats.map CA.set) (by omega)
  (fun i hi => by
   have:=(f2.el i hi (by omega)).set
   rw [show (ats.map CA.set).getD i 0 = (ats[i]'(by omega)).set by simp [List.getD,show i < ats.length by omega]]
   exact this.congr fun v _ => (hP i hi v).symm)
  (fun i hi v hv => by
   rw [hP i hi v]
   unfold anyV
   rw [List.any_eq_false]
   intro t ht e
   have:=hI _ (List.getElem_mem hi) t ht
   have:=beq_iff_eq.1 e
   omega)
  (X.2.2.length - 1) (List.replicate X.2.2.length true) (by simp)
 rw [← core]
 have hi:idxs X.2.2.length (List.replicate X.2.2.length true) = List.range X.2.2.length:=by
  unfold idxs
  refine List.filter_eq_self.2 fun i hi => ?_
  have:=List.mem_range.1 hi
  simp [List.getD,this]
 rw [hi,hlen]
theorem cyc_said:CycSaid:=by
 intro s hq
 obtain ⟨z,f1,f2,f3,f4⟩:=(query_all s).1 hq
 have hTA:(TA s).1.bad = 0:=by
  apply Decidable.byContradiction;intro hne
  have B:=bad_of hne
  have:Bad (rE s) (TA s).1.bad (TA s).1.bat:=by unfold rE;rw [B.must,if_neg (fun x => hne x.1)];exact B
  exact this.ne (this.eq.symm.trans z)
 have hI:=TA_lt s hTA
 have h6:=rq_vars6 s
 rw [← f1] at h6
 exact cyc_plain (TA s) _ f2 hI h6
theorem Check_said:CheckSaid:=check_said cyc_said
def Nod (vars:List ByteArray):Prop:=vars.Pairwise fun a b => a.toList ≠ b.toList
theorem vix_no {vars:List ByteArray} {t:ByteArray} (h:¬ vix vars t < vars.length):vix vars t = vars.length /\ ∀ v,v ∈ vars -> v.toList ≠ t.toList:=by
 have e:vix vars t = vars.length:=by have:=vix_le vars t;omega
 refine ⟨e,fun v hv hx => ?_⟩
 have:=List.findIdx_eq_length.1 e v hv
 rw [beq_eq_false_iff_ne] at this
 exact this hx
theorem vadd_nod {vars:List ByteArray} {t:ByteArray} (h:Nod vars):Nod (vadd vars t):=by
 unfold vadd
 split
 ·exact h
 ·rename_i hx
  refine List.pairwise_append.2 ⟨h,List.pairwise_singleton _ _,fun a ha b hb => ?_⟩
  rw [List.mem_singleton.1 hb]
  exact (vix_no hx).2 a ha
structure Cov (n0:Nat) (vars:List ByteArray) (ts:List Int):Prop where
 nod:Nod vars
 cov:∀ v:Nat,n0 <= v -> v < vars.length -> (v:Int) ∈ ts
 le:n0 <= vars.length
theorem Cov.term {n0:Nat} {vars:List ByteArray} {ts:List Int} (h:Cov n0 vars ts) (s:ByteArray) (r:Est.Rd):Cov n0 (tVars s r vars) (ts ++ [tV s r vars]):=by
 have hs:Cov n0 vars (ts ++ [tV s r vars]):=⟨h.nod,fun v h1 h2 => List.mem_append_left _ (h.cov v h1 h2),h.le⟩
 cases hb:r.isB 110
 ·by_cases hm:(r.must s 118).bad = 0
  ·rw [(t_var hb hm).2.1,(t_var hb hm).2.2]
   refine ⟨vadd_nod h.nod,fun v h1 h2 => ?_,?_⟩
   ·unfold vadd at h2
    split at h2
    ·exact List.mem_append_left _ (h.cov v h1 h2)
    ·rename_i hx
     by_cases e:v < vars.length
     ·exact List.mem_append_left _ (h.cov v h1 e)
     ·rw [List.length_append,List.length_singleton] at h2
      refine List.mem_append_right _ ?_
      rw [List.mem_singleton,(vix_no hx).1]
      omega
   ·have:=h.le
    unfold vadd;split
    ·omega
    ·simp;omega
  ·rw [(t_bad hb hm).2.1];exact hs
 ·rw [(t_num hb).2.1];exact hs
theorem tl_cov (s:ByteArray) (n n0:Nat) (r:Est.Rd) (vars:List ByteArray) (ts:List Int) (h:Cov n0 vars ts):Cov n0 (tl s n r vars ts).2.1 (tl s n r vars ts).2.2:=by
 induction n generalizing r vars ts with
 | zero => exact h
 | succ n ih =>
  by_cases hb:r.bad = 0
  ·obtain ⟨r2,hr2⟩:∃ r2,(if 3 <= ts.length then r.fail 3 r.g.a else r) = r2:=⟨_,rfl⟩
   rw [tl_step s n r r2 vars ts hb hr2]
   split
   ·exact ih _ _ _ (h.term s r2)
   ·exact h.term s r2
  ·rw [tl_done s _ r vars ts hb];exact h
def CovA (x:Est.Rd × List ByteArray × List PA):Prop:=Nod x.2.1 /\ ∀ v:Nat,v < x.2.1.length -> ∃ d,d ∈ x.2.2 /\ (v:Int) ∈ d.vs
theorem step_cov (s:ByteArray) (x:Est.Rd × List ByteArray × List PA) (h:CovA x):CovA (aStep s x):=by
 have hc:=tl_cov s 5 x.2.1.length (aR3 s x.1 x.2.2.length) x.2.1 [] ⟨h.1,fun v h1 h2 => by omega,Nat.le_refl _⟩
 refine ⟨hc.nod,fun v hv => ?_⟩
 by_cases e:v < x.2.1.length
 ·obtain ⟨d,h1,h2⟩:=h.2 v e
  exact ⟨d,List.mem_append_left _ h1,h2⟩
 ·exact ⟨_,List.mem_append_right _ (List.mem_singleton.2 rfl),hc.cov v (by omega) hv⟩
theorem al_cov (s:ByteArray) (n:Nat) (x:Est.Rd × List ByteArray × List PA) (h:CovA x):CovA (al s n x):=by
 induction n generalizing x with
 | zero => exact h
 | succ n ih =>
  unfold al
  split
  ·exact ih _ (step_cov s (x.1.next s,x.2.1,x.2.2) h)
  ·exact h
theorem TA_cov (s:ByteArray):CovA (TA s):=by
 unfold TA
 exact al_cov s 5 _ (step_cov s _ ⟨List.Pairwise.nil,fun v hv => absurd hv (Nat.not_lt_zero _)⟩)
theorem lixK_at (vars:List ByteArray) (t:ByteArray) (k:Nat):lixK vars t k = -1 ∨ ∃ (j:Nat) (hj:j < vars.length),lixK vars t k = (j:Int) /\ (vars[j].toList == t.toList) = true:=by
 induction k with
 | zero => exact Or.inl rfl
 | succ k ih =>
  unfold lixK
  by_cases h:k < vars.length
  ·rw [dif_pos h]
   cases e:(vars[k].toList == t.toList)
   ·exact ih
   ·exact Or.inr ⟨k,h,rfl,e⟩
  ·rw [dif_neg h];exact ih
theorem lix_eq {vars:List ByteArray} (hn:Nod vars) (t:ByteArray):lix vars t = ixOf vars t:=by
 have hneg:=lixK_neg vars t vars.length
 rw [List.take_length,ix_any] at hneg
 unfold lix
 rcases lixK_at vars t vars.length with e | ⟨j,hj,e,hm⟩
 ·rw [e] at hneg ⊢
  have h0:¬ 0 <= ixOf vars t:=by
   intro h;rw [decide_eq_true h] at hneg;simp at hneg
  unfold ixOf at h0 ⊢
  split at h0
  ·omega
  ·rename_i hx;rw [if_neg hx]
 ·rw [e]
  have hf:vars.findIdx (fun v => t.toList == v.toList) = j:=by
   rw [List.findIdx_eq hj]
   refine ⟨by rw [BEq.comm];exact hm,fun i hi => ?_⟩
   rw [beq_eq_false_iff_ne]
   intro q
   have hl:i < vars.length:=by omega
   have:=List.pairwise_iff_getElem.1 hn i j hl hj hi
   exact this (q.symm.trans (beq_iff_eq.1 hm).symm)
  unfold ixOf
  rw [hf,if_pos hj]
end Go.Proofs.YtondkinefmjpjaaGreat.K
