import Derived.Deep.DeepCutAuto
import Derived.Test.YtondkinefmjpjaaGreatI03
set_option maxHeartbeats 2000000
namespace Go.Proofs.YtondkinefmjpjaaGreat.K
open Go.RowKit
theorem Keeps.setNew {F:Nat -> Option Obj -> Prop} {a w:World} (h:Keeps F a w) (p:Addr) (hp:a.heap.size <= p.block) (u:Value):Keeps F a (w.setCell p u) :=
 ⟨h.os,h.tape,h.output,by simpa [World.setCell] using h.size,fun k hk hs => by rw [Below.heap_setCell _ _ _ _ (by omega)];exact h.block k hk hs⟩
theorem Rdr.keeps {F:Nat -> Option Obj -> Prop} {w w':World} {b:Nat} {s:ByteArray} {r:Est.Rd} {q:Value} (h:Rdr w b s r q) (k:Keeps F w w') (hb:¬ F b w.heap[b]?):Rdr w' b s r q :=
 ⟨(k.block b h.lt hb).trans h.blk⟩
theorem VSt.keeps {F:Nat -> Option Obj -> Prop} {w w':World} {rb qb base:Nat} {s:ByteArray} {r:Est.Rd} {vars:List ByteArray} {hv av:Value} (h:VSt w rb qb base s r vars hv av) (k:Keeps F w w')
  (hr:¬ F rb w.heap[rb]?) (hq:¬ F qb w.heap[qb]?) (hvs:∀ k,base <= k -> tag w.heap[k]? = 9 -> ¬ F k w.heap[k]?):VSt w' rb qb base s r vars hv av:=by
 obtain ⟨vv,h1,h2⟩:=h.q
 exact ⟨h.rd.keeps k hr,vv,(k.block qb (lt_of_block h1) hq).trans h1,own_keeps h2 k (fun j hj _ ht _ => hvs j hj ht)⟩
theorem VSt.alloc {w:World} {rb qb base:Nat} {s:ByteArray} {r:Est.Rd} {vars:List ByteArray} {hv av:Value} (h:VSt w rb qb base s r vars hv av) (o:Obj):VSt (w.alloc o) rb qb base s r vars hv av :=
 h.keeps (F:=fun _ _ => False) ((Keeps.refl _ _).alloc o) (fun x => x) (fun x => x) (fun _ _ _ x => x)
theorem VSt.kept {w w':World} {rb qb base:Nat} {s:ByteArray} {r r':Est.Rd} {vars:List ByteArray} {hv av:Value} (h:VSt w rb qb base s r vars hv av) (hr:Rdr w' rb s r' (.pointer (some ⟨qb,0,none⟩))) (k:Kept (· = rb) w w'):VSt w' rb qb base s r' vars hv av:=by
 obtain ⟨vv,h1,h2⟩:=h.q
 have hrq:qb ≠ rb:=by intro e;have:=h.rd.blk;rw [← e,h1] at this;simp [rdBlk] at this
 refine ⟨hr,vv,(k.block qb (lt_of_block h1) hrq).trans h1,own_keeps h2 (Keeps.of (F:=fun j _ => j = rb) k (fun _ _ x => x)) (fun j _ _ ht _ e => ?_)⟩
 have e':j = rb:=e
 rw [e',h.rd.blk] at ht;simp [rdBlk,tag] at ht
theorem VSt.setNew {w:World} {rb qb base:Nat} {s:ByteArray} {r:Est.Rd} {vars:List ByteArray} {hv av:Value} (h:VSt w rb qb base s r vars hv av) (p:Addr) (u:Value) (hr:p.block ≠ rb) (hq:p.block ≠ qb) (ht:tag w.heap[p.block]? ≠ 9):VSt (w.setCell p u) rb qb base s r vars hv av :=
 h.keeps (F:=fun k _ => k = p.block) ((Keeps.refl _ _).setCell p (fun _ => rfl) u) (fun x => hr x.symm) (fun x => hq x.symm) (fun k _ h9 x => ht (by rw [← show k = p.block from x];exact h9))
def numM (t:ByteArray):Nat -> Int
 | 0 => 0
 | k + 1 => if h:k < t.size then wrap64 (wrap64 (10 * numM t k) + ((t[k].toNat:Int) - 48) % 256) else numM t k
def tN (r:Est.Rd):Int:=if r.isB 110 then numM r.g.t r.g.t.size else 0
theorem tN_no {r:Est.Rd} (h:r.isB 110 = false):tN r = 0:=by simp [tN,h]
theorem tN_yes {r:Est.Rd} (h:r.isB 110 = true):tN r = numM r.g.t r.g.t.size:=by simp [tN,h]
def tV (s:ByteArray) (r:Est.Rd) (vars:List ByteArray):Int:=if r.isB 110 then -1 else if (r.must s 118).bad = 0 then (vix vars r.g.t:Int) else 0
def tR (s:ByteArray) (r:Est.Rd) (vars:List ByteArray):Est.Rd:=if r.isB 110 then r.next s else if (r.must s 118).bad = 0 then vrd (r.must s 118) vars r.g.t r.g.a else r.must s 118
def tVars (s:ByteArray) (r:Est.Rd) (vars:List ByteArray):List ByteArray:=if r.isB 110 then vars else if (r.must s 118).bad = 0 then vadd vars r.g.t else vars
theorem t_bad {s:ByteArray} {r:Est.Rd} {vars:List ByteArray} (hb:r.isB 110 = false) (h:¬ (r.must s 118).bad = 0):tR s r vars = r.must s 118 /\ tVars s r vars = vars /\ tV s r vars = 0:=by simp [tR,tVars,tV,hb,h]
theorem t_var {s:ByteArray} {r:Est.Rd} {vars:List ByteArray} (hb:r.isB 110 = false) (h:(r.must s 118).bad = 0):tR s r vars = vrd (r.must s 118) vars r.g.t r.g.a /\ tVars s r vars = vadd vars r.g.t /\ tV s r vars = (vix vars r.g.t:Int):=by simp [tR,tVars,tV,hb,h]
theorem t_num {s:ByteArray} {r:Est.Rd} {vars:List ByteArray} (hb:r.isB 110 = true):tR s r vars = r.next s /\ tVars s r vars = vars /\ tV s r vars = -1:=by simp [tR,tVars,tV,hb]
theorem term_any (rb qb base:Nat) (s:ByteArray) (r:Est.Rd) (vars:List ByteArray) (hv av:Value) (w:World)
  (hst:VSt w rb qb base s r vars hv av) (hl:vars.length <= 1000) (hB:base <= w.heap.size) (hs:s.size <= maxLen) (hn:r.g.n <= s.size) (ht:r.g.t.size <= s.size) :
  Calls Tryz.prog 128 #[.pointer (some ⟨rb,0,none⟩)] w fun x w' => x = .returned (.agg #[.int .i64 (tV s r vars),.int .i64 (tN r)]) /\
   VSt w' rb qb base s (tR s r vars) (tVars s r vars) hv av /\ Keeps (FV rb qb base) w w':=by
 have HS:Hid (s.size <= maxLen):=hs
 unfold maxLen at hs
 have h:=hst.rd
 have c2:=h.cell2
 have c3:=h.cell3
 have c4:=h.cell4
 have c5:=h.cell5
 have lr:rb < w.heap.size:=h.lt
 have lq:qb < w.heap.size:=by obtain ⟨vv,h1,_⟩:=hst.q;exact lt_of_block h1
 cases hb:r.isB 110
 ·have HB:Hid (r.isB 110 = false):=hb
  clear hb
  have hgo:((r.bad:Int) == 0) = false ∨ (((r.bad:Int) == 0) = true /\ ((r.g.k.toNat:Int) == 110) = false):=by
   by_cases h0:r.bad = 0
   ·right
    refine ⟨by simp [h0],beq_eq_false_iff_ne.2 (fun e => ?_)⟩
    have hk:r.g.k = 110:=UInt8.toNat_inj.1 (by have:((110:UInt8).toNat:Int) = 110:=rfl;omega)
    have:=HB.out
    rw [isB_yes h0 hk] at this;cases this
   ·left;exact beq_eq_false_iff_ne.2 (by omega)
  rcases hgo with h1 | ⟨h1,h2⟩
  all_goals
   go_enter Tryz.func128,Tryz.ntmps128
   go_wp2_with fail
   refine (must_any rb s r _ 118 118 _ (hst.alloc _).rd rfl HS.out hn).mono ?_
   rintro e w1 ⟨rfl,hr1,hk1⟩
   have hst1:=(hst.alloc _).kept hr1 hk1
   have bl1:=hk1.block w.heap.size (by simp) (show ¬ w.heap.size = rb by omega)
   rw [heap_alloc_new] at bl1
   have d5:=hr1.cell5
   have z0:w1.cell? ⟨w.heap.size,0,none⟩ = some (.int .i64 0):=by simp [World.cell?,bl1]
   have z1:w1.cell? ⟨w.heap.size,1,none⟩ = some (.int .i64 0):=by simp [World.cell?,bl1]
   have f0:w1.frozen? ⟨w.heap.size,0,none⟩ = false:=by simp [World.frozen?,bl1]
   have f1:w1.frozen? ⟨w.heap.size,1,none⟩ = false:=by simp [World.frozen?,bl1]
   have hK1:Keeps (FV rb qb base) w w1:=Keeps.trans ((Keeps.refl _ _).alloc _) (Keeps.of hk1 (fun _ _ x => Or.inl x))
   cases hbad:((((r.must s 118).bad:Nat):Int) == 0)
   ·have HBAD:Hid (¬ (r.must s 118).bad = 0):=by have:=beq_eq_false_iff_ne.1 hbad;unfold Hid;omega
    go_wp2_with fail
    refine bodyPost_ret (v:=.agg #[.int .i64 0,.int .i64 0]) (by simp [results,Tryz.results128,go_sem,z0,z1]) rfl ⟨?_,?_,?_⟩
    ·rw [(t_bad HB.out HBAD.out).2.2,tN_no HB.out]
    ·rw [(t_bad HB.out HBAD.out).1,(t_bad HB.out HBAD.out).2.1]
     exact (hst1.setNew _ _ (by simp;omega) (by simp;omega) (by rw [bl1];simp [tag])).setNew _ _ (by simp;omega) (by simp;omega) (by rw [show (World.setCell _ _ _).heap[_]? = _ from blk_setCell bl1 0 _];simp [tag])
    ·exact (hK1.setNew _ (Nat.le_refl _) _).setNew _ (Nat.le_refl _) _
   ·have HBAD:Hid ((r.must s 118).bad = 0):=by have:=beq_iff_eq.1 hbad;unfold Hid;omega
    go_wp2_with fail
    refine (variable_any rb qb base s (r.must s 118) vars hv av r.g.t r.g.a _ hst1 hl (Nat.le_trans hB (Nat.le_trans (by simp) hk1.size))).mono ?_
    rintro e w2 ⟨rfl,hst2,hk2⟩
    have bl2:w2.heap[w.heap.size]? = _:=(hk2.block w.heap.size (lt_of_block bl1) (by rw [bl1];unfold FV;simp [tag];omega)).trans bl1
    have y0:w2.cell? ⟨w.heap.size,0,none⟩ = some (.int .i64 0):=by simp [World.cell?,bl2]
    have y1:w2.cell? ⟨w.heap.size,1,none⟩ = some (.int .i64 0):=by simp [World.cell?,bl2]
    have e0:w2.frozen? ⟨w.heap.size,0,none⟩ = false:=by simp [World.frozen?,bl2]
    have e1:w2.frozen? ⟨w.heap.size,1,none⟩ = false:=by simp [World.frozen?,bl2]
    clear z0 z1 f0 f1
    go_wp2_with fail
    refine bodyPost_ret (v:=.agg #[.int .i64 (vix vars r.g.t),.int .i64 0]) (by simp [results,Tryz.results128,go_sem,y0,y1]) rfl ⟨?_,?_,?_⟩
    ·rw [(t_var HB.out HBAD.out).2.2,tN_no HB.out]
    ·rw [(t_var HB.out HBAD.out).1,(t_var HB.out HBAD.out).2.1]
     exact (hst2.setNew _ _ (by simp;omega) (by simp;omega) (by rw [bl2];simp [tag])).setNew _ _ (by simp;omega) (by simp;omega) (by rw [show (World.setCell _ _ _).heap[_]? = _ from blk_setCell bl2 0 _];simp [tag])
    ·exact ((hK1.trans hk2).setNew _ (Nat.le_refl _) _).setNew _ (Nat.le_refl _) _
 ·have HB:Hid (r.isB 110 = true):=hb
  clear hb
  have h1:((r.bad:Int) == 0) = true:=by
   by_cases h0:r.bad = 0
   ·simp [h0]
   ·have:=HB.out;rw [isB_bad h0] at this;cases this
  have h2:((r.g.k.toNat:Int) == 110) = true:=by
   by_cases hk:r.g.k = 110
   ·rw [hk];rfl
   ·have:=HB.out;rw [isB_no hk] at this;cases this
  go_enter Tryz.func128,Tryz.ntmps128
  go_wp2
  go_loop [3,4] (fun n i => ∃ k:Nat,k <= r.g.t.size /\ i = .int .i64 k /\ n = .int .i64 (numM r.g.t k)) (fun _ i => r.g.t.size - (intOf i).toNat)
  case atStart => exact ⟨0,Nat.zero_le _,rfl,rfl⟩
  case round =>
   obtain ⟨k,hk,rfl,rfl⟩:=hrel
   by_cases hlt:k < r.g.t.size
   ·have HN:Hid (numM r.g.t (k + 1) = wrap64 (wrap64 (10 * numM r.g.t k) + ((r.g.t[k].toNat:Int) - 48) % 256)):=by unfold Hid;rw [numM,dif_pos hlt]
    go_wp2
    all_goals
     go_round
     case rel => exact ⟨k + 1,by omega,by go_num,by rw [HN.out]⟩
     case measure => simp [intOf];omega
   ·have hkt:k = r.g.t.size:=by omega
    subst hkt
    obtain ⟨m,hm⟩:∃ m,numM r.g.t r.g.t.size = m:=⟨_,rfl⟩
    rw [hm]
    have HM:Hid (numM r.g.t r.g.t.size = m):=hm
    clear hm
    go_wp2_with fail
    refine (next_any rb s r _ _ (hst.alloc _).rd HS.out hn).mono ?_
    rintro e w1 ⟨rfl,hr1,hk1⟩
    have hst1:=(hst.alloc _).kept hr1 hk1
    have bl1:=hk1.block w.heap.size (by simp) (show ¬ w.heap.size = rb by omega)
    rw [heap_alloc_new] at bl1
    have z0:w1.cell? ⟨w.heap.size,0,none⟩ = some (.int .i64 0):=by simp [World.cell?,bl1]
    have z1:w1.cell? ⟨w.heap.size,1,none⟩ = some (.int .i64 0):=by simp [World.cell?,bl1]
    have f0:w1.frozen? ⟨w.heap.size,0,none⟩ = false:=by simp [World.frozen?,bl1]
    have f1:w1.frozen? ⟨w.heap.size,1,none⟩ = false:=by simp [World.frozen?,bl1]
    have hK1:Keeps (FV rb qb base) w w1:=Keeps.trans ((Keeps.refl _ _).alloc _) (Keeps.of hk1 (fun _ _ x => Or.inl x))
    go_wp2_with fail
    refine bodyPost_ret (v:=.agg #[.int .i64 (-1),.int .i64 m]) (by simp [results,Tryz.results128,go_sem,z0,z1]) rfl ⟨?_,?_,?_⟩
    ·rw [(t_num HB.out).2.2,tN_yes HB.out,HM.out]
    ·rw [(t_num HB.out).1,(t_num HB.out).2.1]
     exact (hst1.setNew _ _ (by simp;omega) (by simp;omega) (by rw [bl1];simp [tag])).setNew _ _ (by simp;omega) (by simp;omega) (by rw [show (World.setCell _ _ _).heap[_]? = _ from blk_setCell bl1 0 _];simp [tag])
    ·exact (hK1.setNew _ (Nat.le_refl _) _).setNew _ (Nat.le_refl _) _
structure AD where
 rel:ByteArray
 tv:Value
 ts:List (Int × Int)
 at_:Nat
def tcells (ts:List (Int × Int)):List Value:=ts.flatMap fun t => [.int .i64 t.1,.int .i64 t.2]
def acells (l:List AD):List Value:=l.flatMap fun d => [.string d.rel,d.tv,.int .i64 d.at_]
theorem tcells_snoc (ts:List (Int × Int)) (a b:Int):tcells (ts ++ [(a,b)]) = tcells ts ++ [.int .i64 a,.int .i64 b]:=by simp [tcells]
theorem acells_snoc (l:List AD) (d:AD):acells (l ++ [d]) = acells l ++ [.string d.rel,d.tv,.int .i64 d.at_]:=by simp [acells]
structure ASt (w:World) (rb qb base:Nat) (s:ByteArray) (r:Est.Rd) (vars:List ByteArray) (hv:Value) (l:List AD):Prop where
 ex:∃ av,VSt w rb qb base s r vars hv av /\ w.ownsRow base 138 3 av l.length (acells l)
 ts:∀ d,d ∈ l -> w.ownsRow base 203 2 d.tv d.ts.length (tcells d.ts)
theorem ASt.rd {w:World} {rb qb base:Nat} {s:ByteArray} {r:Est.Rd} {vars:List ByteArray} {hv:Value} {l:List AD} (h:ASt w rb qb base s r vars hv l):Rdr w rb s r (.pointer (some ⟨qb,0,none⟩)):=by
 obtain ⟨av,h1,_⟩:=h.ex;exact h1.rd
theorem ASt.keeps {F:Nat -> Option Obj -> Prop} {w w':World} {rb qb base:Nat} {s:ByteArray} {r:Est.Rd} {vars:List ByteArray} {hv:Value} {l:List AD} (h:ASt w rb qb base s r vars hv l) (k:Keeps F w w')
  (hr:¬ F rb w.heap[rb]?) (hq:¬ F qb w.heap[qb]?) (hvs:∀ k,base <= k -> (tag w.heap[k]? = 9 ∨ tag w.heap[k]? = 138 ∨ tag w.heap[k]? = 203) -> ¬ F k w.heap[k]?):ASt w' rb qb base s r vars hv l:=by
 obtain ⟨av,h1,h2⟩:=h.ex
 exact ⟨⟨av,h1.keeps k hr hq (fun j hj ht => hvs j hj (Or.inl ht)),own_keeps h2 k (fun j hj _ ht _ => hvs j hj (Or.inr (Or.inl ht)))⟩,
  fun d hd => own_keeps (h.ts d hd) k (fun j hj _ ht _ => hvs j hj (Or.inr (Or.inr ht)))⟩
theorem ASt.kept {w w':World} {rb qb base:Nat} {s:ByteArray} {r r':Est.Rd} {vars:List ByteArray} {hv:Value} {l:List AD} (h:ASt w rb qb base s r vars hv l) (hr:Rdr w' rb s r' (.pointer (some ⟨qb,0,none⟩))) (k:Kept (· = rb) w w'):ASt w' rb qb base s r' vars hv l:=by
 obtain ⟨av,h1,h2⟩:=h.ex
 have hK:Keeps (fun j _ => j = rb) w w':=Keeps.of k (fun _ _ x => x)
 have ht:∀ j (n:Nat),n ≠ 187 -> tag w.heap[j]? = n -> ¬ (j = rb):=by
  intro j n hn h9 e;rw [e,h1.rd.blk] at h9;exact hn h9.symm
 exact ⟨⟨av,h1.kept hr k,own_keeps h2 hK (fun j _ _ h9 _ => ht j 138 (by decide) h9)⟩,fun d hd => own_keeps (h.ts d hd) hK (fun j _ _ h9 _ => ht j 203 (by decide) h9)⟩
def tl (s:ByteArray):Nat -> Est.Rd -> List ByteArray -> List Int -> Est.Rd × List ByteArray × List Int
 | 0,r,vars,ts => (r,vars,ts)
 | n + 1,r,vars,ts =>
  if r.bad = 0 then
   if (tR s (if 3 <= ts.length then r.fail 3 r.g.a else r) vars).isB 44 then
    tl s n ((tR s (if 3 <= ts.length then r.fail 3 r.g.a else r) vars).is s 44) (tVars s (if 3 <= ts.length then r.fail 3 r.g.a else r) vars) (ts ++ [tV s (if 3 <= ts.length then r.fail 3 r.g.a else r) vars])
   else (tR s (if 3 <= ts.length then r.fail 3 r.g.a else r) vars,tVars s (if 3 <= ts.length then r.fail 3 r.g.a else r) vars,ts ++ [tV s (if 3 <= ts.length then r.fail 3 r.g.a else r) vars])
  else (r,vars,ts)
def tc (s:ByteArray):Nat -> Est.Rd -> List ByteArray -> List Int -> List Int -> List Int
 | 0,_,_,_,cs => cs
 | n + 1,r,vars,ts,cs =>
  if r.bad = 0 then
   if (tR s (if 3 <= ts.length then r.fail 3 r.g.a else r) vars).isB 44 then
    tc s n ((tR s (if 3 <= ts.length then r.fail 3 r.g.a else r) vars).is s 44) (tVars s (if 3 <= ts.length then r.fail 3 r.g.a else r) vars) (ts ++ [tV s (if 3 <= ts.length then r.fail 3 r.g.a else r) vars]) (cs ++ [tN (if 3 <= ts.length then r.fail 3 r.g.a else r)])
   else cs ++ [tN (if 3 <= ts.length then r.fail 3 r.g.a else r)]
  else cs
def Ok (s:ByteArray) (r:Est.Rd):Prop:=r.g.n <= s.size /\ r.g.a <= s.size /\ r.g.t.size <= s.size
theorem Ok.next {s:ByteArray} {r:Est.Rd} (h:Ok s r):Ok s (r.next s):=Est.sign_le s r.g.n h.1
theorem Ok.fail {s:ByteArray} {r:Est.Rd} (h:Ok s r) (e a:Nat):Ok s (r.fail e a):=by unfold Est.Rd.fail;split <;> exact h
theorem Ok.is {s:ByteArray} {r:Est.Rd} (h:Ok s r) (k:UInt8):Ok s (r.is s k):=by unfold Est.Rd.is;split;exact h.next;exact h
theorem Ok.must {s:ByteArray} {r:Est.Rd} (h:Ok s r) (k:UInt8):Ok s (r.must s k):=by unfold Est.Rd.must;split;exact h.next;exact h.fail _ _
theorem Ok.vrd {s:ByteArray} {r:Est.Rd} (h:Ok s r) (vars:List ByteArray) (t:ByteArray) (a:Nat):Ok s (vrd r vars t a):=by
 unfold YtondkinefmjpjaaGreat.K.vrd;split;exact h;split;exact h.fail _ _;exact h
theorem Ok.tR {s:ByteArray} {r:Est.Rd} (h:Ok s r) (vars:List ByteArray):Ok s (tR s r vars):=by
 unfold YtondkinefmjpjaaGreat.K.tR;split;exact h.next;split;exact (h.must _).vrd _ _ _;exact h.must _
theorem two_new (w:World) (x y:Value) (t:TypeId):∀ j u,[x,y][j]? = some u -> (w.alloc (.cells #[x,y] t)).cell? ((⟨w.heap.size,0,none⟩:Addr).add j) = some u:=by
 intro j u hj
 match j,hj with
 | 0,hj => simp at hj;subst hj;simp [Addr.add]
 | 1,hj => simp at hj;subst hj;simp [Addr.add]
theorem three_new (w:World) (x y z:Value) (t:TypeId):∀ j u,[x,y,z][j]? = some u -> (w.alloc (.cells #[x,y,z] t)).cell? ((⟨w.heap.size,0,none⟩:Addr).add j) = some u:=by
 intro j u hj
 match j,hj with
 | 0,hj => simp at hj;subst hj;simp [Addr.add]
 | 1,hj => simp at hj;subst hj;simp [Addr.add]
 | 2,hj => simp at hj;subst hj;simp [Addr.add]
theorem vadd_le (vars:List ByteArray) (t:ByteArray):(vadd vars t).length <= vars.length + 1:=by unfold vadd;split <;> simp
theorem tVars_le (s:ByteArray) (r:Est.Rd) (vars:List ByteArray):(tVars s r vars).length <= vars.length + 1:=by
 unfold tVars;split;omega;split;exact vadd_le _ _;omega
theorem Keeps.mono_at {F G:Nat -> Option Obj -> Prop} {w w':World} (h:Keeps F w w') (hfg:∀ k,F k w.heap[k]? -> G k w.heap[k]?):Keeps G w w' :=
 ⟨h.os,h.tape,h.output,h.size,fun k hk hg => h.block k hk (fun hf => hg (hfg k hf))⟩
theorem own_base {w:World} {base base':Nat} {e:TypeId} {size:Nat} {v:Value} {n:Nat} {xs:List Value} (h:w.ownsRow base e size v n xs) (hb:base' <= base):w.ownsRow base' e size v n xs:=by
 refine ⟨h.1,?_⟩
 rcases h.2 with hn | ⟨g,cap,cur,rfl,hg,rest⟩
 ·exact .inl hn
 ·exact .inr ⟨g,cap,cur,rfl,Nat.le_trans hb hg,rest⟩
def FA (rb qb base:Nat):Nat -> Option Obj -> Prop:=fun k o => k = rb ∨ k = qb ∨ (base <= k /\ (tag o = 9 ∨ tag o = 138))
theorem FV_FA {rb qb base k:Nat} {o:Option Obj} (h:FV rb qb base k o):FA rb qb base k o:=by
 rcases h with h | h | ⟨h,h'⟩
 ·exact Or.inl h
 ·exact Or.inr (Or.inl h)
 ·exact Or.inr (Or.inr ⟨h,Or.inl h'⟩)
theorem VSt.ne {w:World} {rb qb base:Nat} {s:ByteArray} {r:Est.Rd} {vars:List ByteArray} {hv av:Value} (h:VSt w rb qb base s r vars hv av) (k:Nat) (n:Nat) (hk:tag w.heap[k]? = n) (h50:n ≠ 187) (h46:n ≠ 97):k ≠ rb /\ k ≠ qb:=by
 obtain ⟨vv,hq,_⟩:=h.q
 constructor
 ·rintro rfl;rw [h.rd.blk] at hk;exact h50 hk.symm
 ·rintro rfl;rw [hq] at hk;exact h46 hk.symm
structure MSt (w wr:World) (rb qb base AB:Nat) (s:ByteArray) (r:Est.Rd) (vars:List ByteArray) (hv av:Value) (l:List AD) (rel:ByteArray) (a:Nat) (tv:Value) (ts:List (Int × Int)):Prop where
 vst:VSt wr rb qb base s r vars hv av
 arow:wr.ownsRow base 138 3 av l.length (acells l)
 ats:∀ d,d ∈ l -> wr.ownsRow base 203 2 d.tv d.ts.length (tcells d.ts)
 avlt:∀ k,av.ownBlock = some k -> k < AB
 tlt:∀ d,d ∈ l -> ∀ k,d.tv.ownBlock = some k -> k < AB
 ab:wr.heap[AB]? = some (.cells #[.string rel,tv,.int .i64 a] 138 (0,0))
 own:wr.ownsRow (AB + 1) 203 2 tv ts.length (tcells ts)
 kp:Keeps (FA rb qb base) w wr
 new:w.heap.size <= AB
 bas:base <= AB
section
variable {w wr w':World} {rb qb base AB:Nat} {s:ByteArray} {r r':Est.Rd} {vars vars':List ByteArray} {hv av:Value} {l:List AD} {rel:ByteArray} {a:Nat} {tv:Value} {ts:List (Int × Int)}
theorem MSt.ne (h:MSt w wr rb qb base AB s r vars hv av l rel a tv ts):AB ≠ rb /\ AB ≠ qb :=
 h.vst.ne AB 138 (by rw [h.ab];rfl) (by decide) (by decide)
theorem MSt.lt (h:MSt w wr rb qb base AB s r vars hv av l rel a tv ts):rb < wr.heap.size /\ qb < wr.heap.size /\ AB < wr.heap.size:=by
 obtain ⟨vv,hq,_⟩:=h.vst.q
 exact ⟨h.vst.rd.lt,lt_of_block hq,lt_of_block h.ab⟩
theorem MSt.keeps {F:Nat -> Option Obj -> Prop} (h:MSt w wr rb qb base AB s r vars hv av l rel a tv ts) (k:Keeps F wr w') (hv':VSt w' rb qb base s r' vars' hv av) (hA:¬ F AB wr.heap[AB]?)
  (h66:∀ j,base <= j -> tag wr.heap[j]? = 138 -> j < AB -> ¬ F j wr.heap[j]?) (h68:∀ j,tag wr.heap[j]? = 203 -> ¬ F j wr.heap[j]?) (hF:Keeps (FA rb qb base) w w'):MSt w w' rb qb base AB s r' vars' hv av l rel a tv ts :=
 ⟨hv',own_keeps h.arow k (fun j hj _ ht hk => h66 j hj ht (h.avlt j hk)),fun d hd => own_keeps (h.ats d hd) k (fun j _ _ ht _ => h68 j ht),h.avlt,h.tlt,(k.block AB h.lt.2.2 hA).trans h.ab,own_keeps h.own k (fun j _ _ ht _ => h68 j ht),hF,h.new,h.bas⟩
theorem MSt.kept (h:MSt w wr rb qb base AB s r vars hv av l rel a tv ts) (hr:Rdr w' rb s r' (.pointer (some ⟨qb,0,none⟩))) (k:Kept (· = rb) wr w'):MSt w w' rb qb base AB s r' vars hv av l rel a tv ts :=
 h.keeps (F:=fun j _ => j = rb) (Keeps.of k (fun _ _ x => x)) (h.vst.kept hr k) h.ne.1 (fun j _ ht _ e => (h.vst.ne j 138 ht (by decide) (by decide)).1 e) (fun j ht e => (h.vst.ne j 203 ht (by decide) (by decide)).1 e) (h.kp.trans (Keeps.of k (fun _ _ x => Or.inl x)))
theorem MSt.alloc (h:MSt w wr rb qb base AB s r vars hv av l rel a tv ts) (o:Obj):MSt w (wr.alloc o) rb qb base AB s r vars hv av l rel a tv ts :=
 h.keeps (F:=fun _ _ => False) ((Keeps.refl _ _).alloc o) (h.vst.alloc o) (fun x => x) (fun _ _ _ _ x => x) (fun _ _ x => x) (h.kp.alloc o)
theorem MSt.drew (h:MSt w wr rb qb base AB s r vars hv av l rel a tv ts):MSt w wr.drew rb qb base AB s r vars hv av l rel a tv ts :=
 h.keeps (F:=fun _ _ => False) (Keeps.refl _ _).drew (h.vst.keeps (F:=fun _ _ => False) (Keeps.refl _ _).drew (fun x => x) (fun x => x) (fun _ _ _ x => x)) (fun x => x) (fun _ _ _ _ x => x) (fun _ _ x => x) h.kp.drew
theorem MSt.termed (h:MSt w wr rb qb base AB s r vars hv av l rel a tv ts) (h':VSt w' rb qb base s r' vars' hv av) (k:Keeps (FV rb qb base) wr w'):MSt w w' rb qb base AB s r' vars' hv av l rel a tv ts:=by
 refine h.keeps k h' ?_ (fun j _ ht _ => ?_) (fun j ht => ?_) (h.kp.trans (k.mono (fun _ _ => FV_FA)))
 ·rintro (e | e | ⟨_,e⟩)
  ·exact h.ne.1 e
  ·exact h.ne.2 e
  ·rw [h.ab] at e;simp [tag] at e
 ·rintro (e | e | ⟨_,e⟩)
  ·exact (h.vst.ne j 138 ht (by decide) (by decide)).1 e
  ·exact (h.vst.ne j 138 ht (by decide) (by decide)).2 e
  ·rw [e] at ht;simp at ht
 ·rintro (e | e | ⟨_,e⟩)
  ·exact (h.vst.ne j 203 ht (by decide) (by decide)).1 e
  ·exact (h.vst.ne j 203 ht (by decide) (by decide)).2 e
  ·rw [e] at ht;simp at ht
theorem MSt.grown (h:MSt w wr rb qb base AB s r vars hv av l rel a tv ts) (hg:wr.grownBy w' tv.ownBlock):w'.heap[AB]? = some (.cells #[.string rel,tv,.int .i64 a] 138 (0,0)) /\ w'.heap[rb]? = wr.heap[rb]?:=by
 constructor
 ·refine (hg.block AB h.lt.2.2 (fun e => ?_)).trans h.ab
  have:=(own_tag h.own e.symm).2.2
  rw [h.ab] at this;simp [tag] at this
 ·refine hg.block rb h.lt.1 (fun e => ?_)
  exact (h.vst.ne rb 203 (own_tag h.own e.symm).2.2 (by decide) (by decide)).1 rfl
theorem MSt.named (h:MSt w wr rb qb base AB s r vars hv av l rel a tv ts) (rel':ByteArray):MSt w (wr.setCell ⟨AB,0,none⟩ (.string rel')) rb qb base AB s r vars hv av l rel' a tv ts:=by
 have k2:Keeps (fun k _ => k = AB) wr (wr.setCell ⟨AB,0,none⟩ (.string rel')):=(Keeps.refl _ _).setCell _ (fun _ => rfl) _
 refine ⟨h.vst.keeps k2 (fun e => h.ne.1 e.symm) (fun e => h.ne.2 e.symm) (fun k _ ht e => ?_),own_keeps h.arow k2 (fun k _ _ _ hk e => ?_),fun d hd => own_keeps (h.ats d hd) k2 (fun k _ _ _ hk e => ?_),h.avlt,h.tlt,?_,own_keeps h.own k2 (fun k hk _ _ _ e => ?_),h.kp.setNew _ h.new _,h.new,h.bas⟩
 ·rw [show k = AB from e,h.ab] at ht;simp [tag] at ht
 ·have:=h.avlt k hk;rw [show k = AB from e] at this;omega
 ·have:=h.tlt d hd k hk;rw [show k = AB from e] at this;omega
 ·rw [blk_setCell h.ab 0 _];simp [Array.setIfInBounds]
 ·rw [show k = AB from e] at hk;omega
theorem MSt.appended (h:MSt w wr rb qb base AB s r vars hv av l rel a tv ts) (hg:wr.grownBy w' tv.ownBlock) (tv':Value) (ts':List (Int × Int)) (ho:w'.ownsRow (AB + 1) 203 2 tv' ts'.length (tcells ts')) :
  MSt w (w'.setCell ⟨AB,1,none⟩ tv') rb qb base AB s r vars hv av l rel a tv' ts':=by
 have hb:=(h.grown hg).1
 have hbl:∀ k,tv.ownBlock = some k -> AB < k /\ tag wr.heap[k]? = 203:=fun k hk => ⟨by have:=(own_tag h.own hk).1;omega,(own_tag h.own hk).2.2⟩
 have k1:Keeps (fun k _ => tv.ownBlock = some k) wr w':=Keeps.grown (Keeps.refl _ _) hg (fun k hk => hk)
 have k2:Keeps (fun k _ => k = AB) w' (w'.setCell ⟨AB,1,none⟩ tv'):=(Keeps.refl _ _).setCell _ (fun _ => rfl) _
 have v1:VSt w' rb qb base s r vars hv av:=h.vst.keeps k1 (fun e => (h.vst.ne rb 203 (hbl rb e).2 (by decide) (by decide)).1 rfl) (fun e => (h.vst.ne qb 203 (hbl qb e).2 (by decide) (by decide)).2 rfl) (fun k _ ht e => by have:=(hbl k e).2;rw [ht] at this;simp at this)
 have r66:∀ {v:Value} {n:Nat} {xs:List Value},wr.ownsRow base 138 3 v n xs -> (∀ k,v.ownBlock = some k -> k < AB) -> (w'.setCell ⟨AB,1,none⟩ tv').ownsRow base 138 3 v n xs:=by
  intro v n xs hx hlt
  refine own_keeps (own_keeps hx k1 (fun k _ _ ht _ e => by have:=(hbl k e).2;rw [ht] at this;simp at this)) k2 (fun k _ _ _ hk e => ?_)
  have:=hlt k hk
  rw [show k = AB from e] at this;omega
 have r68:∀ d,d ∈ l -> (w'.setCell ⟨AB,1,none⟩ tv').ownsRow base 203 2 d.tv d.ts.length (tcells d.ts):=by
  intro d hd
  have hlt:=h.tlt d hd
  refine own_keeps (own_keeps (h.ats d hd) k1 (fun k _ _ _ hk e => ?_)) k2 (fun k _ _ _ hk e => ?_)
  ·have h1:=hlt k hk
   have h2:=(hbl k e).1
   omega
  ·have h1:=hlt k hk
   rw [show k = AB from e] at h1;omega
 refine ⟨v1.keeps k2 (fun e => h.ne.1 e.symm) (fun e => h.ne.2 e.symm) (fun k _ ht e => ?_),r66 h.arow h.avlt,r68,h.avlt,h.tlt,?_,own_keeps ho k2 (fun k hk _ ht _ e => ?_),?_,h.new,h.bas⟩
 ·rw [show k = AB from e,hb] at ht;simp [tag] at ht
 ·rw [blk_setCell hb 1 tv'];simp [Array.setIfInBounds]
 ·rw [show k = AB from e] at hk;omega
 ·refine Keeps.setNew ⟨hg.os.trans h.kp.os,hg.tape.trans h.kp.tape,hg.output.trans h.kp.output,Nat.le_trans h.kp.size hg.size,fun k hk hf => ?_⟩ _ h.new _
  rw [hg.block k (Nat.lt_of_lt_of_le hk h.kp.size) (fun e => by have:=(hbl k e.symm).1;have:=h.new;omega),h.kp.block k hk hf]
theorem MSt.grownA (h:MSt w wr rb qb base AB s r vars hv av l rel a tv ts) (hg:wr.grownBy w' av.ownBlock):w'.heap[qb]? = wr.heap[qb]? /\ w'.heap[rb]? = wr.heap[rb]?:=by
 constructor
 ·refine hg.block qb h.lt.2.1 (fun e => ?_)
  exact (h.vst.ne qb 138 (own_tag h.arow e.symm).2.2 (by decide) (by decide)).2 rfl
 ·refine hg.block rb h.lt.1 (fun e => ?_)
  exact (h.vst.ne rb 138 (own_tag h.arow e.symm).2.2 (by decide) (by decide)).1 rfl
theorem MSt.finish (h:MSt w wr rb qb base AB s r vars hv av l rel a tv ts) (hg:wr.grownBy w' av.ownBlock) (v':Value) (ho:w'.ownsRow base 138 3 v' (l.length + 1) (acells l ++ [.string rel,tv,.int .i64 a])) :
  ASt (w'.setCell ⟨qb,2,none⟩ v') rb qb base s r vars hv (l ++ [⟨rel,tv,ts,a⟩]) /\ Keeps (FA rb qb base) w (w'.setCell ⟨qb,2,none⟩ v'):=by
 obtain ⟨vv,hq,hvr⟩:=h.vst.q
 have hbl:∀ k,av.ownBlock = some k -> base <= k /\ tag wr.heap[k]? = 138:=fun k hk => ⟨(own_tag h.arow hk).1,(own_tag h.arow hk).2.2⟩
 have k1:Keeps (fun k _ => av.ownBlock = some k) wr w':=Keeps.grown (Keeps.refl _ _) hg (fun k hk => hk)
 have k2:Keeps (fun k _ => k = qb) w' (w'.setCell ⟨qb,2,none⟩ v'):=(Keeps.refl _ _).setCell _ (fun _ => rfl) _
 have q1:w'.heap[qb]? = some (.cells #[vv,hv,av] 97 (0,0)):=(h.grownA hg).1.trans hq
 have tq:tag w'.heap[qb]? = 97:=by rw [q1];rfl
 have row:∀ {v:Value} {bb n z t:Nat} {ys:List Value},t ≠ 97 -> w'.ownsRow bb t z v n ys -> (w'.setCell ⟨qb,2,none⟩ v').ownsRow bb t z v n ys :=
  fun ht hx => own_keeps hx k2 (fun k _ _ h9 _ e => by rw [show k = qb from e,tq] at h9;exact ht h9.symm)
 have row1:∀ {v:Value} {bb n z t:Nat} {ys:List Value},t ≠ 138 -> wr.ownsRow bb t z v n ys -> w'.ownsRow bb t z v n ys :=
  fun ht hx => own_keeps hx k1 (fun k _ _ h9 _ e => by have:=(hbl k e).2;rw [h9] at this;exact ht this)
 have hrb:rb ≠ qb:=by
  intro e;have:=h.vst.rd.blk;rw [e,hq] at this;simp [rdBlk] at this
 refine ⟨⟨⟨v',⟨?_,vv,?_,row (by decide) (row1 (by decide) hvr)⟩,?_⟩,?_⟩,?_⟩
 ·refine (h.vst.rd.keeps k1 (fun e => ?_)).keeps k2 (fun e => hrb e)
  exact (h.vst.ne rb 138 (hbl rb e).2 (by decide) (by decide)).1 rfl
 ·rw [blk_setCell q1 2 v'];simp [Array.setIfInBounds]
 ·rw [acells_snoc,List.length_append];exact row (by decide) ho
 ·intro d hd
  rcases List.mem_append.1 hd with hd | hd
  ·exact row (by decide) (row1 (by decide) (h.ats d hd))
  ·simp only [List.mem_singleton] at hd
   subst hd
   exact row (by decide) (row1 (by decide) (own_base h.own (by have:=h.bas;omega)))
 ·exact h.kp.trans ((k1.mono_at (fun k hk => Or.inr (Or.inr ⟨(hbl k hk).1,Or.inr (hbl k hk).2⟩))).trans (k2.mono (fun _ _ x => Or.inr (Or.inl x))))
end
end Go.Proofs.YtondkinefmjpjaaGreat.K
