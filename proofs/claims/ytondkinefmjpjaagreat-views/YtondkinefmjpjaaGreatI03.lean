import Derived.RegionTactic
import Derived.BigRegion
import Derived.Deep.RegionWith
import Derived.Deep.RegionLaw
import Derived.Test.YtondkinefmjpjaaGreatI01
import Derived.Test.YtondkinefmjpjaaGreatI02
set_option maxHeartbeats 1000000
set_option maxRecDepth 100000
namespace Go.Proofs.YtondkinefmjpjaaGreat.K
open Go.RowKit
structure Kept (S:Nat -> Prop) (w w':World):Prop where
 os:w'.os = w.os
 tape:w'.tape = w.tape
 output:w'.output = w.output
 size:w.heap.size <= w'.heap.size
 block:∀ k,k < w.heap.size -> ¬ S k -> w'.heap[k]? = w.heap[k]?
theorem Kept.refl (S:Nat -> Prop) (w:World):Kept S w w:=⟨rfl,rfl,rfl,Nat.le_refl _,fun _ _ _ => rfl⟩
theorem Kept.trans {S:Nat -> Prop} {a b c:World} (h:Kept S a b) (k:Kept S b c):Kept S a c :=
 ⟨k.os.trans h.os,k.tape.trans h.tape,k.output.trans h.output,Nat.le_trans h.size k.size,fun i hi hs => (k.block i (Nat.lt_of_lt_of_le hi h.size) hs).trans (h.block i hi hs)⟩
theorem Kept.setCell {S:Nat -> Prop} {a w:World} (h:Kept S a w) (p:Addr) (hp:S p.block) (u:Value):Kept S a (w.setCell p u) :=
 h.trans ⟨rfl,rfl,rfl,by simp [World.setCell],fun k _ hs => Below.heap_setCell _ _ _ _ (fun e => hs (e ▸ hp))⟩
theorem Kept.drew {S:Nat -> Prop} {a w:World} (h:Kept S a w):Kept S a w.drew:=⟨h.os,h.tape,h.output,h.size,h.block⟩
theorem Kept.alloc {S:Nat -> Prop} {a w:World} (h:Kept S a w) (o:Obj):Kept S a (w.alloc o) :=
 h.trans ⟨rfl,rfl,rfl,by simp,fun k hk _ => Below.heap_alloc _ _ _ hk⟩
theorem Kept.below {S:Nat -> Prop} {a w w':World} (h:Kept S a w) (hb:Below w.heap.size w w'):Kept S a w' :=
 h.trans ⟨hb.os,hb.tape,hb.output,hb.size,fun k hk _ => hb.block k hk⟩
theorem blk_setCell {w:World} {b:Nat} {c:Array Value} {t:TypeId} (h:w.heap[b]? = some (.cells c t (0,0))) (j:Nat) (u:Value) :
  (w.setCell ⟨b,j,none⟩ u).heap[b]? = some (.cells (c.setIfInBounds j u) t (0,0)):=by
 have hlt:=lt_of_block h
 have h':w.heap[b] = .cells c t (0,0):=by simpa [Array.getElem?_eq_getElem hlt] using h
 show (w.heap.modify b _)[b]? = _
 rw [Array.getElem?_eq_getElem (by simpa using hlt),Array.getElem_modify_self,h']
 rfl
def rdCells (s:ByteArray) (r:Est.Rd) (q:Value):Array Value :=
 #[.string s,.int .i64 r.g.n,.int .u8 (r.g.k.toNat:Int),.string r.g.t,.int .i64 r.g.a,.int .i64 r.bad,.int .i64 r.bat,q]
def rdBlk (s:ByteArray) (r:Est.Rd) (q:Value):Obj:=.cells (rdCells s r q) 187 (0,0)
structure Rdr (w:World) (b:Nat) (s:ByteArray) (r:Est.Rd) (q:Value):Prop where
 blk:w.heap[b]? = some (rdBlk s r q)
theorem Rdr.cell0 {w:World} {b:Nat} {s:ByteArray} {r:Est.Rd} {q:Value} (h:Rdr w b s r q):w.cell? ⟨b,0,none⟩ = some (.string s):=by simp [World.cell?,h.blk,rdBlk,rdCells]
theorem Rdr.cell1 {w:World} {b:Nat} {s:ByteArray} {r:Est.Rd} {q:Value} (h:Rdr w b s r q):w.cell? ⟨b,1,none⟩ = some (.int .i64 r.g.n):=by simp [World.cell?,h.blk,rdBlk,rdCells]
theorem Rdr.cell2 {w:World} {b:Nat} {s:ByteArray} {r:Est.Rd} {q:Value} (h:Rdr w b s r q):w.cell? ⟨b,2,none⟩ = some (.int .u8 (r.g.k.toNat:Int)):=by simp [World.cell?,h.blk,rdBlk,rdCells]
theorem Rdr.cell3 {w:World} {b:Nat} {s:ByteArray} {r:Est.Rd} {q:Value} (h:Rdr w b s r q):w.cell? ⟨b,3,none⟩ = some (.string r.g.t):=by simp [World.cell?,h.blk,rdBlk,rdCells]
theorem Rdr.cell4 {w:World} {b:Nat} {s:ByteArray} {r:Est.Rd} {q:Value} (h:Rdr w b s r q):w.cell? ⟨b,4,none⟩ = some (.int .i64 r.g.a):=by simp [World.cell?,h.blk,rdBlk,rdCells]
theorem Rdr.cell5 {w:World} {b:Nat} {s:ByteArray} {r:Est.Rd} {q:Value} (h:Rdr w b s r q):w.cell? ⟨b,5,none⟩ = some (.int .i64 r.bad):=by simp [World.cell?,h.blk,rdBlk,rdCells]
theorem Rdr.cell6 {w:World} {b:Nat} {s:ByteArray} {r:Est.Rd} {q:Value} (h:Rdr w b s r q):w.cell? ⟨b,6,none⟩ = some (.int .i64 r.bat):=by simp [World.cell?,h.blk,rdBlk,rdCells]
theorem Rdr.cell7 {w:World} {b:Nat} {s:ByteArray} {r:Est.Rd} {q:Value} (h:Rdr w b s r q):w.cell? ⟨b,7,none⟩ = some q:=by simp [World.cell?,h.blk,rdBlk,rdCells]
theorem Rdr.free {w:World} {b:Nat} {s:ByteArray} {r:Est.Rd} {q:Value} (h:Rdr w b s r q) (j:Nat):w.frozen? ⟨b,j,none⟩ = false:=by simp [World.frozen?,h.blk,rdBlk]
theorem Rdr.lt {w:World} {b:Nat} {s:ByteArray} {r:Est.Rd} {q:Value} (h:Rdr w b s r q):b < w.heap.size:=lt_of_block h.blk
theorem Rdr.failed {w:World} {b:Nat} {s:ByteArray} {r:Est.Rd} {q:Value} (h:Rdr w b s r q) (e a:Nat) (h0:r.bad = 0) :
  Rdr ((w.setCell ⟨b,5,none⟩ (.int .i64 e)).setCell ⟨b,6,none⟩ (.int .i64 a)) b s (r.fail e a) q:=by
 refine ⟨(blk_setCell (blk_setCell h.blk 5 _) 6 _).trans ?_⟩
 simp [rdBlk,rdCells,Est.Rd.fail,h0,Array.setIfInBounds]
theorem fail_any (b:Nat) (s:ByteArray) (r:Est.Rd) (q:Value) (e a:Nat) (w:World) (h:Rdr w b s r q) :
  Calls Tryz.prog 94 #[.pointer (some ⟨b,0,none⟩),.int .i64 e,.int .i64 a] w fun x w' => x = .returned (.tuple #[]) /\ Rdr w' b s (r.fail e a) q /\ Kept (· = b) w w':=by
 have c5:=h.cell5
 have f5:=h.free 5
 have f6:=h.free 6
 have c6:=h.cell6
 by_cases h0:r.bad = 0
 ·have hb:((r.bad:Int) == 0) = true:=by simp [h0]
  have H0:Hid (r.bad = 0):=h0
  clear h0
  go_enter Tryz.func94,Tryz.ntmps94
  go_wp2
  go_end0
  exact ⟨rfl,h.failed e a H0.out,((Kept.refl (· = b) _).setCell _ rfl _).setCell _ rfl _⟩
 ·have hb:((r.bad:Int) == 0) = false:=beq_eq_false_iff_ne.2 (by omega)
  have H0:Hid (¬ r.bad = 0):=h0
  clear h0
  go_enter Tryz.func94,Tryz.ntmps94
  go_wp2
  go_end0
  exact ⟨rfl,by rw [Est.Rd.fail,if_neg H0.out];exact h,Kept.refl _ _⟩
theorem Rdr.nexted {w w1:World} {b:Nat} {s:ByteArray} {r:Est.Rd} {q:Value} (h:Rdr w b s r q) (hb:w1.heap[b]? = w.heap[b]?) :
  Rdr ((((w1.setCell ⟨b,2,none⟩ (.int .u8 ((Est.sign s r.g.n).k.toNat:Int))).setCell ⟨b,3,none⟩ (.string (Est.sign s r.g.n).t)).setCell ⟨b,4,none⟩ (.int .i64 (Est.sign s r.g.n).a)).setCell ⟨b,1,none⟩ (.int .i64 (Est.sign s r.g.n).n)) b s (r.next s) q:=by
 refine ⟨(blk_setCell (blk_setCell (blk_setCell (blk_setCell (hb.trans h.blk) 2 _) 3 _) 4 _) 1 _).trans ?_⟩
 simp [rdBlk,rdCells,Est.Rd.next,Array.setIfInBounds]
theorem next_any (b:Nat) (s:ByteArray) (r:Est.Rd) (q:Value) (w:World) (h:Rdr w b s r q) (hs:s.size <= maxLen) (hn:r.g.n <= s.size) :
  Calls Tryz.prog 92 #[.pointer (some ⟨b,0,none⟩)] w fun x w' => x = .returned (.tuple #[]) /\ Rdr w' b s (r.next s) q /\ Kept (· = b) w w':=by
 have c0:=h.cell0
 have c1:=h.cell1
 go_enter Tryz.func92,Tryz.ntmps92
 go_wp2
 go_region_with (go_at_call 127;refine (sign_any s r.g.n _ hs hn).mono ?_;rintro e w1 ⟨rfl,hb⟩;have R1:Rdr w1 b s r q:=⟨(hb.block b (by simpa using h.lt)).trans h.blk⟩;have k1:=R1.cell1;have k2:=R1.cell2;have k3:=R1.cell3;have k4:=R1.cell4;have f1:=R1.free 1;have f2:=R1.free 2;have f3:=R1.free 3;have f4:=R1.free 4)
 all_goals go_end0
 all_goals exact ⟨rfl,R1.nexted rfl,(((((Kept.refl (· = b) w).drew.below hb).setCell _ rfl _).setCell _ rfl _).setCell _ rfl _).setCell _ rfl _⟩
theorem fail_at (b:Nat) (s:ByteArray) (r:Est.Rd) (q:Value) (n:Int) (e a:Nat) (w:World) (h:Rdr w b s r q) (hn:(e:Int) = n) :
  Calls Tryz.prog 94 #[.pointer (some ⟨b,0,none⟩),.int .i64 n,.int .i64 a] w fun x w' => x = .returned (.tuple #[]) /\ Rdr w' b s (r.fail e a) q /\ Kept (· = b) w w':=by
 subst hn;exact fail_any b s r q e a w h
theorem isB_bad {r:Est.Rd} {kd:UInt8} (h:¬ r.bad = 0):r.isB kd = false:=by simp [Est.Rd.isB,h]
theorem isB_no {r:Est.Rd} {kd:UInt8} (h:¬ r.g.k = kd):r.isB kd = false:=by simp [Est.Rd.isB,h]
theorem isB_yes {r:Est.Rd} {kd:UInt8} (h:r.bad = 0) (h':r.g.k = kd):r.isB kd = true:=by simp [Est.Rd.isB,h,h']
theorem is_any (b:Nat) (s:ByteArray) (r:Est.Rd) (q:Value) (n:Int) (kd:UInt8) (w:World) (h:Rdr w b s r q) (hk:(kd.toNat:Int) = n) (hs:s.size <= maxLen) (hn:r.g.n <= s.size) :
  Calls Tryz.prog 95 #[.pointer (some ⟨b,0,none⟩),.int .u8 n] w fun x w' => x = .returned (.bool (r.isB kd)) /\ Rdr w' b s (r.is s kd) q /\ Kept (· = b) w w':=by
 have c2:=h.cell2
 have c5:=h.cell5
 have HK:Hid ((kd.toNat:Int) = n):=hk
 clear hk
 by_cases h0:r.bad = 0
 ·have hb:((r.bad:Int) == 0) = true:=by simp [h0]
  have H0:Hid (r.bad = 0):=h0
  clear h0
  by_cases h1:r.g.k = kd
  ·have hc:((r.g.k.toNat:Int) == n) = true:=by rw [← HK.out,h1];simp
   have H1:Hid (r.isB kd = true):=isB_yes H0.out h1
   clear h1
   go_enter Tryz.func95,Tryz.ntmps95
   go_wp2_with (go_at_call 92;refine (next_any b s r q _ h hs hn).mono ?_;rintro e w1 ⟨rfl,hr1,hk1⟩)
   go_ret
   refine ⟨ret_bool H1.out.symm,?_,hk1⟩
   rw [Est.Rd.is,if_pos H1.out];exact hr1
  ·have hc:((r.g.k.toNat:Int) == n) = false:=by
    rw [← HK.out];refine beq_eq_false_iff_ne.2 (fun e => h1 ?_)
    exact UInt8.toNat_inj.1 (by omega)
   have H1:Hid (r.isB kd = false):=isB_no h1
   clear h1
   go_enter Tryz.func95,Tryz.ntmps95
   go_wp2
   go_ret
   refine ⟨ret_bool H1.out.symm,?_,Kept.refl _ _⟩
   rw [Est.Rd.is,if_neg (by rw [H1.out];decide)];exact h
 ·have hb:((r.bad:Int) == 0) = false:=beq_eq_false_iff_ne.2 (by omega)
  have H1:Hid (r.isB kd = false):=isB_bad h0
  clear h0
  go_enter Tryz.func95,Tryz.ntmps95
  go_wp2
  go_ret
  refine ⟨ret_bool H1.out.symm,?_,Kept.refl _ _⟩
  rw [Est.Rd.is,if_neg (by rw [H1.out];decide)];exact h
theorem must_any (b:Nat) (s:ByteArray) (r:Est.Rd) (q:Value) (n:Int) (kd:UInt8) (w:World) (h:Rdr w b s r q) (hk:(kd.toNat:Int) = n) (hs:s.size <= maxLen) (hn:r.g.n <= s.size) :
  Calls Tryz.prog 93 #[.pointer (some ⟨b,0,none⟩),.int .u8 n] w fun x w' => x = .returned (.string r.g.t) /\ Rdr w' b s (r.must s kd) q /\ Kept (· = b) w w':=by
 have c3:=h.cell3
 cases hb:r.isB kd
 ·have HB:Hid (r.isB kd = false):=hb
  clear hb
  go_enter Tryz.func93,Tryz.ntmps93
  go_wp2_with fail
  refine (is_any b s r q n kd _ h hk hs hn).mono ?_
  rintro e w1 ⟨rfl,hr1,hk1⟩
  rw [HB.out]
  rw [Est.Rd.is,if_neg (by rw [HB.out];decide)] at hr1
  have d4:=hr1.cell4
  go_wp2_with fail
  refine (fail_at b s r q 2 2 r.g.a _ hr1 rfl).mono ?_
  rintro e w2 ⟨rfl,hr2,hk2⟩
  go_wp2
  go_ret
  refine ⟨rfl,?_,hk1.trans hk2⟩
  rw [Est.Rd.must,if_neg (by rw [HB.out];decide)];exact hr2
 ·have HB:Hid (r.isB kd = true):=hb
  clear hb
  go_enter Tryz.func93,Tryz.ntmps93
  go_wp2_with fail
  refine (is_any b s r q n kd _ h hk hs hn).mono ?_
  rintro e w1 ⟨rfl,hr1,hk1⟩
  rw [HB.out]
  rw [Est.Rd.is,if_pos HB.out] at hr1
  go_wp2
  go_ret
  refine ⟨rfl,?_,hk1⟩
  rw [Est.Rd.must,if_pos HB.out];exact hr1
def tag:Option Obj -> Nat
 | some (.cells _ t _) => t
 | _ => 0
structure Keeps (F:Nat -> Option Obj -> Prop) (w w':World):Prop where
 os:w'.os = w.os
 tape:w'.tape = w.tape
 output:w'.output = w.output
 size:w.heap.size <= w'.heap.size
 block:∀ k,k < w.heap.size -> ¬ F k w.heap[k]? -> w'.heap[k]? = w.heap[k]?
theorem Keeps.refl (F:Nat -> Option Obj -> Prop) (w:World):Keeps F w w:=⟨rfl,rfl,rfl,Nat.le_refl _,fun _ _ _ => rfl⟩
theorem Keeps.trans {F:Nat -> Option Obj -> Prop} {a b c:World} (h:Keeps F a b) (k:Keeps F b c):Keeps F a c :=
 ⟨k.os.trans h.os,k.tape.trans h.tape,k.output.trans h.output,Nat.le_trans h.size k.size,fun i hi hs => by
  have e:=h.block i hi hs
  exact (k.block i (Nat.lt_of_lt_of_le hi h.size) (by rw [e];exact hs)).trans e⟩
theorem Keeps.mono {F G:Nat -> Option Obj -> Prop} {w w':World} (h:Keeps F w w') (hfg:∀ k o,F k o -> G k o):Keeps G w w' :=
 ⟨h.os,h.tape,h.output,h.size,fun k hk hg => h.block k hk (fun hf => hg (hfg k _ hf))⟩
theorem Keeps.of {S:Nat -> Prop} {F:Nat -> Option Obj -> Prop} {w w':World} (h:Kept S w w') (hsf:∀ k o,S k -> F k o):Keeps F w w' :=
 ⟨h.os,h.tape,h.output,h.size,fun k hk hg => h.block k hk (fun hs => hg (hsf k _ hs))⟩
theorem Keeps.drew {F:Nat -> Option Obj -> Prop} {a w:World} (h:Keeps F a w):Keeps F a w.drew:=⟨h.os,h.tape,h.output,h.size,h.block⟩
theorem Keeps.alloc {F:Nat -> Option Obj -> Prop} {a w:World} (h:Keeps F a w) (o:Obj):Keeps F a (w.alloc o) :=
 h.trans ⟨rfl,rfl,rfl,by simp,fun k hk _ => Below.heap_alloc _ _ _ hk⟩
theorem Keeps.setCell {F:Nat -> Option Obj -> Prop} {a w:World} (h:Keeps F a w) (p:Addr) (hp:∀ o,F p.block o) (u:Value):Keeps F a (w.setCell p u) :=
 h.trans ⟨rfl,rfl,rfl,by simp [World.setCell],fun k _ hs => Below.heap_setCell _ _ _ _ (fun e => hs (e ▸ hp _))⟩
theorem Keeps.below {F:Nat -> Option Obj -> Prop} {a w w':World} (h:Keeps F a w) (hb:Below w.heap.size w w'):Keeps F a w' :=
 h.trans ⟨hb.os,hb.tape,hb.output,hb.size,fun k hk _ => hb.block k hk⟩
theorem Keeps.grown {F:Nat -> Option Obj -> Prop} {a w w':World} {row:Option Nat} (h:Keeps F a w) (hg:w.grownBy w' row) (hr:∀ k,row = some k -> F k w.heap[k]?):Keeps F a w' :=
 h.trans ⟨hg.os,hg.tape,hg.output,hg.size,fun k hk hf => hg.block k hk (fun e => hf (hr k e.symm))⟩
theorem own_tag {w:World} {base:Nat} {e:TypeId} {size:Nat} {v:Value} {n:Nat} {xs:List Value} (h:w.ownsRow base e size v n xs) {k:Nat} (hk:v.ownBlock = some k):base <= k /\ k < w.heap.size /\ tag w.heap[k]? = e:=by
 have hl:=h.lt k hk
 rcases h.2 with ⟨rfl,_⟩ | ⟨g,cap,cur,rfl,hb,hg,_⟩
 ·simp [Value.ownBlock] at hk
 ·simp [Value.ownBlock] at hk
  subst hk
  exact ⟨hl.1,hl.2,by rw [hg];rfl⟩
theorem own_keeps {F:Nat -> Option Obj -> Prop} {w w':World} {base:Nat} {e:TypeId} {size:Nat} {v:Value} {n:Nat} {xs:List Value} (h:w.ownsRow base e size v n xs) (hk:Keeps F w w')
  (hf:∀ k,base <= k -> k < w.heap.size -> tag w.heap[k]? = e -> v.ownBlock = some k -> ¬ F k w.heap[k]?):w'.ownsRow base e size v n xs:=by
 refine ⟨h.1,?_⟩
 rcases h.2 with hn | ⟨g,cap,cur,rfl,hb,hgg,rest⟩
 ·exact .inl hn
 ·refine .inr ⟨g,cap,cur,rfl,hb,?_,rest⟩
  have hl:=lt_of_block hgg
  rw [hk.block g hl (hf g hb hl (by rw [hgg];rfl) rfl)]
  exact hgg
theorem own_form {w:World} {base:Nat} {e:TypeId} {size:Nat} {v:Value} {n:Nat} {xs:List Value} (h:w.ownsRow base e size v n xs):∃ a cap,v = .slice a n cap:=by
 rcases h.2 with ⟨rfl,rfl⟩ | ⟨g,cap,cur,rfl,_⟩
 ·exact ⟨_,_,rfl⟩
 ·exact ⟨_,_,rfl⟩
theorem own_some {w:World} {base:Nat} {e:TypeId} {size:Nat} {v:Value} {n:Nat} {xs:List Value} (h:w.ownsRow base e size v n xs) (hn:0 < n):∃ g cap,v = .slice (some ⟨g,0,none⟩) n cap:=by
 rcases h.2 with ⟨rfl,rfl⟩ | ⟨g,cap,cur,rfl,_⟩
 ·omega
 ·exact ⟨_,_,rfl⟩
theorem Tryz.info9:(Tryz.prog.info? 9).map (fun i => (i.zero,i.size,i.bytes)) = some (some (.string ⟨#[]⟩),1,16):=by kernel_rfl
theorem ret_int64 {a b:Int} (h:a = b):Ending.returned (.int .i64 a) = .returned (.int .i64 b):=by rw [h]
def strs (l:List ByteArray):List Value:=l.map Value.string
theorem step_append_own {P:Program} {ops:Array Oper} {o:Oper} {a:Act} {w:World} {K:Act -> World -> Prop} {Q:Exit -> Act -> World -> Prop} {E:Prop}
  (hg:o.guard = none) (s x:Operand) (t:TypeId) (hop:o.op = Op.call { callee:=Callee.builtin Builtin.append,args:=#[s,x],argTypes:=#[t,t] })
  (base:Nat) (e:TypeId) (i:TypeInfo) (z:Value) (size bytes:Nat) (h1:P.underlying t = some (.slice e)) (h2:P.info? e = some i) (h3:i.zero = some z) (h4:i.size = size) (h5:i.bytes = bytes) (h6:z.cells.size = size) (h7:0 < size)
  (v:Value) (n:Nat) (xs:List Value) (hs:a.eval s = v) (hown:w.ownsRow base e size v n xs)
  (ad:Addr) (m c:Nat) (news:List Value) (hx:a.eval x = .slice (some ad) m c) (hn:news.length = m * size) (hc:∀ j u,news[j]? = some u -> w.cell? (ad.add j) = some u) (h1c:∀ u ∈ news,u.oneCell' = true)
  (b1:n + m <= maxLen) (b2:(n + m) * bytes <= 140737488355328) (hb:base <= w.heap.size)
  (hK:∀ v' w',w'.ownsRow base e size v' (n + m) (xs ++ news) -> w.grownBy w' v.ownBlock -> K (a.put o.dst v') w') :
  if Region.wanted o (yielded ops a.tmps) = true then Oper.wp P o a w K Q else E:=by
 have hw:Region.wanted o (yielded ops a.tmps) = true:=by simp [Region.wanted,hg]
 rw [if_pos hw]
 obtain ⟨v',w',hrun,r1,r2,_⟩:=run_append_own (P:=P) w base t o.type e i z size bytes h1 h2 h3 h4 h5 h6 h7 v n xs hown ad m c news hn hc h1c b1 b2 hb
 unfold Oper.wp
 simp [execOp,hop,resolve,invoke,builtin,hs,hx,hrun,Result.andThen]
 exact hK v' w' r1 r2
theorem one_new (w:World) (v:Value) (t:TypeId):∀ j u,[v][j]? = some u -> (w.alloc (.cells #[v] t)).cell? ((⟨w.heap.size,0,none⟩:Addr).add j) = some u:=by
 intro j u hj
 match j,hj with
 | 0,hj => simp at hj;subst hj;simp [Addr.add]
def vix (vars:List ByteArray) (t:ByteArray):Nat:=vars.findIdx (fun v => v.toList == t.toList)
def vadd (vars:List ByteArray) (t:ByteArray):List ByteArray:=if vix vars t < vars.length then vars else vars ++ [t]
def vrd (r:Est.Rd) (vars:List ByteArray) (t:ByteArray) (a:Nat):Est.Rd:=if vix vars t < vars.length then r else if 6 <= vars.length then r.fail 3 a else r
def FV (rb qb base:Nat):Nat -> Option Obj -> Prop:=fun k o => k = rb ∨ k = qb ∨ (base <= k /\ tag o = 9)
structure VSt (w:World) (rb qb base:Nat) (s:ByteArray) (r:Est.Rd) (vars:List ByteArray) (hv av:Value):Prop where
 rd:Rdr w rb s r (.pointer (some ⟨qb,0,none⟩))
 q:∃ vv,w.heap[qb]? = some (.cells #[vv,hv,av] 97 (0,0)) /\ w.ownsRow base 9 1 vv vars.length (strs vars)
theorem grown_q {w w1 w2:World} {rb qb base:Nat} {s:ByteArray} {r:Est.Rd} {vars:List ByteArray} {hv av vv:Value}
  (h:Rdr w rb s r (.pointer (some ⟨qb,0,none⟩))) (hq:w.heap[qb]? = some (.cells #[vv,hv,av] 97 (0,0))) (ho:w.ownsRow base 9 1 vv vars.length (strs vars))
  (h1:Kept (fun _ => False) w w1) (hg:w1.grownBy w2 vv.ownBlock) :
  w2.cell? ⟨qb,0,none⟩ = some vv /\ w2.frozen? ⟨qb,0,none⟩ = false /\ w2.cell? ⟨rb,7,none⟩ = some (.pointer (some ⟨qb,0,none⟩)):=by
 have hqlt:=lt_of_block hq
 have e2:w2.heap[qb]? = w.heap[qb]?:=by
  rw [hg.block qb (Nat.lt_of_lt_of_le hqlt h1.size) ?_,h1.block qb hqlt (fun x => x)]
  intro e
  have g3:=(own_tag ho e.symm).2.2
  rw [hq] at g3;simp [tag] at g3
 have e1:w2.heap[rb]? = w.heap[rb]?:=by
  rw [hg.block rb (Nat.lt_of_lt_of_le h.lt h1.size) ?_,h1.block rb h.lt (fun x => x)]
  intro e
  have g3:=(own_tag ho e.symm).2.2
  rw [h.blk] at g3;simp [rdBlk,tag] at g3
 exact ⟨by simp [World.cell?,e2,hq],by simp [World.frozen?,e2,hq],by simp [World.cell?,e1,h.blk,rdBlk,rdCells]⟩
theorem VSt.appended {w w1 w2:World} {rb qb base:Nat} {s:ByteArray} {r:Est.Rd} {vars:List ByteArray} {hv av vv v':Value} {t:ByteArray}
  (h:Rdr w rb s r (.pointer (some ⟨qb,0,none⟩))) (hq:w.heap[qb]? = some (.cells #[vv,hv,av] 97 (0,0))) (ho:w.ownsRow base 9 1 vv vars.length (strs vars))
  (h1:Kept (fun _ => False) w w1) (hown:w2.ownsRow base 9 1 v' (vars.length + 1) (strs vars ++ [.string t])) (hg:w1.grownBy w2 vv.ownBlock) :
  VSt (w2.setCell ⟨qb,0,none⟩ v') rb qb base s r (vars ++ [t]) hv av /\ Keeps (FV rb qb base) w (w2.setCell ⟨qb,0,none⟩ v'):=by
 have hrq:rb ≠ qb:=by
  intro e;have:=h.blk;rw [e,hq] at this;simp [rdBlk] at this
 have hvr:∀ k,vv.ownBlock = some k -> k ≠ rb /\ k ≠ qb /\ tag w.heap[k]? = 9 /\ base <= k:=by
  intro k hk
  obtain ⟨g1,g2,g3⟩:=own_tag ho hk
  refine ⟨?_,?_,g3,g1⟩
  ·rintro rfl;rw [h.blk] at g3;simp [rdBlk,tag] at g3
  ·rintro rfl;rw [hq] at g3;simp [tag] at g3
 have hlt:=h.lt
 have hqlt:=lt_of_block hq
 have e1:w2.heap[rb]? = w.heap[rb]?:=by
  rw [hg.block rb (Nat.lt_of_lt_of_le hlt h1.size) (fun e => (hvr rb e.symm).1 rfl),h1.block rb hlt (fun x => x)]
 have e2:w2.heap[qb]? = w.heap[qb]?:=by
  rw [hg.block qb (Nat.lt_of_lt_of_le hqlt h1.size) (fun e => (hvr qb e.symm).2.1 rfl),h1.block qb hqlt (fun x => x)]
 have hv':v'.ownBlock ≠ some qb:=by
  intro hk
  have:=(own_tag hown hk).2.2
  rw [e2,hq] at this;simp [tag] at this
 refine ⟨⟨⟨by rw [Below.heap_setCell _ _ _ _ hrq,e1];exact h.blk⟩,v',?_,?_⟩,?_⟩
 ·refine (blk_setCell (e2.trans hq) 0 v').trans ?_
  simp [Array.setIfInBounds]
 ·have:=ownsRow_setCell_other hown (a:=⟨qb,0,none⟩) hv' v'
  simpa [strs] using this
 ·refine Keeps.setCell (Keeps.trans (b:=w1) (Keeps.of h1 (fun _ _ x => x.elim)) ?_) _ (fun _ => Or.inr (Or.inl rfl)) _
  refine Keeps.grown (Keeps.refl _ _) hg (fun k hk => ?_)
  obtain ⟨_,_,g3,g4⟩:=hvr k hk
  obtain ⟨_,g5,_⟩:=own_tag ho hk
  exact Or.inr (Or.inr ⟨g4,by rw [h1.block k g5 (fun x => x)];exact g3⟩)
theorem variable_any (rb qb base:Nat) (s:ByteArray) (r:Est.Rd) (vars:List ByteArray) (hv av:Value) (t:ByteArray) (a:Nat) (w:World)
  (hst:VSt w rb qb base s r vars hv av) (hl:vars.length <= 1000) (hB:base <= w.heap.size) :
  Calls Tryz.prog 166 #[.pointer (some ⟨rb,0,none⟩),.string t,.int .i64 a] w fun x w' => x = .returned (.int .i64 (vix vars t)) /\
   VSt w' rb qb base s (vrd r vars t a) (vadd vars t) hv av /\ Keeps (FV rb qb base) w w':=by
 obtain ⟨h,vv,hq,ho⟩:=hst
 have c7:=h.cell7
 have q0:w.cell? ⟨qb,0,none⟩ = some vv:=by simp [World.cell?,hq]
 obtain ⟨va,cap,rfl⟩:=own_form ho
 go_enter Tryz.func166,Tryz.ntmps166
 go_wp2
 go_loop [7] (fun i => ∃ k:Nat,k <= vars.length /\ i = .int .i64 k /\ ∀ j (hj:j < vars.length),j < k -> (vars[j].toList == t.toList) = false) (fun i => vars.length - (intOf i).toNat)
 case atStart => exact ⟨0,Nat.zero_le _,rfl,fun _ _ h => absurd h (Nat.not_lt_zero _)⟩
 case round =>
  obtain ⟨k,hk,rfl,hd⟩:=hrel
  have HD:Hid (∀ j (hj:j < vars.length),j < k -> (vars[j].toList == t.toList) = false):=hd
  clear hd
  by_cases hlt:k < vars.length
  ·obtain ⟨g,cap',he⟩:=own_some ho (by omega)
   simp only [Value.slice.injEq,true_and] at he
   obtain ⟨rfl,rfl⟩:=he
   have hc:=ho.cellAt k (by omega)
   simp only [strs,List.getElem?_map,List.getElem?_eq_getElem hlt,Option.map_some] at hc
   cases hb:(vars[k].toList == t.toList)
   ·go_wp2
    go_round
    case rel => exact ⟨k + 1,by omega,by go_num,fun j hj hjk => by
     by_cases e:j = k
     ·subst e;exact hb
     ·exact HD.out j hj (by omega)⟩
    case measure => simp [intOf];omega
   ·have HX:Hid (vix vars t = k):=by
     unfold Hid vix
     exact (List.findIdx_eq hlt).2 ⟨hb,fun j hj => HD.out j (by omega) hj⟩
    go_wp2
    go_ret
    refine ⟨ret_int64 (by rw [HX.out]),?_,Keeps.refl _ _⟩
    rw [vrd,vadd,if_pos (by rw [HX.out];exact hlt),if_pos (by rw [HX.out];exact hlt)]
    exact ⟨h,_,hq,ho⟩
  ·have HX:Hid (vix vars t = vars.length):=by
    unfold Hid vix
    refine List.findIdx_eq_length.2 (fun x hx => ?_)
    obtain ⟨j,hj,rfl⟩:=List.getElem_of_mem hx
    exact HD.out j hj (by omega)
   clear HD
   have HV:Hid (vadd vars t = vars ++ [t]):=by unfold Hid vadd;rw [if_neg (by rw [HX.out];omega)]
   have HR:Hid (vrd r vars t a = if 6 <= vars.length then r.fail 3 a else r):=by unfold Hid vrd;rw [if_neg (by rw [HX.out];omega)]
   obtain ⟨i0,hi,hz0,hz1,hz2⟩:=info_parts Tryz.info9
   have HI:=hi;clear hi;have HI:Hid (Tryz.prog.info? 9 = some i0):=HI
   have HZ0:Hid _:=hz0;clear hz0
   have HZ1:Hid _:=hz1;clear hz1
   have HZ2:Hid _:=hz2;clear hz2
   by_cases h6:6 <= vars.length
   ·go_wp2_with fail
    refine (fail_at rb s r _ 3 3 a _ h rfl).mono ?_
    rintro e w1 ⟨rfl,hr1,hk1⟩
    have hqr:qb ≠ rb:=by intro e;have:=h.blk;rw [← e,hq] at this;simp [rdBlk] at this
    have hq1:w1.heap[qb]? = some (.cells #[.slice va vars.length cap,hv,av] 97 (0,0)):=(hk1.block qb (lt_of_block hq) hqr).trans hq
    have hor:∀ k,Value.ownBlock (.slice va vars.length cap) = some k -> k ≠ rb:=by
     intro k hk e;have g3:=(own_tag ho hk).2.2;rw [e,h.blk] at g3;simp [rdBlk,tag] at g3
    have ho1:w1.ownsRow base 9 1 (.slice va vars.length cap) vars.length (strs vars):=own_keeps ho (Keeps.of (F:=fun k _ => k = rb) hk1 (fun _ _ x => x)) (fun k _ _ _ hk => hor k hk)
    have hB1:base <= w1.heap.size:=Nat.le_trans hB hk1.size
    have d7:=hr1.cell7
    have p0:w1.cell? ⟨qb,0,none⟩ = some (.slice va vars.length cap):=by simp [World.cell?,hq1]
    clear c7 q0
    have l1:rb < w1.heap.size:=hr1.lt
    have l2:qb < w1.heap.size:=lt_of_block hq1
    go_wp2_with fail
    go_region_law (refine step_append_own rfl (.tmp 55) (.tmp 57) 43 rfl base 9 i0 (.string ⟨#[]⟩) 1 16 Tryz.underlying43 HI.out HZ0.out HZ1.out HZ2.out rfl (by decide) (.slice va vars.length cap) _ _ rfl (by exact (ho1.alloc _)) ⟨w1.heap.size,0,none⟩ 1 1 [.string t] rfl rfl (one_new _ _ _) (by intro u hu;simp at hu;subst hu;rfl) (by unfold maxLen;omega) (by omega) (by simp;omega) ?_;intro v' w2 hown2 hgrow2;obtain ⟨va2,cap2,rfl⟩:=own_form hown2;obtain ⟨g1,g2,g3⟩:=grown_q hr1 hq1 ho1 (by exact ((Kept.refl (fun _ => False) w1).alloc _).drew) hgrow2)
    all_goals go_wp2
    all_goals go_ret
    all_goals
     have HA:=VSt.appended hr1 hq1 ho1 (by exact ((Kept.refl (fun _ => False) w1).alloc _).drew) hown2 hgrow2
     refine ⟨ret_int64 (by rw [HX.out]),?_,(Keeps.of hk1 (fun _ _ x => Or.inl x)).trans HA.2⟩
     rw [HV.out,HR.out,if_pos h6]
     exact HA.1
   ·have l1:rb < w.heap.size:=h.lt
    have l2:qb < w.heap.size:=lt_of_block hq
    go_wp2_with fail
    go_region_law (refine step_append_own rfl (.tmp 55) (.tmp 57) 43 rfl base 9 i0 (.string ⟨#[]⟩) 1 16 Tryz.underlying43 HI.out HZ0.out HZ1.out HZ2.out rfl (by decide) (.slice va vars.length cap) _ _ rfl (by exact (ho.alloc _)) ⟨w.heap.size,0,none⟩ 1 1 [.string t] rfl rfl (one_new _ _ _) (by intro u hu;simp at hu;subst hu;rfl) (by unfold maxLen;omega) (by omega) (by simp;omega) ?_;intro v' w2 hown2 hgrow2;obtain ⟨va2,cap2,rfl⟩:=own_form hown2;obtain ⟨g1,g2,g3⟩:=grown_q h hq ho (by exact ((Kept.refl (fun _ => False) w).alloc _).drew) hgrow2)
    all_goals go_wp2
    all_goals go_ret
    all_goals
     have HA:=VSt.appended h hq ho (by exact ((Kept.refl (fun _ => False) w).alloc _).drew) hown2 hgrow2
     refine ⟨ret_int64 (by rw [HX.out]),?_,HA.2⟩
     rw [HV.out,HR.out,if_neg h6]
     exact HA.1
end Go.Proofs.YtondkinefmjpjaaGreat.K
