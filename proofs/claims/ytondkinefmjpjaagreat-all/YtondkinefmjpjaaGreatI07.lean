import Derived.Deep.QuietTactic
import Derived.BigQuiet
import Derived.Test.YtondkinefmjpjaaGreatI05
import Derived.Test.YtondkinefmjpjaaGreatI06
set_option maxHeartbeats 32000000
set_option maxRecDepth 100000
namespace Go.Proofs.YtondkinefmjpjaaGreat.K
open Go.RowKit
theorem Tryz.info3:(Tryz.prog.info? 3).map (fun i => (i.zero,i.size,i.bytes)) = some (some (.int .i64 0),1,8):=by kernel_rfl
def r00:Est.Rd:=⟨⟨0,⟨#[]⟩,0,0⟩,0,0⟩
def nShape (r:Est.Rd) (ns:List ByteArray) (v:ByteArray) (a k:Nat):Est.Rd:=if (ns.take k).any (fun x => x.toList == v.toList) then r.fail 4 a else r
def hR (s:ByteArray) (r:Est.Rd) (ns:List ByteArray):Est.Rd :=
 if 6 <= ns.length then (nShape (r.must s 118) ns r.g.t r.g.a ns.length).fail 3 r.g.a else nShape (r.must s 118) ns r.g.t r.g.a ns.length
def hl (s:ByteArray):Nat -> Est.Rd -> List ByteArray -> List Nat -> Est.Rd × List ByteArray × List Nat
 | 0,r,ns,ps => (r,ns,ps)
 | n + 1,r,ns,ps =>
  if r.bad = 0 then
   if (hR s r ns).isB 44 then hl s n ((hR s r ns).is s 44) (ns ++ [r.g.t]) (ps ++ [r.g.a]) else (hR s r ns,ns ++ [r.g.t],ps ++ [r.g.a])
  else (r,ns,ps)
theorem hl_done (s:ByteArray) (n:Nat) (r:Est.Rd) (ns:List ByteArray) (ps:List Nat) (h:r.bad ≠ 0):hl s n r ns ps = (r,ns,ps):=by
 cases n with
 | zero => rfl
 | succ n => unfold hl;rw [if_neg h]
theorem nShape_done {r:Est.Rd} {l:List ByteArray} {v:ByteArray} {a k:Nat} (h:(nShape r l v a k).bad ≠ 0):nShape r l v a l.length = nShape r l v a k:=by
 unfold nShape at h ⊢
 rw [List.take_length]
 by_cases h1:(l.take k).any (fun x => x.toList == v.toList) = true
 ·have h2:l.any (fun x => x.toList == v.toList) = true:=by
   rw [List.any_eq_true] at h1 ⊢
   obtain ⟨x,hx,hp⟩:=h1
   exact ⟨x,List.mem_of_mem_take hx,hp⟩
  rw [if_pos h1,if_pos h2]
 ·rw [if_neg h1] at h ⊢
  split
  ·unfold Est.Rd.fail;rw [if_neg h]
  ·rfl
theorem nShape_step {r:Est.Rd} {l:List ByteArray} {v:ByteArray} {a k:Nat} (hk:k < l.length) (h:(nShape r l v a k).bad = 0) :
  nShape r l v a (k + 1) = if (l[k].toList == v.toList) then (nShape r l v a k).fail 4 a else nShape r l v a k:=by
 unfold nShape at h ⊢
 rw [List.take_succ_eq_append_getElem hk,List.any_append]
 by_cases h1:(l.take k).any (fun x => x.toList == v.toList) = true
 ·rw [if_pos h1] at h
  unfold Est.Rd.fail at h
  split at h
  ·simp at h
  ·rename_i hx;exact absurd h hx
 ·have h1':(l.take k).any (fun x => x.toList == v.toList) = false:=by simpa using h1
  rw [h1']
  simp
theorem Ok.nShape {s:ByteArray} {r:Est.Rd} (h:Ok s r) (ns:List ByteArray) (v:ByteArray) (a k:Nat):Ok s (nShape r ns v a k):=by
 unfold YtondkinefmjpjaaGreat.K.nShape;split;exact h.fail _ _;exact h
theorem Ok.hR {s:ByteArray} {r:Est.Rd} (h:Ok s r) (ns:List ByteArray):Ok s (hR s r ns):=by
 unfold YtondkinefmjpjaaGreat.K.hR;split;exact ((h.must 118).nShape _ _ _ _).fail _ _;exact (h.must 118).nShape _ _ _ _
def ints (l:List Nat):List Value:=l.map fun (n:Nat) => Value.int .i64 n
structure HSt (w wr:World) (B:Nat) (s:ByteArray) (r:Est.Rd) (ns:List ByteArray) (ps:List Nat) (nv pv:Value):Prop where
 rd:Rdr wr (B + 1) s r (.pointer (some ⟨B,0,none⟩))
 q:wr.heap[B]? = some (.cells #[.slice none 0 0,.slice none 0 0,.slice none 0 0] 97 (0,0))
 nrow:wr.ownsRow (B + 2) 9 1 nv ns.length (strs ns)
 prow:wr.ownsRow (B + 2) 3 1 pv ps.length (ints ps)
 below:Below B w wr
section
variable {w wr w':World} {B:Nat} {s:ByteArray} {r r':Est.Rd} {ns:List ByteArray} {ps:List Nat} {nv pv:Value}
theorem HSt.keeps {F:Nat -> Option Obj -> Prop} (h:HSt w wr B s r ns ps nv pv) (k:Keeps F wr w') (hr:Rdr w' (B + 1) s r' (.pointer (some ⟨B,0,none⟩))) (hF:∀ j o,F j o -> j = B + 1):HSt w w' B s r' ns ps nv pv:=by
 refine ⟨hr,(k.block B (lt_of_block h.q) (fun e => ?_)).trans h.q,own_keeps h.nrow k (fun j hj _ _ _ e => ?_),own_keeps h.prow k (fun j hj _ _ _ e => ?_),?_⟩
 ·have:=hF _ _ e;omega
 ·have:=hF _ _ e;omega
 ·have:=hF _ _ e;omega
 ·refine h.below.trans ⟨k.os,k.tape,k.output,k.size,fun j hj => k.block j (Nat.lt_trans hj (lt_of_block h.q)) (fun e => ?_)⟩
  have:=hF _ _ e;omega
theorem HSt.kept (h:HSt w wr B s r ns ps nv pv) (hr:Rdr w' (B + 1) s r' (.pointer (some ⟨B,0,none⟩))) (k:Kept (· = B + 1) wr w'):HSt w w' B s r' ns ps nv pv :=
 h.keeps (F:=fun j _ => j = B + 1) (Keeps.of k (fun _ _ x => x)) hr (fun _ _ x => x)
theorem HSt.lt (h:HSt w wr B s r ns ps nv pv):B + 2 <= wr.heap.size:=h.rd.lt
theorem HSt.named (h:HSt w wr B s r ns ps nv pv) {v:ByteArray} {nv':Value} {w1:World} (h1:Kept (fun _ => False) wr w1) (hg:w1.grownBy w' nv.ownBlock) (ho:w'.ownsRow (B + 2) 9 1 nv' (ns.length + 1) (strs ns ++ [.string v])):HSt w w' B s r (ns ++ [v]) ps nv' pv:=by
 have hbl:∀ k,nv.ownBlock = some k -> B + 2 <= k /\ tag wr.heap[k]? = 9:=fun k hk => ⟨(own_tag h.nrow hk).1,(own_tag h.nrow hk).2.2⟩
 have k0:Keeps (fun k _ => nv.ownBlock = some k) wr w':=(Keeps.of h1 (fun _ _ x => x.elim)).trans (Keeps.grown (Keeps.refl _ _) hg (fun k hk => hk))
 refine ⟨h.rd.keeps k0 (fun e => by have:=(hbl _ e).1;omega),(k0.block B (lt_of_block h.q) (fun e => by have:=(hbl _ e).1;omega)).trans h.q,?_,own_keeps h.prow k0 (fun j _ _ ht _ e => by have:=(hbl _ e).2;rw [ht] at this;simp at this),?_⟩
 ·simpa [strs] using ho
 ·exact h.below.trans ⟨k0.os,k0.tape,k0.output,k0.size,fun j hj => k0.block j (Nat.lt_trans hj (lt_of_block h.q)) (fun e => by have:=(hbl _ e).1;omega)⟩
theorem HSt.placed (h:HSt w wr B s r ns ps nv pv) {v:Nat} {pv':Value} {w1:World} (h1:Kept (fun _ => False) wr w1) (hg:w1.grownBy w' pv.ownBlock) (ho:w'.ownsRow (B + 2) 3 1 pv' (ps.length + 1) (ints ps ++ [.int .i64 v])):HSt w w' B s r ns (ps ++ [v]) nv pv':=by
 have hbl:∀ k,pv.ownBlock = some k -> B + 2 <= k /\ tag wr.heap[k]? = 3:=fun k hk => ⟨(own_tag h.prow hk).1,(own_tag h.prow hk).2.2⟩
 have k0:Keeps (fun k _ => pv.ownBlock = some k) wr w':=(Keeps.of h1 (fun _ _ x => x.elim)).trans (Keeps.grown (Keeps.refl _ _) hg (fun k hk => hk))
 refine ⟨h.rd.keeps k0 (fun e => by have:=(hbl _ e).1;omega),(k0.block B (lt_of_block h.q) (fun e => by have:=(hbl _ e).1;omega)).trans h.q,own_keeps h.nrow k0 (fun j _ _ ht _ e => by have:=(hbl _ e).2;rw [ht] at this;simp at this),?_,?_⟩
 ·simpa [ints] using ho
 ·exact h.below.trans ⟨k0.os,k0.tape,k0.output,k0.size,fun j hj => k0.block j (Nat.lt_trans hj (lt_of_block h.q)) (fun e => by have:=(hbl _ e).1;omega)⟩
end
structure HInv (w wr:World) (B:Nat) (s:ByteArray) (TH:Est.Rd × List ByteArray × List Nat) (m:Bool) (r:Est.Rd) (ns:List ByteArray) (ps:List Nat) (nv pv:Value):Prop where
 st:HSt w wr B s r ns ps nv pv
 ok:Ok s r
 same:ps.length = ns.length
 len:ns.length <= 7
 full:ns.length = 7 -> r.bad ≠ 0
 th:TH = if m then hl s (8 - ns.length) r ns ps else (r,ns,ps)
def r1 (s:ByteArray):Est.Rd:=(r00.next s).must s 40
def TH (s:ByteArray):Est.Rd × List ByteArray × List Nat:=if (r1 s).bad = 0 /\ (r1 s).g.k ≠ 41 then hl s 8 (r1 s) [] [] else (r1 s,[],[])
theorem Ok.r00 (s:ByteArray):Ok s r00:=⟨Nat.zero_le _,Nat.zero_le _,Nat.zero_le _⟩
theorem Ok.r1 (s:ByteArray):Ok s (r1 s):=Ok.must (Ok.next (Ok.r00 s)) 40
structure PA where
 rel:ByteArray
 vs:List Int
 a:Nat
 cs:List Int
def AD.pa (d:AD):PA:=⟨d.rel,d.ts.map Prod.fst,d.at_,d.ts.map Prod.snd⟩
def clashP (rel:ByteArray) (n:Nat) (d:PA):Bool:=(d.rel.toList == rel.toList) && (d.vs.length != n)
def aFinP (s:ByteArray) (r:Est.Rd) (pl:List PA) (vars:List ByteArray):Est.Rd :=
 if pl.any (clashP (aR1 r pl.length).g.t (aT s r pl.length vars).2.2.length) then ((aT s r pl.length vars).1.must s 41).fail 6 r.g.a else (aT s r pl.length vars).1.must s 41
theorem aFin_eq (s:ByteArray) (r:Est.Rd) (l:List AD) (vars:List ByteArray):aFin s r l vars = aFinP s r (l.map AD.pa) vars:=by
 unfold aFin aFinP aShape
 rw [List.take_length,List.length_map,List.any_map]
 have:(clashP (aR1 r l.length).g.t (aT s r l.length vars).2.2.length ∘ AD.pa) = clash (aR1 r l.length).g.t (aT s r l.length vars).2.2.length:=by
  funext d;simp [clashP,clash,AD.pa]
 rw [this]
def aStep (s:ByteArray) (x:Est.Rd × List ByteArray × List PA):Est.Rd × List ByteArray × List PA :=
 (aFinP s x.1 x.2.2 x.2.1,(aT s x.1 x.2.2.length x.2.1).2.1,x.2.2 ++ [⟨(aR1 x.1 x.2.2.length).g.t,(aT s x.1 x.2.2.length x.2.1).2.2,x.1.g.a,aC s x.1 x.2.2.length x.2.1⟩])
def al (s:ByteArray):Nat -> Est.Rd × List ByteArray × List PA -> Est.Rd × List ByteArray × List PA
 | 0,x => x
 | n + 1,x => if x.1.isB 44 then al s n (aStep s (x.1.next s,x.2.1,x.2.2)) else x
def nl (vars:List ByteArray):List ByteArray -> List Nat -> Est.Rd -> Est.Rd
 | n :: ns,p :: ps,r => if r.bad = 0 then (if vars.any (fun v => v.toList == n.toList) then nl vars ns ps r else r.fail 5 p) else r
 | _,_,r => r
def lixK (vars:List ByteArray) (t:ByteArray):Nat -> Int
 | 0 => -1
 | k + 1 => if h:k < vars.length then (if vars[k].toList == t.toList then (k:Int) else lixK vars t k) else lixK vars t k
def lix (vars:List ByteArray) (t:ByteArray):Int:=lixK vars t vars.length
theorem lixK_neg (vars:List ByteArray) (t:ByteArray) (k:Nat):decide (lixK vars t k < 0) = !((vars.take k).any fun v => v.toList == t.toList):=by
 induction k with
 | zero => simp [lixK]
 | succ k ih =>
  unfold lixK
  by_cases h:k < vars.length
  ·rw [dif_pos h,List.take_succ_eq_append_getElem h,List.any_append]
   cases e:(vars[k].toList == t.toList)
   ·simp only [List.any_cons,List.any_nil,e,Bool.or_false];exact ih
   ·simp only [List.any_cons,List.any_nil,e,Bool.or_true,if_true,Bool.or_false,Bool.not_true];exact decide_eq_false (by omega)
  ·rw [dif_neg h,List.take_of_length_le (by omega)]
   rw [List.take_of_length_le (by omega)] at ih
   exact ih
def ilist (l:List Int):List Value:=l.map fun n => Value.int .i64 n
def TA (s:ByteArray):Est.Rd × List ByteArray × List PA:=al s 5 (aStep s ((((TH s).1.must s 41).must s 58),[],[]))
def rE (s:ByteArray):Est.Rd:=if ((TA s).1.must s 46).bad = 0 /\ ((TA s).1.must s 46).g.k ≠ 0 then ((TA s).1.must s 46).fail 2 ((TA s).1.must s 46).g.a else (TA s).1.must s 46
def rN (s:ByteArray):Est.Rd:=nl (TA s).2.1 (TH s).2.1 (TH s).2.2 (rE s)
def RQ (s:ByteArray) (w:World) (q:Value):Prop:=∃ qb base l va vcap hv av,q = .pointer (some ⟨qb,0,none⟩) /\ QSt w qb base (TA s).2.1.length l /\ l.length <= 5 /\ w.heap[qb]? = some (.cells #[.slice va (TA s).2.1.length vcap,hv,av] 97 (0,0)) /\ w.ownsRow base 3 1 hv (TH s).2.1.length (ilist ((TH s).2.1.map (lix (TA s).2.1))) /\ w.ownsRow base 138 3 av l.length (acells l) /\ l.map AD.pa = (TA s).2.2
def hasP (pl:List PA) (i v:Nat):Bool:=(((pl.map PA.vs)[i]?).getD []).any fun t => t == (v:Int)
def earP (nv:Nat) (left:List Bool) (pl:List PA) (i k:Nat):Bool :=
 (List.range pl.length).all fun j => !(left.getD j false) || j == i || (List.range nv).all fun v => !(hasP pl i v && hasP pl j v && !hasP pl k v)
def cycP (nv:Nat) (pl:List PA):Nat -> List Bool -> Bool
 | 0,_ => false
 | n + 1,left => match (List.range pl.length).find? fun i => (List.range pl.length).any fun k => left.getD i false && left.getD k false && !(i == k) && earP nv left pl i k with
  | none => true
  | some g => cycP nv pl n (left.set g false)
theorem hasP_eq (l:List AD) (i v:Nat):hasP (l.map AD.pa) i v = hasV (tsAt l i) v:=by
 unfold hasP hasV tsAt
 rw [List.map_map]
 by_cases h:i < l.length
 ·simp [h,AD.pa,List.any_map,Function.comp_def]
 ·simp [Nat.le_of_not_lt h]
theorem earP_eq (nv:Nat) (left:List Bool) (l:List AD) (i k:Nat):earP nv left (l.map AD.pa) i k = earB nv left l i k:=by
 unfold earP earB earJ shr
 simp only [List.length_map,hasP_eq]
theorem cycP_eq (nv:Nat) (l:List AD) (n:Nat) (left:List Bool):cyc nv l n left = cycP nv (l.map AD.pa) n left:=by
 induction n generalizing left with
 | zero => rfl
 | succ n ih =>
  unfold cyc cycP gone1 goneB pairB
  simp only [List.length_map,earP_eq]
  split <;> rename_i h <;> rw [h]
  simp only [ih]
def refE (s:ByteArray):Int:=if 200 < s.size then 1 else if (rN s).bad ≠ 0 then ((rN s).bad:Int) else if cycP (TA s).2.1.length (TA s).2.2 ((TA s).2.2.length - 1) (List.replicate (TA s).2.2.length true) then 7 else 0
def refP (s:ByteArray):Int:=if 200 < s.size then 0 else if (rN s).bad ≠ 0 then ((rN s).bat:Int) else 0
structure PSt (w wr:World) (B base:Nat) (s:ByteArray) (r:Est.Rd) (vars:List ByteArray) (hv:Value) (l:List AD) (ns:List ByteArray) (ps:List Nat) (nv pv:Value):Prop where
 ast:ASt wr (B + 1) B base s r vars hv l
 nrow:wr.ownsRow (B + 2) 9 1 nv ns.length (strs ns)
 nlt:∀ k,nv.ownBlock = some k -> k < base
 prow:wr.ownsRow (B + 2) 3 1 pv ps.length (ints ps)
 plt:∀ k,pv.ownBlock = some k -> k < base
 below:Below B w wr
 bb:B + 2 <= base
 bs:base <= wr.heap.size
 vs:r.bad = 0 -> ∀ d,d ∈ l -> d.ts.length <= 100 /\ ∀ t,t ∈ d.ts -> t.1 < vars.length
section
variable {w wr w':World} {B base:Nat} {s:ByteArray} {r r':Est.Rd} {vars vars':List ByteArray} {hv:Value} {l l':List AD} {ns:List ByteArray} {ps:List Nat} {nv pv:Value}
theorem HSt.toP (h:HSt w wr B s r ns ps nv pv):PSt w wr B wr.heap.size s r [] (.slice none 0 0) [] ns ps nv pv :=
 ⟨⟨⟨_,⟨h.rd,_,h.q,World.ownsRow_nil _ _ _ _⟩,World.ownsRow_nil _ _ _ _⟩,fun d hd => by simp at hd⟩,h.nrow,fun k hk => (h.nrow.lt k hk).2,h.prow,fun k hk => (h.prow.lt k hk).2,h.below,h.lt,Nat.le_refl _,fun _ d hd => by simp at hd⟩
theorem PSt.keeps {F:Nat -> Option Obj -> Prop} (h:PSt w wr B base s r vars hv l ns ps nv pv) (k:Keeps F wr w') (ha:ASt w' (B + 1) B base s r' vars' hv l') (hF:∀ j o,F j o -> j = B + 1 ∨ j = B ∨ base <= j)
  (hvs:r'.bad = 0 -> ∀ d,d ∈ l' -> d.ts.length <= 100 /\ ∀ t,t ∈ d.ts -> t.1 < vars'.length):PSt w w' B base s r' vars' hv l' ns ps nv pv:=by
 have hb:=h.bb
 have hs:=h.bs
 refine ⟨ha,own_keeps h.nrow k (fun j hj _ _ hk e => ?_),h.nlt,own_keeps h.prow k (fun j hj _ _ hk e => ?_),h.plt,?_,h.bb,Nat.le_trans h.bs k.size,hvs⟩
 ·have:=hF _ _ e;have:=h.nlt j hk;omega
 ·have:=hF _ _ e;have:=h.plt j hk;omega
 ·refine h.below.trans ⟨k.os,k.tape,k.output,k.size,fun j hj => k.block j (by omega) (fun e => ?_)⟩
  have:=hF _ _ e;omega
theorem PSt.kept (h:PSt w wr B base s r vars hv l ns ps nv pv) (hr:Rdr w' (B + 1) s r' (.pointer (some ⟨B,0,none⟩))) (k:Kept (· = B + 1) wr w') (hb:r'.bad = 0 -> r.bad = 0):PSt w w' B base s r' vars hv l ns ps nv pv :=
 h.keeps (F:=fun j _ => j = B + 1) (Keeps.of k (fun _ _ x => x)) (h.ast.kept hr k) (fun _ _ x => Or.inl x) (fun h0 => h.vs (hb h0))
theorem PSt.headed (h:PSt w wr B base s r vars hv l ns ps nv pv) {hb n m:Nat} {xs ys:List Value} {hv':Value} {w1 w2:World} (hrow:wr.ownsRow hb 3 1 hv n xs) (hbb:base <= hb) (hk:Kept (fun _ => False) wr w1) (hg:w1.grownBy w2 hv.ownBlock)
  (ho:w2.ownsRow hb 3 1 hv' m ys) :
  (PSt w (w2.setCell ⟨B,1,none⟩ hv') B base s r vars hv' l ns ps nv pv /\ (w2.setCell ⟨B,1,none⟩ hv').ownsRow hb 3 1 hv' m ys) /\ w2.cell? ⟨B,1,none⟩ = some hv /\ w2.frozen? ⟨B,1,none⟩ = false /\ w2.cell? ⟨B + 1,7,none⟩ = some (.pointer (some ⟨B,0,none⟩)):=by
 obtain ⟨av,hv1,har⟩:=h.ast.ex
 obtain ⟨vv,hq,hvr⟩:=hv1.q
 have hB:=h.bb
 have hbl:∀ k,hv.ownBlock = some k -> hb <= k /\ tag wr.heap[k]? = 3:=fun k hk => ⟨(own_tag hrow hk).1,(own_tag hrow hk).2.2⟩
 have k1:Keeps (fun k _ => hv.ownBlock = some k) wr w2:=(Keeps.of hk (fun _ _ x => x.elim)).trans (Keeps.grown (Keeps.refl _ _) hg (fun k hk => hk))
 have k2:Keeps (fun k _ => k = B) w2 (w2.setCell ⟨B,1,none⟩ hv'):=(Keeps.refl _ _).setCell _ (fun _ => rfl) _
 have nB:hv.ownBlock ≠ some B:=fun e => by have:=(hbl _ e).1;omega
 have nR:hv.ownBlock ≠ some (B + 1):=fun e => by have:=(hbl _ e).1;omega
 have q1:w2.heap[B]? = some (.cells #[vv,hv,av] 97 (0,0)):=(k1.block B (lt_of_block hq) nB).trans hq
 have tq:tag w2.heap[B]? = 97:=by rw [q1];rfl
 have rd1:Rdr w2 (B + 1) s r (.pointer (some ⟨B,0,none⟩)):=hv1.rd.keeps k1 nR
 have row:∀ {v:Value} {bb n z t:Nat} {ys:List Value},t ≠ 97 -> w2.ownsRow bb t z v n ys -> (w2.setCell ⟨B,1,none⟩ hv').ownsRow bb t z v n ys :=
  fun ht hx => own_keeps hx k2 (fun k _ _ h9 _ e => by rw [show k = B from e,tq] at h9;exact ht h9.symm)
 have row1:∀ {v:Value} {bb n z t:Nat} {ys:List Value},t ≠ 3 -> wr.ownsRow bb t z v n ys -> w2.ownsRow bb t z v n ys :=
  fun ht hx => own_keeps hx k1 (fun k _ _ h9 _ e => by have:=(hbl k e).2;rw [h9] at this;exact ht this)
 refine ⟨⟨⟨⟨⟨av,⟨rd1.keeps k2 (fun e => by have e':B + 1 = B:=e;omega),vv,?_,row (by decide) (row1 (by decide) hvr)⟩,row (by decide) (row1 (by decide) har)⟩,fun d hd => row (by decide) (row1 (by decide) (h.ast.ts d hd))⟩,
  row (by decide) (row1 (by decide) h.nrow),h.nlt,row (by decide) (own_keeps h.prow k1 (fun k _ _ _ hk e => ?_)),h.plt,?_,h.bb,?_,h.vs⟩,row (by decide) ho⟩,by simp [World.cell?,q1],by simp [World.frozen?,q1],rd1.cell7⟩
 ·rw [blk_setCell q1 1 hv'];simp [Array.setIfInBounds]
 ·have h1:=h.plt k hk
  have h2:=(hbl k e).1
  omega
 ·have hs:=h.bs
  refine h.below.trans ⟨k1.os,k1.tape,k1.output,by simpa [World.setCell] using k1.size,fun j hj => ?_⟩
  rw [Below.heap_setCell _ _ _ _ (by show j ≠ B;omega)]
  exact k1.block j (by omega) (fun e => by have:=(hbl j e).1;omega)
 ·have:=Nat.le_trans h.bs k1.size
  simpa [World.setCell] using this
theorem PSt.rd (h:PSt w wr B base s r vars hv l ns ps nv pv):Rdr wr (B + 1) s r (.pointer (some ⟨B,0,none⟩)):=h.ast.rd
end
theorem fail_good {r:Est.Rd} {e a:Nat} (h:(r.fail e a).bad = 0) (he:e ≠ 0):False:=by
 unfold Est.Rd.fail at h;split at h
 ·exact he h
 ·rename_i hx;exact hx h
theorem must_good {s:ByteArray} {r:Est.Rd} {k:UInt8} (h:(r.must s k).bad = 0):r.bad = 0 /\ r.isB k = true:=by
 unfold Est.Rd.must at h
 cases hb:r.isB k
 ·rw [hb] at h;exact (fail_good h (by decide)).elim
 ·refine ⟨?_,rfl⟩
  by_cases h0:r.bad = 0
  ·exact h0
  ·rw [isB_bad h0] at hb;cases hb
theorem vix_le (vars:List ByteArray) (t:ByteArray):vix vars t <= vars.length:=List.findIdx_le_length
theorem t_lt {s:ByteArray} {r:Est.Rd} {vars:List ByteArray} (h:(tR s r vars).bad = 0):tV s r vars < ((tVars s r vars).length:Int) /\ vars.length <= (tVars s r vars).length:=by
 cases hb:r.isB 110
 ·by_cases hm:(r.must s 118).bad = 0
  ·rw [(t_var hb hm).2.1,(t_var hb hm).2.2]
   unfold vadd
   have:=vix_le vars r.g.t
   split
   ·exact ⟨by omega,by omega⟩
   ·simp;omega
  ·rw [(t_bad hb hm).1] at h;exact absurd h hm
 ·rw [(t_num hb).2.1,(t_num hb).2.2];exact ⟨by omega,by omega⟩
theorem tl_lt (s:ByteArray) (n:Nat) (r:Est.Rd) (vars:List ByteArray) (ts:List Int) (h:(tl s n r vars ts).1.bad = 0) (hts:∀ v,v ∈ ts -> v < (vars.length:Int)) :
  (∀ v,v ∈ (tl s n r vars ts).2.2 -> v < ((tl s n r vars ts).2.1.length:Int)) /\ vars.length <= (tl s n r vars ts).2.1.length /\ (tl s n r vars ts).2.2.length <= ts.length + n /\ r.bad = 0:=by
 induction n generalizing r vars ts with
 | zero => exact ⟨hts,Nat.le_refl _,by simp [tl],h⟩
 | succ n ih =>
  by_cases hb:r.bad = 0
  ·obtain ⟨r2,hr2⟩:∃ r2,(if 3 <= ts.length then r.fail 3 r.g.a else r) = r2:=⟨_,rfl⟩
   rw [tl_step s n r r2 vars ts hb hr2] at h ⊢
   split at h
   ·rename_i hx
    rw [if_pos hx]
    have hg:(tR s r2 vars).bad = 0:=by
     by_cases h0:(tR s r2 vars).bad = 0
     ·exact h0
     ·rw [isB_bad h0] at hx;cases hx
    obtain ⟨t1,t2⟩:=t_lt hg
    obtain ⟨i1,i2,i3,_⟩:=ih _ _ _ h (by
     intro v hv
     rcases List.mem_append.1 hv with hv | hv
     ·have:=hts v hv;omega
     ·simp at hv;omega)
    exact ⟨i1,by omega,by simp at i3 ⊢;omega,hb⟩
   ·rename_i hx
    rw [if_neg hx]
    obtain ⟨t1,t2⟩:=t_lt h
    refine ⟨?_,t2,by simp,hb⟩
    intro v hv
    rcases List.mem_append.1 hv with hv | hv
    ·have:=hts v hv;simp only;omega
    ·simp at hv;simp only;omega
  ·rw [tl_done s _ r vars ts hb] at h;exact absurd h hb
theorem aFin_good {s:ByteArray} {r:Est.Rd} {l:List AD} {vars:List ByteArray} (h:(aFin s r l vars).bad = 0):(aT s r l.length vars).1.bad = 0 /\ r.bad = 0:=by
 have h1:((aT s r l.length vars).1.must s 41).bad = 0:=by
  unfold aFin aShape at h
  split at h
  ·exact (fail_good h (by decide)).elim
  ·exact h
 have h2:=(must_good h1).1
 refine ⟨h2,?_⟩
 have h3:=(tl_lt s 5 _ vars [] h2 (by intro v hv;simp at hv)).2.2.2
 have h4:=(must_good (must_good h3).1).1
 unfold aR1 at h4
 split at h4
 ·exact (fail_good h4 (by decide)).elim
 ·exact h4
theorem aR_four {s:ByteArray} {r:Est.Rd} {n:Nat} (h4:4 <= n):((aR1 r n).must s 114).bad ≠ 0:=by
 intro h
 obtain ⟨h1,h2⟩:=must_good h
 unfold aR1 at h1 h2
 rw [decide_eq_true h4,Bool.and_true] at h1 h2
 cases hb:r.isB 114
 ·rw [hb] at h2;simp [hb] at h2
 ·rw [hb] at h1;simp at h1;exact (fail_good h1 (by decide)).elim
theorem aFin_four {s:ByteArray} {r:Est.Rd} {l:List AD} {vars:List ByteArray} (h4:4 <= l.length):(aFin s r l vars).bad ≠ 0:=by
 intro h
 have h1:=(aFin_good h).1
 have h3:=(tl_lt s 5 _ vars [] h1 (by intro v hv;simp at hv)).2.2.2
 exact aR_four h4 (must_good h3).1
theorem nl_bad {vars ns:List ByteArray} {ps:List Nat} {r:Est.Rd} (h:r.bad ≠ 0):nl vars ns ps r = r:=by
 cases ns with
 | nil => simp [nl]
 | cons n ns =>
  cases ps with
  | nil => simp [nl]
  | cons p ps => rw [nl,if_neg h]
theorem nl_step {vars ns:List ByteArray} {ps:List Nat} {r:Est.Rd} {i:Nat} (h:r.bad = 0) (hn:i < ns.length) (hp:i < ps.length) :
  nl vars (ns.drop i) (ps.drop i) r = if vars.any (fun v => v.toList == ns[i].toList) then nl vars (ns.drop (i + 1)) (ps.drop (i + 1)) r else r.fail 5 ps[i]:=by
 rw [List.drop_eq_getElem_cons hn,List.drop_eq_getElem_cons hp,nl,if_pos h]
theorem hl_step (s:ByteArray) (n:Nat) (r:Est.Rd) (ns:List ByteArray) (ps:List Nat) (h:r.bad = 0) :
  hl s (n + 1) r ns ps = if (hR s r ns).isB 44 then hl s n ((hR s r ns).is s 44) (ns ++ [r.g.t]) (ps ++ [r.g.a]) else (hR s r ns,ns ++ [r.g.t],ps ++ [r.g.a]):=by
 rw [hl,if_pos h]
theorem fail_bad {r:Est.Rd} {e a:Nat} (h:r.bad ≠ 0):r.fail e a = r:=by unfold Est.Rd.fail;rw [if_neg h]
theorem fail_ne {r:Est.Rd} {e a:Nat} (he:e ≠ 0):(r.fail e a).bad ≠ 0:=by
 unfold Est.Rd.fail;split
 ·exact he
 ·assumption
theorem tl_len (s:ByteArray) (n:Nat) (r:Est.Rd) (vars:List ByteArray) (ts:List Int):(tl s n r vars ts).2.1.length <= vars.length + n:=by
 induction n generalizing r vars ts with
 | zero => simp [tl]
 | succ n ih =>
  by_cases hb:r.bad = 0
  ·obtain ⟨r2,hr2⟩:∃ r2,(if 3 <= ts.length then r.fail 3 r.g.a else r) = r2:=⟨_,rfl⟩
   rw [tl_step s n r r2 vars ts hb hr2]
   have:=tVars_le s r2 vars
   split
   ·have:=ih ((tR s r2 vars).is s 44) (tVars s r2 vars) (ts ++ [tV s r2 vars]);omega
   ·simp only;omega
  ·rw [tl_done s _ r vars ts hb];simp
theorem Ok.tl {s:ByteArray} (n:Nat) {r:Est.Rd} (h:Ok s r) (vars:List ByteArray) (ts:List Int):Ok s (tl s n r vars ts).1:=by
 induction n generalizing r vars ts with
 | zero => exact h
 | succ n ih =>
  by_cases hb:r.bad = 0
  ·obtain ⟨r2,hr2⟩:∃ r2,(if 3 <= ts.length then r.fail 3 r.g.a else r) = r2:=⟨_,rfl⟩
   have h2:Ok s r2:=by rw [← hr2];split;exact h.fail _ _;exact h
   rw [tl_step s n r r2 vars ts hb hr2]
   split
   ·exact ih ((h2.tR vars).is 44) _ _
   ·exact h2.tR vars
  ·rw [tl_done s _ r vars ts hb];exact h
theorem Ok.aFin {s:ByteArray} {r:Est.Rd} (h:Ok s r) (l:List AD) (vars:List ByteArray):Ok s (aFin s r l vars):=by
 have h1:Ok s (aR1 r l.length):=by unfold aR1;split;exact h.fail _ _;exact h
 have h2:Ok s ((aT s r l.length vars).1.must s 41):=(Ok.tl 5 ((h1.must 114).must 40) vars []).must 41
 unfold YtondkinefmjpjaaGreat.K.aFin aShape;split;exact h2.fail _ _;exact h2
theorem PSt.atomed {w wr w':World} {B base:Nat} {s:ByteArray} {r:Est.Rd} {vars:List ByteArray} {hv:Value} {l:List AD} {ns:List ByteArray} {ps:List Nat} {nv pv:Value}
  (h:PSt w wr B base s r vars hv l ns ps nv pv) (hp:APost wr w' (B + 1) B base s r vars hv l):∃ d:AD,PSt w w' B base s (aFin s r l vars) (aT s r l.length vars).2.1 hv (l ++ [d]) ns ps nv pv /\ d.pa = ⟨(aR1 r l.length).g.t,(aT s r l.length vars).2.2,r.g.a,aC s r l.length vars⟩:=by
 obtain ⟨⟨d,h1,h2,h3,h4,h5⟩,hk⟩:=hp
 refine ⟨d,h.keeps hk h1 ?_ ?_,by simp [AD.pa,h2,h3,h4,h5]⟩
 ·rintro j o (e | e | ⟨e,_⟩)
  ·exact Or.inl e
  ·exact Or.inr (Or.inl e)
  ·exact Or.inr (Or.inr e)
 ·intro hb d' hd'
  obtain ⟨g1,g2⟩:=aFin_good hb
  obtain ⟨t1,t2,t3,_⟩:=tl_lt s 5 _ vars [] g1 (by intro v hv;simp at hv)
  rcases List.mem_append.1 hd' with hd' | hd'
  ·obtain ⟨i1,i2⟩:=h.vs g2 d' hd'
   refine ⟨i1,fun t ht => ?_⟩
   have:=i2 t ht
   have t2':vars.length <= (aT s r l.length vars).2.1.length:=t2
   omega
  ·simp only [List.mem_singleton] at hd'
   subst hd'
   refine ⟨?_,fun t ht => ?_⟩
   ·have:(d'.ts.map Prod.fst).length = (aT s r l.length vars).2.2.length:=by rw [h3]
    have t3':(aT s r l.length vars).2.2.length <= 0 + 5:=t3
    simp at this;omega
   ·refine t1 t.1 ?_
    show t.1 ∈ (aT s r l.length vars).2.2
    rw [← h3];exact List.mem_map.2 ⟨t,ht,rfl⟩
structure AInv (w wr:World) (B base:Nat) (s:ByteArray) (TT:Est.Rd × List ByteArray × List PA) (r:Est.Rd) (vars:List ByteArray) (l:List AD) (ns:List ByteArray) (ps:List Nat) (nv pv:Value):Prop where
 st:PSt w wr B base s r vars (.slice none 0 0) l ns ps nv pv
 ok:Ok s r
 one:1 <= l.length
 len:l.length <= 5
 full:l.length = 5 -> r.bad ≠ 0
 vlen:vars.length <= 5 * l.length
 tt:TT = al s (6 - l.length) (r,vars,l.map AD.pa)
structure Veil (p:Prop):Prop where
 out:p
structure Cut2 (P:Prop) where
 g1:Prop
 g2:Prop
 pf:Veil g1 -> Veil g2 -> P
def cutA (s:ByteArray) (w:World) (hs:s.size <= maxLen) (h200:¬ 200 < s.size):Cut2 (Calls Tryz.prog 62 #[.string s] w fun x w' => (∃ q,x = .returned (.tuple #[q,.int .i64 (refE s),.int .i64 (refP s)]) /\ (refE s = 0 -> RQ s w' q)) /\ Below w.heap.size w w'):=by
 refine' Cut2.mk _ _ ?pf
 case pf =>
  intro V1 V2
  have HS:Hid (s.size <= maxLen):=hs
  unfold maxLen at hs
  have R0:Rdr ((w.alloc (.cells #[.slice none 0 0,.slice none 0 0,.slice none 0 0] 97)).alloc (.cells #[.string s,.int .i64 0,.int .u8 0,.string ⟨#[]⟩,.int .i64 0,.int .i64 0,.int .i64 0,.pointer (some ⟨w.heap.size,0,none⟩)] 187)) (w.heap.size + 1) s r00 (.pointer (some ⟨w.heap.size,0,none⟩)):=by
   refine ⟨?_⟩
   have:=heap_alloc_new (w.alloc (.cells #[.slice none 0 0,.slice none 0 0,.slice none 0 0] 97)) (.cells #[.string s,.int .i64 0,.int .u8 0,.string ⟨#[]⟩,.int .i64 0,.int .i64 0,.int .i64 0,.pointer (some ⟨w.heap.size,0,none⟩)] 187)
   simp only [World.size_alloc] at this
   exact this
  have H0:HSt w ((w.alloc (.cells #[.slice none 0 0,.slice none 0 0,.slice none 0 0] 97)).alloc (.cells #[.string s,.int .i64 0,.int .u8 0,.string ⟨#[]⟩,.int .i64 0,.int .i64 0,.int .i64 0,.pointer (some ⟨w.heap.size,0,none⟩)] 187)) w.heap.size s r00 [] [] (.slice none 0 0) (.slice none 0 0) :=
   ⟨R0,(Below.heap_alloc _ _ _ (by simp)).trans (heap_alloc_new _ _),World.ownsRow_nil _ _ _ _,World.ownsRow_nil _ _ _ _,((Below.refl _ _).alloc (Nat.le_refl _) _).alloc (by simp) _⟩
  go_enter Tryz.func62,Tryz.ntmps62
  go_wp2_with fail
  refine (next_any (w.heap.size + 1) s r00 _ _ R0 HS.out (Nat.zero_le _)).mono ?_
  rintro e w1 ⟨rfl,hr1,hk1⟩
  have H1:=H0.kept hr1 hk1
  clear H0 R0 hr1 hk1
  have hok0:Ok s (r00.next s):=Ok.next (Ok.r00 s)
  go_wp2_with fail
  refine (must_any (w.heap.size + 1) s _ _ 40 40 _ H1.rd rfl HS.out hok0.1).mono ?_
  rintro e w2 ⟨rfl,hr2,hk2⟩
  have H2:=H1.kept hr2 hk2
  have hok1:=Ok.r1 s
  change HSt w w2 w.heap.size s (r1 s) [] [] (.slice none 0 0) (.slice none 0 0) at H2
  clear H1 hr2 hk2 hok0
  generalize hR1:r1 s = rr1 at H2 hok1
  have HR1:Hid (r1 s = rr1):=hR1
  clear hR1
  have d5:=H2.rd.cell5
  have d2:=H2.rd.cell2
  go_upto_region 8 with fail
  go_cut [8] (fun m wx => m = .bool (decide (rr1.bad = 0) && !(rr1.g.k == 41)) /\ wx = w2)
  case first =>
   cases hb:((rr1.bad:Int) == 0)
   ·have HB:Hid (decide (rr1.bad = 0) = false):=decide_eq_false (by have:=beq_eq_false_iff_ne.1 hb;omega)
    go_wp2
    go_meet
    exact ⟨val_bool (by rw [HB.out];rfl),rfl⟩
   ·have HB:Hid (decide (rr1.bad = 0) = true):=decide_eq_true (by have:=beq_iff_eq.1 hb;omega)
    go_wp2
    go_meet
    exact ⟨val_bool (by rw [HB.out,Bool.true_and];exact byte_ne rr1.g.k 41),rfl⟩
  case rest =>
   obtain ⟨rfl,rfl⟩:=hcut
   obtain ⟨w2,hw2⟩:∃ w2:World,w2 = wc:=⟨_,rfl⟩
   subst hw2
   obtain ⟨THH,hTH⟩:∃ t,TH s = t:=⟨_,rfl⟩
   have HTH:Hid (THH = if (decide (rr1.bad = 0) && !(rr1.g.k == 41)) = true then hl s 8 rr1 [] [] else (rr1,[],[])):=by
    unfold Hid;rw [← hTH,TH,HR1.out]
    by_cases h1:rr1.bad = 0 <;> by_cases h2:rr1.g.k = 41 <;> simp [h1,h2]
   have HTH0:Hid (TH s = THH):=hTH
   clear hTH d5 d2
   obtain ⟨i9,hi9,hy0,hy1,hy2⟩:=info_parts Tryz.info9
   have HI9:Hid _:=hi9
   have HY0:Hid _:=hy0
   have HY1:Hid _:=hy1
   have HY2:Hid _:=hy2
   obtain ⟨i3,hi3,hx0,hx1,hx2⟩:=info_parts Tryz.info3
   have HI3:Hid _:=hi3
   have HX0:Hid _:=hx0
   have HX1:Hid _:=hx1
   have HX2:Hid _:=hx2
   clear hi9 hy0 hy1 hy2 hi3 hx0 hx1 hx2
   go_upto_block 0 with fail
   go_cut [6,7,8,9,10,11] (fun nv pv _ _ _ _ wx => ∃ r ns ps,HInv w wx w.heap.size s THH false r ns ps nv pv)
   case first =>
    rename_i Q' h2 K a2 J K' a1 a0
    clear a2 K
    revert HS Q' h2 rr1 hok1 HR1 u16 u17 u18 u19 u20 u21 u22 u23 u24 u25 u26 u27 u28 u29 u30 u31 u32 u33 u34 u35 u36 u37 u38 u39 u40 u41 u42 u43 u44 u45 u46 u47 u48 u49 u50 u51 u52 u53 u54 u55 u56 u57 u58 u59 u60 u61 u62 u63 u64 u65 u66 u67 u68 u69 u70 u71 u72 u73 u74 u75 u76 u77 u78 u79 u80 u81 u82 u83 u84 u85 u86 u87 u88 u89 u90 u91 u92 u93 u94 u95 u96 u97 u98 u99 u100 u101 u102 u103 u104 u105 u106 u107 u108 u109 u110 u111 u112 u113 u114 u115 u116 u117 u118 u119 u120 u121 u122 u123 u124 u125 u126 u127 u128 u129 u130 u131 u132 u133 u134 u135 u136 u137 u138 u139 u140 u141 u142 u143 u144 u145 u146 u147 u148 u149 u150 u151 u152 u153 u154 u155 u156 u157 u158 u159 u160 u161 u162 u163 u164 u165 u166 u167 u168 u169 u170 u171 u172 u173 u174 u175 u176 u177 u178 u179 u180 u181 u182 u183 u184 u185 u186 u187 u188 u189 u190 u191 u192 u193 u194 u195 u196 u197 u198 u199 u200 u201 u202 u203 u204 u205 u206 u207 u208 u209 u210 u211 u212 u213 u214 u215 u216 u217 u218 u219 u220 w2 H2 THH HTH HTH0 i9 HI9 HY0 HY1 HY2 i3 HI3 HX0 HX1 HX2 J K' a1 a0
    exact V1.out
   case rest =>
    rename_i K a2
    clear HTH
    revert HS u16 u17 u18 u19 u20 u21 u22 u23 u24 u25 u26 u27 u28 u29 u30 u31 u32 u33 u34 u35 u36 u37 u38 u39 u40 u101 u102 u103 u104 u105 u106 u107 u108 u109 u110 u111 u112 u113 u114 u115 u116 u117 u118 u119 u120 u121 u122 u123 u124 u125 u126 u127 u128 u129 u130 u131 u132 u133 u134 u135 u136 u137 u138 u139 u140 u141 u142 u143 u144 u145 u146 u147 u148 u149 u150 u151 u152 u153 u154 u155 u156 u157 u158 u159 u160 u161 u162 u163 u164 u165 u166 u167 u168 u169 u170 u171 u172 u173 u174 u175 u176 u177 u178 u179 u180 u181 u182 u183 u184 u185 u186 u187 u188 u189 u190 u191 u192 u193 u194 u195 u196 u197 u198 u199 u200 u201 u202 u203 u204 u205 u206 u207 u208 u209 u210 u211 u212 u213 u214 u215 u216 u217 u218 u219 u220 THH HTH0 i3 HI3 HX0 HX1 HX2 K a2 wc u6 u7 u8 u9 u10 u11 u41 u42 u43 u44 u45 u46 u47 u48 u49 u50 u51 u52 u53 u54 u55 u56 u57 u58 u59 u60 u61 u62 u63 u64 u65 u66 u67 u68 u69 u70 u71 u72 u73 u74 u75 u76 u77 u78 u79 u80 u81 u82 u83 u84 u85 u86 u87 u88 u89 u90 u91 u92 u93 u94 u95 u96 u97 u98 u99 u100 hcut
    exact V2.out
theorem head_loop (s:ByteArray) (w:World) (hs:s.size <= maxLen) (h200:¬ 200 < s.size):(cutA s w hs h200).g1:=by
 intro HS Q' h2 rr1 hok1 HR1 u16 u17 u18 u19 u20 u21 u22 u23 u24 u25 u26 u27 u28 u29 u30 u31 u32 u33 u34 u35 u36 u37 u38 u39 u40 u41 u42 u43 u44 u45 u46 u47 u48 u49 u50 u51 u52 u53 u54 u55 u56 u57 u58 u59 u60 u61 u62 u63 u64 u65 u66 u67 u68 u69 u70 u71 u72 u73 u74 u75 u76 u77 u78 u79 u80 u81 u82 u83 u84 u85 u86 u87 u88 u89 u90 u91 u92 u93 u94 u95 u96 u97 u98 u99 u100 u101 u102 u103 u104 u105 u106 u107 u108 u109 u110 u111 u112 u113 u114 u115 u116 u117 u118 u119 u120 u121 u122 u123 u124 u125 u126 u127 u128 u129 u130 u131 u132 u133 u134 u135 u136 u137 u138 u139 u140 u141 u142 u143 u144 u145 u146 u147 u148 u149 u150 u151 u152 u153 u154 u155 u156 u157 u158 u159 u160 u161 u162 u163 u164 u165 u166 u167 u168 u169 u170 u171 u172 u173 u174 u175 u176 u177 u178 u179 u180 u181 u182 u183 u184 u185 u186 u187 u188 u189 u190 u191 u192 u193 u194 u195 u196 u197 u198 u199 u200 u201 u202 u203 u204 u205 u206 u207 u208 u209 u210 u211 u212 u213 u214 u215 u216 u217 u218 u219 u220 w2 H2 THH HTH HTH0 i9 HI9 HY0 HY1 HY2 i3 HI3 HX0 HX1 HX2 J K' a1 a0
 unfold maxLen at hs
 go_wp2_with fail
 go_loopw [6,7,8,9,10,11] (fun nv pv mv _ _ _ wr => ∃ m r ns ps,mv = .bool m /\ HInv w wr w.heap.size s THH m r ns ps nv pv) (fun nv _ _ _ _ _ _ => 8 - slen (some nv))
 case atStart => exact ⟨_,_,[],[],rfl,H2,hok1,rfl,by simp,by simp,by simpa using HTH.out⟩
 case round =>
  obtain ⟨m,r,ns,ps,rfl,hI⟩:=hrel
  have H:=hI.st
  have d5:=H.rd.cell5
  cases m
  ·go_wp2_with fail
   go_meet
   exact ⟨r,ns,ps,hI⟩
  ·cases hbad:((r.bad:Int) == 0)
   ·have HBAD:Hid (r.bad ≠ 0):=by have:=beq_eq_false_iff_ne.1 hbad;unfold Hid;omega
    go_wp2_with fail
    go_meet
    exact ⟨r,ns,ps,⟨hI.st,hI.ok,hI.same,hI.len,hI.full,by rw [hI.th];simp [hl_done _ _ _ _ _ HBAD.out]⟩⟩
   ·have HBAD:Hid (r.bad = 0):=by have:=beq_iff_eq.1 hbad;unfold Hid;omega
    have hlen:ns.length <= 6:=by
     rcases Nat.lt_or_ge ns.length 7 with h | h
     ·omega
     ·exact absurd HBAD.out (hI.full (by have:=hI.len;omega))
    have hsame:Hid (ps.length = ns.length):=hI.same
    have hps6:ps.length <= 6:=by rw [hI.same];exact hlen
    have HTL:Hid (THH = if (hR s r ns).isB 44 then hl s (7 - ns.length) ((hR s r ns).is s 44) (ns ++ [r.g.t]) (ps ++ [r.g.a]) else (hR s r ns,ns ++ [r.g.t],ps ++ [r.g.a])):=by
     have:=hI.th
     rw [if_pos rfl,show 8 - ns.length = (7 - ns.length) + 1 by omega,hl_step s _ r _ _ HBAD.out] at this
     exact this
    have hok:=hI.ok
    obtain ⟨na,ncap,hnv⟩:=own_form H.nrow
    obtain ⟨pa,pcap,hpv⟩:=own_form H.prow
    subst hnv
    subst hpv
    have d4:=H.rd.cell4
    clear hI
    go_wp2_with fail
    refine (must_any (w.heap.size + 1) s r _ 118 118 _ H.rd rfl HS.out hok.1).mono ?_
    rintro e w3 ⟨rfl,hr3,hk3⟩
    have H3:=H.kept hr3 hk3
    have hok3:=hok.must 118
    clear d4 d5 H hr3 hk3 hbad
    generalize hr3':r.must s 118 = r3 at H3 hok3
    have HR3:Hid (r.must s 118 = r3):=hr3'
    clear hr3'
    go_upto_block 2 with fail
    go_cut [11] (fun _ wx => HSt w wx w.heap.size s (nShape r3 ns r.g.t r.g.a ns.length) ns ps (.slice na ns.length ncap) (.slice pa ps.length pcap))
    case first =>
     go_wp2_with fail
     go_loopw [11] (fun iv wr => ∃ k:Nat,k <= ns.length /\ iv = .int .i64 k /\ HSt w wr w.heap.size s (nShape r3 ns r.g.t r.g.a k) ns ps (.slice na ns.length ncap) (.slice pa ps.length pcap)) (fun iv _ => ns.length - (intOf iv).toNat)
     case atStart => exact ⟨0,Nat.zero_le _,rfl,H3⟩
     case round =>
      obtain ⟨k,hk,rfl,H⟩:=hrel
      have d5:=H.rd.cell5
      generalize hr6:nShape r3 ns r.g.t r.g.a k = r6 at H d5
      have HR6:Hid (nShape r3 ns r.g.t r.g.a k = r6):=hr6
      clear hr6
      by_cases hlt:k < ns.length
      ·cases hbad:((r6.bad:Int) == 0)
       ·have HBAD6:Hid (r6.bad ≠ 0):=by have:=beq_eq_false_iff_ne.1 hbad;unfold Hid;omega
        go_wp2_with fail
        go_meet
        rw [nShape_done (k:=k) (by rw [HR6.out];exact HBAD6.out),HR6.out];exact H
       ·have HBAD6:Hid (r6.bad = 0):=by have:=beq_iff_eq.1 hbad;unfold Hid;omega
        obtain ⟨g,cap',he⟩:=own_some H.nrow (by omega)
        simp only [Value.slice.injEq,true_and] at he
        obtain ⟨rfl,rfl⟩:=he
        have hc:=H.nrow.cellAt k (by omega)
        simp only [strs,List.getElem?_map,List.getElem?_eq_getElem hlt,Option.map_some] at hc
        have HST:Hid (nShape r3 ns r.g.t r.g.a (k + 1) = if (ns[k].toList == r.g.t.toList) then r6.fail 4 r.g.a else r6):=by
         unfold Hid;rw [nShape_step hlt (by rw [HR6.out];exact HBAD6.out),HR6.out]
        cases hc1:(ns[k].toList == r.g.t.toList)
        ·go_wp2_with fail
         go_roundw
         case rel => exact ⟨k + 1,by omega,by go_num,by rw [HST.out,hc1];exact H⟩
         case measure => simp [intOf];omega
        ·go_wp2_with fail
         refine (fail_at (w.heap.size + 1) s r6 _ 4 4 r.g.a _ H.rd rfl).mono ?_
         rintro e w8 ⟨rfl,hr8,hk8⟩
         have H8:=H.kept hr8 hk8
         go_wp2
         go_roundw
         case rel => exact ⟨k + 1,by omega,by go_num,by rw [HST.out,hc1];exact H8⟩
         case measure => simp [intOf];omega
      ·go_wp2_with fail
       go_meet
       have e:nShape r3 ns r.g.t r.g.a ns.length = r6:=by
        have hkk:ns.length = k:=by omega
        rw [hkk];exact HR6.out
       rw [e];exact H
    case rest =>
     have H4:=hcut
     obtain ⟨w4,hw4⟩:∃ w4:World,w4 = wc:=⟨_,rfl⟩
     subst hw4
     clear hcut H3
     have hok4:Ok s (nShape r3 ns r.g.t r.g.a ns.length):=hok3.nShape _ _ _ _
     generalize hr4:nShape r3 ns r.g.t r.g.a ns.length = r4 at H4 hok4
     have HR4:Hid (nShape r3 ns r.g.t r.g.a ns.length = r4):=hr4
     clear hr4
     have HHR:Hid (hR s r ns = if 6 <= ns.length then r4.fail 3 r.g.a else r4):=by unfold Hid hR;rw [HR3.out,HR4.out]
     have d5:=H4.rd.cell5
     go_upto_region 17 with fail
     go_cut [87] (fun c wx => c = .bool (decide (r4.bad = 0) && decide (6 <= ns.length)) /\ wx = w4)
     case first =>
      cases hb:((r4.bad:Int) == 0)
      ·have HB:Hid (decide (r4.bad = 0) = false):=decide_eq_false (by have:=beq_eq_false_iff_ne.1 hb;omega)
       go_wp2
       go_meet
       exact ⟨val_bool (by rw [HB.out];rfl),rfl⟩
      ·have HB:Hid (decide (r4.bad = 0) = true):=decide_eq_true (by have:=beq_iff_eq.1 hb;omega)
       go_wp2
       go_meet
       exact ⟨val_bool (by rw [HB.out,Bool.true_and];exact decide_eq_decide.2 (by omega)),rfl⟩
     case rest =>
      obtain ⟨rfl,rfl⟩:=hcut
      go_upto_if 87 with fail
      go_cut [] (fun wx => HSt w wx w.heap.size s (hR s r ns) ns ps (.slice na ns.length ncap) (.slice pa ps.length pcap))
      case first =>
       cases hb:(decide (r4.bad = 0) && decide (6 <= ns.length))
       ·have HE:Hid (hR s r ns = r4):=by
         unfold Hid;rw [HHR.out]
         by_cases h6:6 <= ns.length
         ·have:¬ r4.bad = 0:=by intro h0;simp [h0,h6] at hb
          rw [if_pos h6,fail_bad this]
         ·rw [if_neg h6]
        go_wp2
        go_meet
        rw [HE.out];exact H4
       ·have HE:Hid (hR s r ns = r4.fail 3 r.g.a):=by
         unfold Hid;rw [HHR.out]
         simp only [Bool.and_eq_true,decide_eq_true_eq] at hb
         rw [if_pos hb.2]
        go_wp2_with fail
        refine (fail_at (w.heap.size + 1) s r4 _ 3 3 r.g.a _ H4.rd rfl).mono ?_
        rintro e w8 ⟨rfl,hr8,hk8⟩
        have H8:=H4.kept hr8 hk8
        go_wp2
        go_meet
        rw [HE.out];exact H8
      case rest =>
       have H5:=hcut
       obtain ⟨w5,hw5⟩:∃ w5:World,w5 = wc:=⟨_,rfl⟩
       subst hw5
       have hok5:=hok.hR ns
       have hl5:=H5.lt
       clear hcut H4 d5
       go_wp2_with (first | (at_builtin;refine wpList_append_own _ rfl (.tmp 91) (.tmp 93) 43 rfl (w.heap.size + 2) 9 i9 (.string ⟨#[]⟩) 1 16 Tryz.underlying43 HI9.out HY0.out HY1.out HY2.out rfl (by decide) (.slice na ns.length ncap) _ _ rfl (H5.nrow.alloc _) ⟨w5.heap.size,0,none⟩ 1 1 [.string r.g.t] rfl rfl (one_new _ _ _) (by intro u hu;simp at hu;subst hu;rfl) (by unfold maxLen;omega) (by omega) (by simp;omega) ?_;intro v6 w6 hown6 hgrow6 _;obtain ⟨na6,ncap6,rfl⟩:=own_form hown6;have H6:=H5.named (v:=r.g.t) ((Kept.refl (fun _ => False) w5).alloc _) hgrow6 hown6;have hl6:=H6.lt;clear hown6 hgrow6) | (at_builtin;refine wpList_append_own _ rfl (.tmp 95) (.tmp 97) 28 rfl (w.heap.size + 2) 3 i3 (.int .i64 0) 1 8 Tryz.underlying28 HI3.out HX0.out HX1.out HX2.out rfl (by decide) (.slice pa ps.length pcap) _ _ rfl (H6.prow.alloc _) ⟨w6.heap.size,0,none⟩ 1 1 [.int .i64 r.g.a] rfl rfl (one_new _ _ _) (by intro u hu;simp at hu;subst hu;rfl) (by unfold maxLen;omega) (by omega) (by simp;omega) ?_;intro v7 w7 hown7 hgrow7 _;obtain ⟨pa7,pcap7,rfl⟩:=own_form hown7;have H7:=H6.placed (v:=r.g.a) ((Kept.refl (fun _ => False) w6).alloc _) hgrow7 hown7;clear hown7 hgrow7))
       go_wp2_with fail
       refine (is_any (w.heap.size + 1) s _ _ 44 44 _ H7.rd rfl HS.out hok5.1).mono ?_
       rintro e w8 ⟨rfl,hr8,hk8⟩
       have H8:=H7.kept hr8 hk8
       go_wp2
       go_roundw
       case rel =>
        refine ⟨_,_,ns ++ [r.g.t],ps ++ [r.g.a],rfl,H8,hok5.is 44,by rw [List.length_append,List.length_append,hsame.out];rfl,by simp;omega,?_,?_⟩
        ·intro h7
         have h6:6 <= ns.length:=by simp at h7;omega
         have hb5:(hR s r ns).bad ≠ 0:=by rw [HHR.out,if_pos h6];exact fail_ne (by decide)
         unfold Est.Rd.is;rw [isB_bad hb5];exact hb5
        ·rw [HTL.out]
         cases hx:(hR s r ns).isB 44
         ·simp [Est.Rd.is,hx]
         ·simp [show 8 - (ns.length + 1) = 7 - ns.length by omega]
       case measure => simp [slen];omega
def cutC (s:ByteArray) (w:World) (hs:s.size <= maxLen) (h200:¬ 200 < s.size):Cut2 (cutA s w hs h200).g2:=by
 refine' Cut2.mk _ _ ?pf
 case pf =>
  intro V1 V2
  intro HS u16 u17 u18 u19 u20 u21 u22 u23 u24 u25 u26 u27 u28 u29 u30 u31 u32 u33 u34 u35 u36 u37 u38 u39 u40 u101 u102 u103 u104 u105 u106 u107 u108 u109 u110 u111 u112 u113 u114 u115 u116 u117 u118 u119 u120 u121 u122 u123 u124 u125 u126 u127 u128 u129 u130 u131 u132 u133 u134 u135 u136 u137 u138 u139 u140 u141 u142 u143 u144 u145 u146 u147 u148 u149 u150 u151 u152 u153 u154 u155 u156 u157 u158 u159 u160 u161 u162 u163 u164 u165 u166 u167 u168 u169 u170 u171 u172 u173 u174 u175 u176 u177 u178 u179 u180 u181 u182 u183 u184 u185 u186 u187 u188 u189 u190 u191 u192 u193 u194 u195 u196 u197 u198 u199 u200 u201 u202 u203 u204 u205 u206 u207 u208 u209 u210 u211 u212 u213 u214 u215 u216 u217 u218 u219 u220 THH HTH0 i3 HI3 HX0 HX1 HX2 K a2 wc u6 u7 u8 u9 u10 u11 u41 u42 u43 u44 u45 u46 u47 u48 u49 u50 u51 u52 u53 u54 u55 u56 u57 u58 u59 u60 u61 u62 u63 u64 u65 u66 u67 u68 u69 u70 u71 u72 u73 u74 u75 u76 u77 u78 u79 u80 u81 u82 u83 u84 u85 u86 u87 u88 u89 u90 u91 u92 u93 u94 u95 u96 u97 u98 u99 u100 hcut
  unfold maxLen at hs
  obtain ⟨r,ns,ps,hI⟩:=hcut
  have HF:Hid (THH = (r,ns,ps)):=by have:=hI.th;simpa [Hid] using this
  have P0:=hI.st.toP
  have hok:=hI.ok
  have hnl:=hI.len
  obtain ⟨na,ncap,hnv⟩:=own_form hI.st.nrow
  obtain ⟨pa,pcap,hpv⟩:=own_form hI.st.prow
  have hsame:Hid (ps.length = ns.length):=hI.same
  have hpl:ps.length <= 7:=by rw [hsame.out];exact hnl
  obtain ⟨base,hbase⟩:∃ b,wc.heap.size = b:=⟨_,rfl⟩
  rw [hbase] at P0
  clear hbase hI
  subst hnv
  subst hpv
  go_wp2_with fail
  refine (must_any (w.heap.size + 1) s r _ 41 41 _ P0.rd rfl HS.out hok.1).mono ?_
  rintro e w3 ⟨rfl,hr3,hk3⟩
  have P3:=P0.kept hr3 hk3 (fun h => (must_good h).1)
  clear P0 hr3 hk3
  go_wp2_with fail
  refine (must_any (w.heap.size + 1) s _ _ 58 58 _ P3.rd rfl HS.out (hok.must 41).1).mono ?_
  rintro e w4 ⟨rfl,hr4,hk4⟩
  have P4:=P3.kept hr4 hk4 (fun h => (must_good h).1)
  have hok4:=(hok.must 41).must 58
  clear P3 hr4 hk4
  generalize hr4:(r.must s 41).must s 58 = r4 at P4 hok4
  have HR4:Hid ((r.must s 41).must s 58 = r4):=hr4
  clear hr4
  obtain ⟨TT,hTT⟩:∃ t,TA s = t:=⟨_,rfl⟩
  have HTT:Hid (TT = al s 5 (aStep s (r4,[],[]))):=by unfold Hid;rw [← hTT,TA,HTH0.out,HF.out,← HR4.out]
  have HTT0:Hid (TA s = TT):=hTT
  clear hTT
  go_wp2_with fail
  refine (atom_any (w.heap.size + 1) w.heap.size base s r4 [] _ [] _ P4.ast (by simp) (by simp) P4.bs HS.out hok4).mono ?_
  rintro e w5 ⟨rfl,hap⟩
  obtain ⟨d,P5,hd⟩:=P4.atomed hap
  have hvl:(aT s r4 0 []).2.1.length <= 5 * (([]:List AD) ++ [d]).length:=by
   have:=tl_len s 5 (aR3 s r4 0) [] [];simpa [aT] using this
  have htt:TT = al s (6 - (([]:List AD) ++ [d]).length) (aFin s r4 [] [],(aT s r4 0 []).2.1,(([]:List AD) ++ [d]).map AD.pa):=by
   rw [HTT.out,aFin_eq];simp [aStep,hd]
  have A5:=AInv.mk P5 (hok4.aFin [] []) (by simp) (by simp) (by simp) hvl htt
  clear hvl htt
  clear P4 hap P5 hd
  go_upto_block 4 with fail
  go_cut [] (fun wx => ∃ r vars l,AInv w wx w.heap.size base s TT r vars l ns ps (.slice na ns.length ncap) (.slice pa ps.length pcap) /\ r.isB 44 = false)
  case first =>
   rename_i Q' K a2 J K' a1 a0
   clear a2 K HTT HR4 HTT0 HF HTH0
   revert HS u16 u17 u18 u19 u20 u21 u22 u23 u24 u25 u26 u27 u28 u29 u30 u31 u32 u33 u34 u35 u36 u37 u38 u39 u40 u101 u102 u103 u104 u105 u106 u107 u108 u109 u110 u111 u112 u113 u114 u115 u116 u117 u118 u119 u120 u121 u122 u123 u124 u125 u126 u127 u128 u129 u130 u131 u132 u133 u134 u135 u136 u137 u138 u139 u140 u141 u142 u143 u144 u145 u146 u147 u148 u149 u150 u151 u152 u153 u154 u155 u156 u157 u158 u159 u160 u161 u162 u163 u164 u165 u166 u167 u168 u169 u170 u171 u172 u173 u174 u175 u176 u177 u178 u179 u180 u181 u182 u183 u184 u185 u186 u187 u188 u189 u190 u191 u192 u193 u194 u195 u196 u197 u198 u199 u200 u201 u202 u203 u204 u205 u206 u207 u208 u209 u210 u211 u212 u213 u214 u215 u216 u217 u218 u219 u220 u8 u9 u10 u11 u41 u42 u43 u44 u45 u46 u47 u48 u49 u50 u51 u52 u53 u54 u55 u56 u57 u58 u59 u60 u61 u62 u63 u64 u65 u66 u67 u68 u69 u70 u71 u72 u73 u74 u75 u76 u77 u78 u79 u80 u81 u82 u83 u84 u85 u86 u87 u88 u89 u90 u91 u92 u93 u94 u95 u96 u97 u98 u99 u100 r ns ps hok hnl na ncap pa pcap hsame hpl base Q' r4 hok4 TT w5 d A5 J K' a1 a0
   exact V1.out
  case rest =>
   rename_i K a2
   clear HTT HR4 A5
   revert HS u16 u17 u18 u19 u20 u21 u22 u23 u24 u25 u26 u27 u28 u29 u30 u31 u32 u33 u34 u35 u36 u37 u38 u39 u40 u101 u102 u103 u104 u105 u106 u111 u112 u113 u114 u115 u116 u117 u118 u119 u120 u121 u122 u123 u124 u125 u126 u127 u128 u129 u130 u131 u132 u133 u134 u135 u136 u137 u138 u139 u140 u141 u142 u143 u144 u145 u146 u147 u148 u149 u150 u151 u152 u153 u154 u155 u156 u157 u158 u159 u160 u161 u162 u163 u164 u165 u166 u167 u168 u169 u170 u171 u172 u173 u174 u175 u176 u177 u178 u179 u180 u181 u182 u183 u184 u185 u186 u187 u188 u189 u190 u191 u192 u193 u194 u195 u196 u197 u198 u199 u200 u201 u202 u203 u204 u205 u206 u207 u208 u209 u210 u211 u212 u213 u214 u215 u216 u217 u218 u219 u220 THH HTH0 i3 HI3 HX0 HX1 HX2 u8 u9 u10 u11 u41 u42 u43 u44 u45 u46 u47 u48 u49 u50 u51 u52 u53 u54 u55 u56 u57 u58 u59 u60 u61 u62 u63 u64 u65 u66 u67 u68 u69 u70 u71 u72 u73 u74 u75 u76 u77 u78 u79 u80 u81 u82 u83 u84 u85 u86 u87 u88 u89 u90 u91 u92 u93 u94 u95 u96 u97 u98 u99 u100 r ns ps HF hok hnl na ncap pa pcap hsame hpl base TT HTT0 K a2 wc u107 u108 u109 u110 hcut
   exact V2.out
theorem atoms_loop (s:ByteArray) (w:World) (hs:s.size <= maxLen) (h200:¬ 200 < s.size):(cutC s w hs h200).g1:=by
 intro HS u16 u17 u18 u19 u20 u21 u22 u23 u24 u25 u26 u27 u28 u29 u30 u31 u32 u33 u34 u35 u36 u37 u38 u39 u40 u101 u102 u103 u104 u105 u106 u107 u108 u109 u110 u111 u112 u113 u114 u115 u116 u117 u118 u119 u120 u121 u122 u123 u124 u125 u126 u127 u128 u129 u130 u131 u132 u133 u134 u135 u136 u137 u138 u139 u140 u141 u142 u143 u144 u145 u146 u147 u148 u149 u150 u151 u152 u153 u154 u155 u156 u157 u158 u159 u160 u161 u162 u163 u164 u165 u166 u167 u168 u169 u170 u171 u172 u173 u174 u175 u176 u177 u178 u179 u180 u181 u182 u183 u184 u185 u186 u187 u188 u189 u190 u191 u192 u193 u194 u195 u196 u197 u198 u199 u200 u201 u202 u203 u204 u205 u206 u207 u208 u209 u210 u211 u212 u213 u214 u215 u216 u217 u218 u219 u220 u8 u9 u10 u11 u41 u42 u43 u44 u45 u46 u47 u48 u49 u50 u51 u52 u53 u54 u55 u56 u57 u58 u59 u60 u61 u62 u63 u64 u65 u66 u67 u68 u69 u70 u71 u72 u73 u74 u75 u76 u77 u78 u79 u80 u81 u82 u83 u84 u85 u86 u87 u88 u89 u90 u91 u92 u93 u94 u95 u96 u97 u98 u99 u100 r ns ps hok hnl na ncap pa pcap hsame hpl base Q' r4 hok4 TT w5 d A5 J K' a1 a0
 unfold maxLen at hs
 go_wp2_with fail
 go_loopw [] (fun wr => ∃ r vars l,AInv w wr w.heap.size base s TT r vars l ns ps (.slice na ns.length ncap) (.slice pa ps.length pcap)) (fun wr => 6 - slen (wr.cell? ⟨w.heap.size,2,none⟩))
 case atStart => exact ⟨_,_,_,A5⟩
 case round =>
  obtain ⟨r6,vars6,l6,A6⟩:=hrel
  go_wp2_with fail
  refine (is_any (w.heap.size + 1) s r6 _ 44 44 _ A6.st.rd rfl HS.out A6.ok.1).mono ?_
  rintro e w7 ⟨rfl,hr7,hk7⟩
  cases hx:r6.isB 44
  ·have e7:r6.is s 44 = r6:=by unfold Est.Rd.is;rw [hx];rfl
   rw [e7] at hr7
   have P7:=A6.st.kept hr7 hk7 (fun h => h)
   have A7:=AInv.mk P7 A6.ok A6.one A6.len A6.full A6.vlen A6.tt
   have HX:Hid (r6.isB 44 = false):=hx
   clear A6 P7 hr7 hk7
   go_wp2_with fail
   go_meet
   exact ⟨r6,vars6,l6,A7,HX.out⟩
  ·have e7:r6.is s 44 = r6.next s:=by unfold Est.Rd.is;rw [hx];rfl
   rw [e7] at hr7
   have h0:r6.bad = 0:=by
    by_cases h0:r6.bad = 0
    ·exact h0
    ·rw [isB_bad h0] at hx;cases hx
   have hl4:l6.length <= 4:=by
    rcases Nat.lt_or_ge l6.length 5 with h | h
    ·omega
    ·exact absurd h0 (A6.full (by have:=A6.len;omega))
   have P7:=A6.st.kept hr7 hk7 (fun _ => h0)
   have hok7:=A6.ok.next
   have hv6:=A6.vlen
   have ho6:=A6.one
   have HT6:Hid (TT = al s (6 - (l6.length + 1)) (aStep s (r6.next s,vars6,l6.map AD.pa))):=by
    have:=A6.tt
    rw [show 6 - l6.length = (6 - (l6.length + 1)) + 1 by omega,al] at this
    rw [if_pos hx] at this
    exact this
   have HM:Hid (slen (wr.cell? ⟨w.heap.size,2,none⟩) = l6.length):=by
    obtain ⟨av,hv1,hv2⟩:=A6.st.ast.ex
    obtain ⟨vv,hq,_⟩:=hv1.q
    obtain ⟨aa,acap,rfl⟩:=own_form hv2
    unfold Hid;simp [World.cell?,hq,slen]
   clear A6 hr7 hk7 h0 e7
   go_wp2_with fail
   refine (atom_any (w.heap.size + 1) w.heap.size base s (r6.next s) vars6 _ l6 _ P7.ast (by omega) (by omega) P7.bs HS.out hok7).mono ?_
   rintro e w8 ⟨rfl,hap⟩
   obtain ⟨d,P8,hd⟩:=P7.atomed hap
   have hvl:(aT s (r6.next s) l6.length vars6).2.1.length <= 5 * (l6 ++ [d]).length:=by
    have:=tl_len s 5 (aR3 s (r6.next s) l6.length) vars6 []
    have h2:(aT s (r6.next s) l6.length vars6).2.1.length <= vars6.length + 5:=this
    simp;omega
   have htt:TT = al s (6 - (l6 ++ [d]).length) (aFin s (r6.next s) l6 vars6,(aT s (r6.next s) l6.length vars6).2.1,(l6 ++ [d]).map AD.pa):=by
    rw [HT6.out,aFin_eq];simp [aStep,hd]
   have hful:(l6 ++ [d]).length = 5 -> (aFin s (r6.next s) l6 vars6).bad ≠ 0:=fun h5 => aFin_four (by simp at h5;omega)
   have A8:=AInv.mk P8 (hok7.aFin l6 vars6) (by simp) (by simp;omega) hful hvl htt
   have HM8:Hid (slen (w8.cell? ⟨w.heap.size,2,none⟩) = l6.length + 1):=by
    obtain ⟨av,hv1,hv2⟩:=A8.st.ast.ex
    obtain ⟨vv,hq,_⟩:=hv1.q
    obtain ⟨aa,acap,rfl⟩:=own_form hv2
    unfold Hid;simp [World.cell?,hq,slen]
   clear hvl htt hful P7 P8 hap hd hx
   go_wp2
   go_roundw
   case rel => exact ⟨_,_,_,A8⟩
   case measure => rw [HM.out,HM8.out];omega
end Go.Proofs.YtondkinefmjpjaaGreat.K
