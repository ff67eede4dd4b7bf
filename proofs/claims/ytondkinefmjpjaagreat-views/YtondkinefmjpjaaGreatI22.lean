import Derived.Laws.AppendOwn
import Derived.Shelf.Abstract
import Derived.Test.YtondkinefmjpjaaGreatI21
set_option maxHeartbeats 2000000
namespace Go.Proofs.YtondkinefmjpjaaGreat
open Go.RowKit
theorem num_any (x:Int) (w:World):Calls Tryz.prog 27 #[.int .i64 x] w fun e w' => e = .returned (.int .i64 x) /\ w' = w:=by
 go_enter Tryz.func27,Tryz.ntmps27
 go_wp2
 go_ret
 exact ⟨rfl,rfl⟩
theorem drop_same (xs ys:List Int) (k:Nat) (h1:k < xs.length) (h2:k < ys.length):(xs.drop k = ys.drop k) ↔ (xs.getD k 0 = ys.getD k 0 /\ xs.drop (k + 1) = ys.drop (k + 1)):=by
 have e1:xs.getD k 0 = xs[k]:=by simp [List.getD,h1]
 have e2:ys.getD k 0 = ys[k]:=by simp [List.getD,h2]
 rw [List.drop_eq_getElem_cons h1,List.drop_eq_getElem_cons h2,List.cons.injEq,e1,e2]
theorem same_any (v1 v2:Value) (xs ys:List Int) (w:World) (h1:Reads w v1 xs) (h2:Reads w v2 ys) (l1:xs.length < 4611686018427387904) :
  Calls Tryz.prog 35 #[v1,v2] w fun e w' => e = .returned (.bool (decide (xs = ys))) /\ Below w.heap.size w w':=by
 obtain ⟨a1,c1,rfl,r1⟩:=h1
 obtain ⟨a2,c2,rfl,r2⟩:=h2
 obtain ⟨C,hC⟩:∃ C,decide (xs = ys) = C:=⟨_,rfl⟩
 have HC:Hid (decide (xs = ys) = C):=hC
 rw [hC]
 clear hC
 have R1:Hid _:=r1
 have R2:Hid _:=r2
 clear r1 r2
 by_cases hl:xs.length = ys.length
 ·have hln:((xs.length:Int) != (ys.length:Int)) = false:=by rw [bne_eq_false_iff_eq,hl]
  go_enter Tryz.func35,Tryz.ntmps35
  go_wp2_with fail
  go_loopw [5] (fun iv wr => ∃ k:Nat,k <= xs.length /\ iv = .int .i64 k /\ Below w.heap.size w wr /\ decide (xs.drop k = ys.drop k) = C) (fun iv _ => xs.length - (intOf iv).toNat)
  case atStart => exact ⟨0,Nat.zero_le _,rfl,Below.refl _ _,HC.out⟩
  case round =>
   obtain ⟨k,hk,rfl,hb,hd⟩:=hrel
   have HK:Hid (decide (xs.drop k = ys.drop k) = C):=hd
   clear hd
   by_cases hx:k < xs.length
   ·obtain ⟨g1,o1,rfl,q1⟩:=R1.out (by omega)
    obtain ⟨g2,o2,rfl,q2⟩:=R2.out (by omega)
    have d1:=(hb.cell (p:=⟨g1,o1 + k,none⟩) (World.block_lt_of_cell? _ _ (q1 k hx))).trans (q1 k hx)
    have d2:=(hb.cell (p:=⟨g2,o2 + k,none⟩) (World.block_lt_of_cell? _ _ (q2 k (by omega)))).trans (q2 k (by omega))
    have HD:Hid _:=drop_same xs ys k hx (by omega)
    obtain ⟨X,hX⟩:∃ X,xs.getD k 0 = X:=⟨_,rfl⟩
    obtain ⟨Y,hY⟩:∃ Y,ys.getD k 0 = Y:=⟨_,rfl⟩
    rw [hX] at d1 HD
    rw [hY] at d2 HD
    clear hX hY q1 q2
    have bx:(k:Int) < (xs.length:Int):=by omega
    have byy:(k:Int) < (ys.length:Int):=by omega
    cases hz:(X != Y)
    ·have HR:Hid (decide (xs.drop (k + 1) = ys.drop (k + 1)) = C):=by
      have:=HK.out
      rw [← this]
      exact decide_eq_decide.2 ⟨fun h => HD.out.2 ⟨bne_eq_false_iff_eq.1 hz,h⟩,fun h => (HD.out.1 h).2⟩
     go_wp2_with fail
     go_region
     all_goals go_wp2_with fail
     all_goals go_roundw
     all_goals first
      | (simp [intOf];omega)
      | exact ⟨k + 1,by omega,by go_num,hb.drew,HR.out⟩
    ·have HR:Hid (false = C):=by
      have:=HK.out
      rw [← this]
      exact (decide_eq_false (fun h => bne_iff_ne.1 hz (HD.out.1 h).1)).symm
     go_wp2_with fail
     go_region
     all_goals go_wp2_with fail
     all_goals go_ret
     all_goals exact ⟨vret_bool HR.out,hb.drew⟩
   ·have HR:Hid (true = C):=by
     have:=HK.out
     rw [List.drop_of_length_le (by omega),List.drop_of_length_le (by omega),decide_eq_true rfl] at this
     exact this
    go_wp2_with fail
    go_ret
    exact ⟨vret_bool HR.out,hb⟩
 ·have hln:((xs.length:Int) != (ys.length:Int)) = true:=by rw [bne_iff_ne];omega
  have HR:Hid (false = C):=by
   rw [← HC.out];exact (decide_eq_false (fun h => hl (by rw [h]))).symm
  go_enter Tryz.func35,Tryz.ntmps35
  go_wp2_with fail
  go_ret
  exact ⟨vret_bool HR.out,Below.refl _ _⟩
theorem vone_new (w:World) (v:Value) (t:TypeId):∀ j u,[v][j]? = some u -> (w.alloc (.cells #[v] t)).cell? ((⟨w.heap.size,0,none⟩:Addr).add j) = some u:=by
 intro j u hj
 match j,hj with
 | 0,hj => simp at hj;subst hj;simp [Addr.add]
theorem copied_any (v:Value) (xs:List Int) (w:World) (h:Reads w v xs) (hl:xs.length * 8 <= 140737488355328) :
  Calls Tryz.prog 17 #[v] w fun e w' => ∃ a cap,e = .returned (.slice a xs.length cap) /\ w'.ownsRow w.heap.size 3 1 (.slice a xs.length cap) xs.length (i64s xs) /\ Below w.heap.size w w':=by
 obtain ⟨a1,c1,rfl,r1⟩:=h
 have R1:Hid _:=r1
 clear r1
 obtain ⟨i0,hi,hz0,hz1,hz2⟩:=info_parts Tryz.info3
 have HI:Hid _:=hi
 have HZ0:Hid _:=hz0
 have HZ1:Hid _:=hz1
 have HZ2:Hid _:=hz2
 clear hi hz0 hz1 hz2
 go_enter Tryz.func17,Tryz.ntmps17
 go_wp2_with fail
 go_loopw [3,4] (fun sv iv wr => ∃ k:Nat,k <= xs.length /\ iv = .int .i64 k /\ wr.ownsRow w.heap.size 3 1 sv k (i64s (xs.take k)) /\ Below w.heap.size w wr) (fun _ iv _ => xs.length - (intOf iv).toNat)
 case atStart => exact ⟨0,Nat.zero_le _,rfl,World.ownsRow_nil _ _ _ _,Below.refl _ _⟩
 case round =>
  obtain ⟨k,hk,rfl,hrow,hb⟩:=hrel
  obtain ⟨sa,scap,hsv⟩:=vown_form hrow
  subst hsv
  have hws:w.heap.size <= wr.heap.size:=hb.size
  by_cases hlt:k < xs.length
  ·obtain ⟨g1,o1,rfl,q1⟩:=R1.out (by omega)
   have d1:=(hb.cell (p:=⟨g1,o1 + k,none⟩) (World.block_lt_of_cell? _ _ (q1 k hlt))).trans (q1 k hlt)
   have HTK:Hid (i64s (xs.take (k + 1)) = i64s (xs.take k) ++ [.int .i64 (xs.getD k 0)]):=by
    unfold Hid i64s;rw [List.take_succ_eq_append_getElem hlt,List.map_append];simp [List.getD,hlt]
   obtain ⟨X,hX⟩:∃ X,xs.getD k 0 = X:=⟨_,rfl⟩
   rw [hX] at d1 HTK
   clear hX q1
   have bk:(k:Int) < (xs.length:Int):=by omega
   go_wp2_with (at_builtin;refine wpList_append_own _ rfl (.tmp 11) (.tmp 16) 28 rfl w.heap.size 3 i0 (.int .i64 0) 1 8 Tryz.underlying28 HI.out HZ0.out HZ1.out HZ2.out rfl (by decide) (.slice sa k scap) _ _ rfl (hrow.alloc _) ⟨wr.heap.size,0,none⟩ 1 1 [.int .i64 X] rfl rfl (vone_new _ _ _) (by intro u hu;simp at hu;subst hu;rfl) (by unfold maxLen;omega) (by omega) (by simp;omega) ?_;intro v6 w6 hown6 hgrow6 _;obtain ⟨sa6,scap6,rfl⟩:=vown_form hown6)
   have hb6:Below w.heap.size w w6:=(hb.alloc hws _).grown hgrow6 (by simp;omega) (fun k hk => by have:=(hrow.lt k hk).1;exact this)
   clear hgrow6
   go_roundw
   case rel => exact ⟨k + 1,by omega,by go_num,by rw [HTK.out];exact hown6,hb6⟩
   case measure => simp [intOf];omega
  ·have hkl:k = xs.length:=by omega
   subst hkl
   rw [List.take_length] at hrow
   go_wp2_with fail
   go_ret
   exact ⟨_,_,rfl,hrow,hb⟩
theorem cmpI_nil {x y:Int}:cmpI x y = 0 ↔ x = y:=by unfold cmpI;split <;> (try split) <;> omega
theorem cmpI_neg {x y:Int}:cmpI x y < 0 ↔ x < y:=by unfold cmpI;split <;> (try split) <;> omega
abbrev Rws:=List (List Int × Int)
def rAt (l:Rws) (j:Nat):List Int × Int:=l.getD j ([],0)
def RRead (w:World) (v:Value) (l:Rws):Prop :=
 ∃ a cap,v = .slice a l.length cap /\ (0 < l.length -> ∃ g off,a = some ⟨g,off,none⟩ /\ ∀ j,j < l.length -> (∃ u,w.cell? ⟨g,off + j * 2,none⟩ = some u /\ Reads w u (rAt l j).1) /\ w.cell? ⟨g,off + j * 2 + 1,none⟩ = some (.int .i64 (rAt l j).2))
def Rise (l:Rws):Prop:=(∀ j,j < l.length -> (rAt l j).2 ≠ 0) /\ ∀ j,j + 1 < l.length -> cmpL (rAt l j).1 (rAt l (j + 1)).1 < 0
theorem step_call {P:Program} {ops:Array Oper} {o:Oper} {a:Act} {w:World} {K:Act -> World -> Prop} {Q:Exit -> Act -> World -> Prop} {E:Prop} (hg:o.guard = none) (f:FuncId) (xs:Array Operand) (ts:Array TypeId)
  (hop:o.op = Op.call { callee:=.value (.func f),args:=xs,argTypes:=ts }) (hent:∀ vs u,(callFunc f vs).run P u = .ok (.enter f vs) u) (args:Array Value) (hargs:xs.map a.eval = args) (S:Value -> World -> Prop)
  (hc:Calls P f args w fun e w' => ∃ v,e = .returned v /\ S v w') (hK:∀ v w',S v w' -> K (a.put o.dst v) w') :
  if Region.wanted o (yielded ops a.tmps) = true then Oper.wp P o a w K Q else E:=by
 have hw:Region.wanted o (yielded ops a.tmps) = true:=by simp [Region.wanted,hg]
 rw [if_pos hw]
 have hrun:(execOp a.eval o).run P w = .ok (.enter f args) w:=by
  rw [← hargs]
  simp [execOp,hop,resolve,invoke,Act.eval,Deferred.ofValue,hent]
 unfold Oper.wp
 rw [hrun,Oper.upon_enter]
 refine hc.mono fun e w'' hh => ?_
 obtain ⟨v,rfl,hS⟩:=hh
 exact hK _ _ hS
theorem step_append_own {P:Program} {ops:Array Oper} {o:Oper} {a:Act} {w:World} {K:Act -> World -> Prop} {Q:Exit -> Act -> World -> Prop} {E:Prop}
  (hg:o.guard = none) (s x:Operand) (t:TypeId) (hop:o.op = Op.call { callee:=Callee.builtin Builtin.append,args:=#[s,x],argTypes:=#[t,t] })
  (base:Nat) (e:TypeId) (i:TypeInfo) (z:Value) (size bytes:Nat) (h1:P.underlying t = some (.slice e)) (h2:P.info? e = some i) (h3:i.zero = some z) (h4:i.size = size) (h5:i.bytes = bytes) (h6:z.cells.size = size) (h7:0 < size)
  (v:Value) (n:Nat) (xs:List Value) (hs:a.eval s = v) (hown:w.ownsRow base e size v n xs)
  (ad:Addr) (m c:Nat) (news:List Value) (hx:a.eval x = .slice (some ad) m c) (hn:news.length = m * size) (hc:∀ j u,news[j]? = some u -> w.cell? (ad.add j) = some u) (h1c:∀ u ∈ news,u.oneCell' = true)
  (b1:n + m <= maxLen) (b2:(n + m) * bytes <= 140737488355328) (hb:base <= w.heap.size)
  (hK:∀ v' w',w'.ownsRow base e size v' (n + m) (xs ++ news) -> w.grownBy w' v.ownBlock -> K (a.put o.dst v') w') :
  if Region.wanted o (yielded ops a.tmps) = true then Oper.wp P o a w K Q else E:=by
 have hw:Region.wanted o (yielded ops a.tmps) = true:=by simp [Region.wanted,hg]
 rw [if_pos hw]
 obtain ⟨v',w',hrun,r1,r2,_⟩:=run_append_own (P:=P) w base t o.type e i z size bytes h1 h2 h3 h4 h5 h6 h7 v n xs hown ad m c news hn hc h1c b1 b2 hb
 unfold Oper.wp
 simp [execOp,hop,resolve,invoke,builtin,hs,hx,hrun,Result.andThen]
 exact hK v' w' r1 r2
def rcells:List Value -> Rws -> List Value
 | u :: us,r :: l => u :: .int .i64 r.2 :: rcells us l
 | _,_ => []
theorem rcells_snoc (us:List Value) (l:Rws) (h:us.length = l.length) (u:Value) (r:List Int × Int):rcells (us ++ [u]) (l ++ [r]) = rcells us l ++ [u,.int .i64 r.2]:=by
 induction us generalizing l with
 | nil => cases l with
  | nil => rfl
  | cons => simp at h
 | cons x us ih => cases l with
  | nil => simp at h
  | cons y l => simp only [List.cons_append,rcells,ih l (by simpa using h)]
theorem rcells_at (us:List Value) (l:Rws) (h:us.length = l.length) (j:Nat) (hj:j < l.length):(rcells us l)[j * 2]? = some (us.getD j undef) /\ (rcells us l)[j * 2 + 1]? = some (.int .i64 (rAt l j).2):=by
 induction us generalizing l j with
 | nil => cases l with
  | nil => simp at hj
  | cons => simp at h
 | cons x us ih => cases l with
  | nil => simp at h
  | cons y l => cases j with
   | zero => simp [rcells,rAt]
   | succ j =>
    have:=ih l (by simpa using h) j (by simpa using hj)
    rw [show (j + 1) * 2 = j * 2 + 1 + 1 by omega]
    simpa [rcells,rAt] using this
theorem own_weak {w:World} {B B':Nat} {e:TypeId} {size:Nat} {v:Value} {n:Nat} {xs:List Value} (h:w.ownsRow B e size v n xs) (hB:B' <= B):w.ownsRow B' e size v n xs:=by
 obtain ⟨h1,h2⟩:=h
 refine ⟨h1,?_⟩
 rcases h2 with h2 | ⟨g,cap,cur,a1,a2,a3⟩
 ·exact Or.inl h2
 ·exact Or.inr ⟨g,cap,cur,a1,Nat.le_trans hB a2,a3⟩
theorem own_ne {w:World} {B B':Nat} {e e':TypeId} {s s':Nat} {v v':Value} {n n':Nat} {xs xs':List Value} (h:w.ownsRow B e s v n xs) (h':w.ownsRow B' e' s' v' n' xs') (hne:e ≠ e'):v.ownBlock = none ∨ v.ownBlock ≠ v'.ownBlock:=by
 rcases h.2 with ⟨rfl,_⟩ | ⟨g,cap,cur,rfl,_,b3,_⟩
 ·exact Or.inl rfl
 ·rcases h'.2 with ⟨rfl,_⟩ | ⟨g',cap',cur',rfl,_,c3,_⟩
  ·exact Or.inr (by simp [Value.ownBlock])
  ·refine Or.inr fun he => hne ?_
   have:g = g':=by simpa [Value.ownBlock] using he
   subst this
   rw [b3] at c3
   simp only [Option.some.injEq,Obj.cells.injEq] at c3
   exact c3.2.1
def RNew (e:TypeId) (B:Nat) (w:World) (v:Value) (us:List Value) (l:Rws):Prop :=
 us.length = l.length /\ w.ownsRow B e 2 v l.length (rcells us l) /\ ∀ j,j < l.length -> w.ownsRow B 3 1 (us.getD j undef) (rAt l j).1.length (i64s (rAt l j).1)
theorem rAt_snoc (l:Rws) (r:List Int × Int) (j:Nat) (hj:j < l.length):rAt (l ++ [r]) j = rAt l j:=by simp [rAt,List.getD,hj,List.getElem?_append_left]
theorem rAt_last (l:Rws) (r:List Int × Int):rAt (l ++ [r]) l.length = r:=by simp [rAt,List.getD]
theorem RNew.snoc {e:TypeId} {B:Nat} {w w':World} {v v':Value} {us:List Value} {l:Rws} {u:Value} {r:List Int × Int} (h:RNew e B w v us l) (he:e ≠ 3) (hu:w.ownsRow B 3 1 u r.1.length (i64s r.1))
  (hown:w'.ownsRow B e 2 v' (l.length + 1) (rcells us l ++ [u,.int .i64 r.2])) (hg:w.grownBy w' v.ownBlock):RNew e B w' v' (us ++ [u]) (l ++ [r]):=by
 obtain ⟨h1,h2,h3⟩:=h
 refine ⟨by simp [h1],?_,fun j hj => ?_⟩
 ·rw [rcells_snoc us l h1,List.length_append];exact hown
 ·by_cases hl:j < l.length
  ·rw [rAt_snoc l r j hl]
   have:(us ++ [u]).getD j undef = us.getD j undef:=by simp [List.getD,List.getElem?_append_left,h1,hl]
   rw [this]
   exact (h3 j hl).kept hg (own_ne (h3 j hl) h2 (Ne.symm he))
  ·have hjl:j = l.length:=by simp at hj;omega
   subst hjl
   rw [rAt_last]
   have:(us ++ [u]).getD l.length undef = u:=by simp [List.getD,← h1]
   rw [this]
   exact hu.kept hg (own_ne hu h2 (Ne.symm he))
theorem Tryz.info55:(Tryz.prog.info? 55).map (fun i => (i.zero,i.size,i.bytes)) = some (some (.agg #[.slice none 0 0,.int .i64 0]),2,32):=by kernel_rfl
theorem vtwo_new (w:World) (x y:Value) (t:TypeId):∀ j u,[x,y][j]? = some u -> (w.alloc (.cells #[x,y] t)).cell? ((⟨w.heap.size,0,none⟩:Addr).add j) = some u:=by
 intro j u hj
 match j,hj with
 | 0,hj => simp at hj;subst hj;simp [Addr.add]
 | 1,hj => simp at hj;subst hj;simp [Addr.add]
def negR (r:List Int × Int):List Int × Int:=(r.1,IntKind.i64.wrap (-r.2))
end Go.Proofs.YtondkinefmjpjaaGreat
