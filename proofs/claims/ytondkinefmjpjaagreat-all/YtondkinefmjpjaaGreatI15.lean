import Derived.Deep.QuietTactic
import Derived.BigQuiet
import Derived.Deep.CutBlock
import Derived.Shelf.SlicesE.DeleteFunc
import Derived.Test.YtondkinefmjpjaaGreatI11
set_option maxHeartbeats 4000000
set_option maxRecDepth 100000
namespace Go.Proofs.YtondkinefmjpjaaGreat.K
open Go.RowKit
def u8s (l:List Int):List Value:=l.map (Value.int .u8)
def nats (l:List Nat):List Value:=l.map fun (n:Nat) => Value.int .i64 n
theorem u8s_at {w:World} {base g n cap:Nat} {l:List Int} (h:w.ownsRow base 77 1 (.slice (some ⟨g,0,none⟩) n cap) n (u8s l)) (hl:l.length = n) (j:Nat) (hj:j < n):w.cell? ⟨g,j,none⟩ = some (.int .u8 (l.getD j 0)):=by
 rw [h.cellAt j (by omega)];simp [u8s,List.getElem?_map,List.getElem?_eq_getElem (show j < l.length by omega)]
theorem nats_at {w:World} {base g n cap:Nat} {l:List Nat} (h:w.ownsRow base 3 1 (.slice (some ⟨g,0,none⟩) n cap) n (nats l)) (hl:l.length = n) (j:Nat) (hj:j < n):w.cell? ⟨g,j,none⟩ = some (.int .i64 ((l.getD j 0:Nat):Int)):=by
 rw [h.cellAt j (by omega)];simp [nats,List.getElem?_map,List.getElem?_eq_getElem (show j < l.length by omega)]
theorem getD_mem {l:List Nat} {k:Nat} (hk:k < l.length):l.getD k 0 ∈ l:=by
 rw [List.getD_eq_getElem?_getD,List.getElem?_eq_getElem hk];exact List.getElem_mem hk
theorem take_snocD {l:List Nat} {k:Nat} (hk:k < l.length):l.take (k + 1) = l.take k ++ [l.getD k 0]:=by
 rw [List.take_succ_eq_append_getElem hk,List.getD_eq_getElem?_getD,List.getElem?_eq_getElem hk];rfl
def orK (sets:List Int) (i:Nat) (l:List Nat):Int:=l.foldl (fun acc j => if j = i then acc else bits BinOp.or IntKind.u8 acc (sets.getD j 0)) 0
theorem orK_snoc (sets:List Int) (i:Nat) (l:List Nat) (k:Nat) (hk:k < l.length):orK sets i (l.take (k + 1)) = if l.getD k 0 = i then orK sets i (l.take k) else bits BinOp.or IntKind.u8 (orK sets i (l.take k)) (sets.getD (l.getD k 0) 0):=by
 rw [take_snocD hk];unfold orK;rw [List.foldl_append];rfl
def shV (sets:List Int) (left:List Nat) (i:Nat):Int:=bits BinOp.and IntKind.u8 (sets.getD i 0) (orK sets i left)
theorem sharedVars_any (base base2:Nat) (sets:List Int) (left:List Nat) (sv lv:Value) (i:Nat) (w:World) (ho:w.ownsRow base 77 1 sv sets.length (u8s sets)) (hlo:w.ownsRow base2 3 1 lv left.length (nats left)) (hl:sets.length <= 100) (hll:left.length <= 100) (hin:∀ j,j ∈ left -> j < sets.length) (hi:i < sets.length) :
  Calls Tryz.prog 159 #[sv,lv,.int .i64 i] w fun x w' => x = .returned (.int .u8 (shV sets left i)) /\ w' = w:=by
 obtain ⟨g,cap,rfl⟩:=own_some ho (by omega)
 obtain ⟨la,lcap,rfl⟩:=own_form hlo
 have ci:=u8s_at ho rfl i hi
 have HDEF:Hid (shV sets left i = bits BinOp.and IntKind.u8 (sets.getD i 0) (orK sets i left)):=rfl
 generalize hZ:sets.getD i 0 = Z at ci HDEF
 clear hZ
 have bi:(i:Int) < (sets.length:Int):=by omega
 go_enter Tryz.func159,Tryz.ntmps159
 go_wp2
 go_loop [7,9,12] (fun acc _ jv => ∃ k:Nat,k <= left.length /\ jv = .int .i64 k /\ acc = .int .u8 (orK sets i (left.take k))) (fun _ _ jv => left.length - (intOf jv).toNat)
 case atStart => exact ⟨0,Nat.zero_le _,rfl,rfl⟩
 case round =>
  obtain ⟨k,hk,rfl,rfl⟩:=hrel
  by_cases hlt:k < left.length
  ·obtain ⟨lg,lcap',he⟩:=own_some hlo (by omega)
   simp only [Value.slice.injEq,true_and] at he
   obtain ⟨rfl,rfl⟩:=he
   have hc:=nats_at hlo rfl k hlt
   have hJ:=hin _ (getD_mem hlt)
   have HS:Hid _:=orK_snoc sets i left k hlt
   generalize hA:orK sets i (left.take k) = A at HS
   clear hA
   generalize hJJ:left.getD k 0 = J at hc hJ HS
   clear hJJ
   have cj:=u8s_at ho rfl J hJ
   have bj:(J:Int) < (sets.length:Int):=by omega
   generalize hZ:sets.getD J 0 = Y at cj HS
   clear hZ
   cases hne:((J:Int) != (i:Int))
   ·have HN:Hid (orK sets i (left.take (k + 1)) = A):=by unfold Hid;rw [HS.out,if_pos (by have:=bne_eq_false_iff_eq.1 hne;omega)]
    go_wp2
    go_round
    case rel => exact ⟨k + 1,by omega,by go_num,by rw [HN.out]⟩
    case measure => simp [intOf];omega
   ·have HN:Hid (orK sets i (left.take (k + 1)) = bits BinOp.or IntKind.u8 A Y):=by unfold Hid;rw [HS.out,if_neg (by have:=bne_iff_ne.1 hne;omega)]
    go_wp2
    go_round
    case rel => exact ⟨k + 1,by omega,by go_num,by rw [HN.out]⟩
    case measure => simp [intOf];omega
  ·have HL:Hid (left.take k = left):=List.take_of_length_le (by omega)
   rw [HL.out]
   obtain ⟨A,hA⟩:∃ A,orK sets i left = A:=⟨_,rfl⟩
   rw [hA]
   have HA:Hid (shV sets left i = bits BinOp.and IntKind.u8 Z A):=by unfold Hid;rw [HDEF.out,hA]
   clear hA
   go_wp2
   go_ret
   exact ⟨by rw [HA.out];rfl,rfl⟩
def prB (sets:List Int) (left:List Nat) (i j:Nat):Bool:=!(j == i) && (bits BinOp.andNot IntKind.u8 (shV sets left i) (sets.getD j 0) == 0)
def gnB (sets:List Int) (left:List Nat) (i:Nat):Bool:=left.any fun j => prB sets left i j
def gon (sets:List Int) (left:List Nat):Option Nat:=left.find? fun i => gnB sets left i
theorem Tryz.info3':(Tryz.prog.info? 3).map (fun i => (i.zero,i.size,i.bytes)) = some (some (.int .i64 0),1,8):=by kernel_rfl
theorem numbersBelow_any (n:Nat) (w:World) (hn:n <= 100) :
  Calls Tryz.prog 121 #[.int .i64 n] w fun x w' => ∃ sa cap,x = .returned (.slice sa n cap) /\ w'.ownsRow w.heap.size 3 1 (.slice sa n cap) n (nats (List.range n)) /\ Below w.heap.size w w':=by
 obtain ⟨i0,hi,hz0,hz1,hz2⟩:=info_parts Tryz.info3'
 have HI:Hid _:=hi
 have HZ0:Hid _:=hz0
 have HZ1:Hid _:=hz1
 have HZ2:Hid _:=hz2
 clear hi hz0 hz1 hz2
 go_enter Tryz.func121,Tryz.ntmps121
 go_wp2_with fail
 go_loopw [3,4,6] (fun sv _ jv wr => ∃ j:Nat,j <= n /\ jv = .int .i64 j /\ wr.ownsRow w.heap.size 3 1 sv j (nats (List.range j)) /\ Below w.heap.size w wr) (fun _ _ jv _ => n - (intOf jv).toNat)
 case atStart => exact ⟨0,Nat.zero_le _,rfl,World.ownsRow_nil _ _ _ _,Below.refl _ _⟩
 case round =>
  obtain ⟨j,hj,rfl,hrow,hb⟩:=hrel
  obtain ⟨sa,scap,hsv⟩:=own_form hrow
  subst hsv
  have hws:w.heap.size <= wr.heap.size:=hb.size
  by_cases hlt:j < n
  ·have HTK:Hid (nats (List.range (j + 1)) = nats (List.range j) ++ [.int .i64 (j:Int)]):=by
    unfold Hid nats;rw [List.range_succ,List.map_append];rfl
   go_wp2_with (at_builtin;refine wpList_append_own _ rfl (.tmp 9) (.tmp 11) 28 rfl w.heap.size 3 i0 (.int .i64 0) 1 8 Tryz.underlying28 HI.out HZ0.out HZ1.out HZ2.out rfl (by decide) (.slice sa j scap) _ _ rfl (hrow.alloc _) ⟨wr.heap.size,0,none⟩ 1 1 [.int .i64 (j:Int)] rfl rfl (one_new _ _ _) (by intro u hu;simp at hu;subst hu;rfl) (by unfold maxLen;omega) (by omega) (by simp;omega) ?_;intro v6 w6 hown6 hgrow6 _;obtain ⟨sa6,scap6,rfl⟩:=own_form hown6)
   have hb6:Below w.heap.size w w6:=(hb.alloc hws _).grown hgrow6 (by simp;omega) (fun k hk => by have:=(hrow.lt k hk).1;exact this)
   clear hgrow6
   go_roundw
   case rel => exact ⟨j + 1,by omega,by go_num,by rw [HTK.out];exact hown6,hb6⟩
   case measure => simp [intOf];omega
  ·have hjl:j = n:=by omega
   subst hjl
   go_wp2_with fail
   go_ret
   exact ⟨_,_,rfl,hrow,hb⟩
theorem any_left {l:List Nat} {p:Nat -> Bool} (k:Nat) (hk:k < l.length) (h:p (l.getD k 0) = true):l.any p = true:=by
 rw [List.any_eq_true];exact ⟨_,getD_mem hk,h⟩
theorem any_left_no {l:List Nat} {p:Nat -> Bool} (h:∀ k,k < l.length -> p (l.getD k 0) = false):l.any p = false:=by
 rw [List.any_eq_false];intro x hx
 obtain ⟨k,hk,rfl⟩:=List.getElem_of_mem hx
 have:=h k hk
 rw [List.getD_eq_getElem?_getD,List.getElem?_eq_getElem hk] at this
 simpa using this
theorem find_left {l:List Nat} {p:Nat -> Bool} (k:Nat) (hk:k < l.length) (h:p (l.getD k 0) = true) (hn:∀ j,j < k -> p (l.getD j 0) = false):l.find? p = some (l.getD k 0):=by
 have e:l.getD k 0 = l[k]:=by rw [List.getD_eq_getElem?_getD,List.getElem?_eq_getElem hk];rfl
 rw [List.find?_eq_some_iff_getElem]
 refine ⟨h,k,hk,e.symm,fun j hj => ?_⟩
 have:=hn j hj
 rw [List.getD_eq_getElem?_getD,List.getElem?_eq_getElem (by omega)] at this
 simp at this;simp [this]
theorem find_left_no {l:List Nat} {p:Nat -> Bool} (hn:∀ j,j < l.length -> p (l.getD j 0) = false):l.find? p = none:=by
 rw [List.find?_eq_none];intro x hx
 obtain ⟨k,hk,rfl⟩:=List.getElem_of_mem hx
 have:=hn k hk
 rw [List.getD_eq_getElem?_getD,List.getElem?_eq_getElem hk] at this
 simp at this;simp [this]
def kp (sets:List Int) (left:List Nat) (i:Nat):Nat:=(left.find? fun j => prB sets left i j).getD 0
theorem firstToGo_any (base base2:Nat) (sets:List Int) (left:List Nat) (sv lv:Value) (w:World) (ho:w.ownsRow base 77 1 sv sets.length (u8s sets)) (hlo:w.ownsRow base2 3 1 lv left.length (nats left)) (hl:sets.length <= 100) (hl1:1 <= sets.length) (hll:left.length <= 100) (hin:∀ j,j ∈ left -> j < sets.length) :
  Calls Tryz.prog 122 #[sv,lv] w fun x w' => (∃ g h:Int,x = .returned (.tuple #[.agg #[.int .i64 g,.int .i64 h],.bool (gon sets left).isSome]) /\ ∀ i,gon sets left = some i -> g = (i:Int) /\ h = (kp sets left i:Int)) /\ Below w.heap.size w w':=by
 obtain ⟨g,cap,rfl⟩:=own_some ho (by omega)
 obtain ⟨la,lcap,rfl⟩:=own_form hlo
 have HIN:Hid (∀ j,j ∈ left -> j < sets.length):=hin
 clear hin
 go_enter Tryz.func122,Tryz.ntmps122
 go_wp2_with fail
 go_loopw [7,12] (fun _ iv wr => ∃ i:Nat,i <= left.length /\ iv = .int .i64 i /\ Below w.heap.size w wr /\ wr.heap[w.heap.size]? = some (.cells #[.int .i64 0,.int .i64 0] 218 (0,0)) /\ ∀ k,k < i -> gnB sets left (left.getD k 0) = false) (fun _ iv _ => left.length - (intOf iv).toNat)
 case atStart => exact ⟨0,Nat.zero_le _,rfl,(Below.refl _ _).alloc (Nat.le_refl _) _,heap_alloc_new _ _,fun _ h => absurd h (Nat.not_lt_zero _)⟩
 case round =>
  obtain ⟨i,hi,rfl,hb,hblk,hno⟩:=hrel
  have HNO:Hid (∀ k,k < i -> gnB sets left (left.getD k 0) = false):=hno
  clear hno
  have hor:=own_below' ho hb
  have hlr:=own_below' hlo hb
  have hB:w.heap.size < wr.heap.size:=lt_of_block hblk
  by_cases hlt:i < left.length
  ·obtain ⟨lg,lcap',he⟩:=own_some hlr (by omega)
   simp only [Value.slice.injEq,true_and] at he
   obtain ⟨rfl,rfl⟩:=he
   have hc:=nats_at hlr rfl i hlt
   have hI:=HIN.out _ (getD_mem hlt)
   obtain ⟨I,hII⟩:∃ I,left.getD i 0 = I:=⟨_,rfl⟩
   rw [hII] at hc hI
   have HII:Hid (left.getD i 0 = I):=hII
   clear hII
   go_wp2_with fail
   go_loopw [9,18] (fun _ jv wx => ∃ j:Nat,j <= left.length /\ jv = .int .i64 j /\ Below w.heap.size w wx /\ wx.heap[w.heap.size]? = some (.cells #[.int .i64 0,.int .i64 0] 218 (0,0)) /\ ∀ k,k < j -> prB sets left I (left.getD k 0) = false) (fun _ jv _ => left.length - (intOf jv).toNat)
   case atStart => exact ⟨0,Nat.zero_le _,rfl,hb,hblk,fun _ h => absurd h (Nat.not_lt_zero _)⟩
   case round =>
    clear hor hlr hb hblk hB hc
    obtain ⟨j,hj,rfl,hb,hblk,hnj⟩:=hrel
    have HNJ:Hid (∀ k,k < j -> prB sets left I (left.getD k 0) = false):=hnj
    clear hnj
    have hor:=own_below' ho hb
    have hlr:=own_below' hlo hb
    have hB:w.heap.size < wr.heap.size:=lt_of_block hblk
    by_cases hjl:j < left.length
    ·have hc:=nats_at hlr rfl j hjl
     have hJ:=HIN.out _ (getD_mem hjl)
     have HPR:Hid (prB sets left I (left.getD j 0) = (!(left.getD j 0 == I) && (bits BinOp.andNot IntKind.u8 (shV sets left I) (sets.getD (left.getD j 0) 0) == 0))):=rfl
     have HST:Hid (prB sets left I (left.getD j 0) = false -> ∀ k,k < j + 1 -> prB sets left I (left.getD k 0) = false):=by
      intro hx k hk
      by_cases e:k = j
      ·rw [e];exact hx
      ·exact HNJ.out k (by omega)
     have HKP:Hid (prB sets left I (left.getD j 0) = true -> kp sets left I = left.getD j 0):=by
      intro hx
      unfold kp;rw [find_left (p:=fun j => prB sets left I j) j hjl hx HNJ.out];rfl
     have HYES:Hid (prB sets left I (left.getD j 0) = true -> gon sets left = some I):=by
      intro hx
      have h1:gnB sets left I = true:=any_left (p:=fun j => prB sets left I j) j hjl hx
      have:=find_left (p:=fun i => gnB sets left i) i hlt (by rw [HII.out];exact h1) HNO.out
      rw [HII.out] at this;exact this
     obtain ⟨J,hJJ⟩:∃ J,left.getD j 0 = J:=⟨_,rfl⟩
     rw [hJJ] at hc hJ HPR HST HYES HKP
     clear hJJ
     have cj:=u8s_at hor rfl J hJ
     have bj:(J:Int) < (sets.length:Int):=by omega
     obtain ⟨Y,hY⟩:∃ Y,sets.getD J 0 = Y:=⟨_,rfl⟩
     rw [hY] at cj HPR
     clear hY
     obtain ⟨S,hS⟩:∃ S,shV sets left I = S:=⟨_,rfl⟩
     have HS:Hid (shV sets left I = S):=hS
     rw [hS] at HPR
     clear hS
     cases hne:((J:Int) != (I:Int))
     ·have HF:Hid (prB sets left I J = false):=by
       have:J = I:=by have:=bne_eq_false_iff_eq.1 hne;omega
       unfold Hid;rw [HPR.out,this];simp
      go_wp2_with fail
      go_quiet (fail)
      go_wp2_with fail
      go_roundw
      case rel => exact ⟨j + 1,by omega,by go_num,⟨hb.os,hb.tape,hb.output,hb.size,hb.block⟩,hblk,HST.out HF.out⟩
      case measure => simp [intOf];omega
     ·have HEQ:Hid (prB sets left I J = (bits BinOp.andNot IntKind.u8 S Y == 0)):=by
       have:(J == I) = false:=beq_eq_false_iff_ne.2 (by have:=bne_iff_ne.1 hne;omega)
       unfold Hid;rw [HPR.out,this];rfl
      cases hz:(bits BinOp.andNot IntKind.u8 S Y == 0)
      ·go_wp2_with fail
       go_quiet ((go_at_call 159;exact Calls.quiet_of_same (sharedVars_any base base2 sets left _ _ I _ (by exact hor) (by exact hlr) (by omega) (by omega) HIN.out hI)))
       rw [HS.out]
       go_wp2_with fail
       go_roundw
       case rel => exact ⟨j + 1,by omega,by go_num,⟨hb.os,hb.tape,hb.output,hb.size,hb.block⟩,hblk,HST.out (by rw [HEQ.out];exact hz)⟩
       case measure => simp [intOf];omega
      ·have HY:Hid (gon sets left = some I):=HYES.out (by rw [HEQ.out];exact hz)
       have HY2:Hid (kp sets left I = J):=HKP.out (by rw [HEQ.out];exact hz)
       have z0:wr.cell? ⟨w.heap.size,0,none⟩ = some (.int .i64 0):=by simp [World.cell?,hblk]
       have z1:wr.cell? ⟨w.heap.size,1,none⟩ = some (.int .i64 0):=by simp [World.cell?,hblk]
       have f0:wr.frozen? ⟨w.heap.size,0,none⟩ = false:=by simp [World.frozen?,hblk]
       have f1:wr.frozen? ⟨w.heap.size,1,none⟩ = false:=by simp [World.frozen?,hblk]
       go_wp2_with fail
       go_quiet ((go_at_call 159;exact Calls.quiet_of_same (sharedVars_any base base2 sets left _ _ I _ (by exact hor) (by exact hlr) (by omega) (by omega) HIN.out hI)))
       rw [HS.out]
       go_wp2_with fail
       refine bodyPost_ret (v:=.tuple #[.agg #[.int .i64 I,.int .i64 J],.bool true]) (by simp [results,Tryz.results122,go_sem,z0,z1]) rfl ⟨⟨I,J,by rw [HY.out];rfl,fun i' hi' => by rw [HY.out] at hi';cases hi';exact ⟨rfl,by rw [HY2.out]⟩⟩,?_⟩
       have hb1:Below w.heap.size w (wr.drewN nq):=⟨hb.os,hb.tape,hb.output,hb.size,hb.block⟩
       exact (hb1.setCell (p:=⟨w.heap.size,0,none⟩) (Nat.le_refl _) _).setCell (p:=⟨w.heap.size,1,none⟩) (Nat.le_refl _) _
    ·have HG:Hid (gnB sets left I = false):=any_left_no (p:=fun j => prB sets left I j) (fun k hk => HNJ.out k (by omega))
     go_wp2_with fail
     go_roundw
     case rel =>
      refine ⟨i + 1,by omega,by go_num,hb,hblk,fun k hk => ?_⟩
      by_cases e:k = i
      ·rw [e,HII.out];exact HG.out
      ·exact HNO.out k (by omega)
     case measure => simp [intOf];omega
  ·have HN:Hid (gon sets left = none):=find_left_no (p:=fun i => gnB sets left i) (fun k hk => HNO.out k (by omega))
   have z0:wr.cell? ⟨w.heap.size,0,none⟩ = some (.int .i64 0):=by simp [World.cell?,hblk]
   have z1:wr.cell? ⟨w.heap.size,1,none⟩ = some (.int .i64 0):=by simp [World.cell?,hblk]
   have f0:wr.frozen? ⟨w.heap.size,0,none⟩ = false:=by simp [World.frozen?,hblk]
   have f1:wr.frozen? ⟨w.heap.size,1,none⟩ = false:=by simp [World.frozen?,hblk]
   go_wp2_with fail
   refine bodyPost_ret (v:=.tuple #[.agg #[.int .i64 0,.int .i64 0],.bool false]) (by simp [results,Tryz.results122,go_sem,z0,z1]) rfl ⟨⟨0,0,by rw [HN.out];rfl,fun i' hi' => by rw [HN.out] at hi';cases hi'⟩,?_⟩
   exact (hb.setCell (p:=⟨w.heap.size,0,none⟩) (Nat.le_refl _) _).setCell (p:=⟨w.heap.size,1,none⟩) (Nat.le_refl _) _
end Go.Proofs.YtondkinefmjpjaaGreat.K
namespace Go.Proofs.YtondkinefmjpjaaGreat.K
open Go.RowKit Go.Shelf Go.Sort
def Tryz.laysDel_ren:Go.Shelf.Ren:=⟨fun | 10 => 123 | 6 => 160 | n => n,fun | 22 => 28 | 23 => 3 | 25 => 222 | 3 => 3 | 4 => 4 | 0 => 0 | n => n,fun | n => n⟩
theorem Tryz.laysDel:Go.Proofs.SlLaysH.n10 Tryz.prog Tryz.laysDel_ren:={
 mixed:=by kernel_rfl
 f6:=⟨Tryz.f160.name,by decide,Tryz.func160.trans (congrArg some (by kernel_rfl))⟩
 f10:=⟨Tryz.f123.name,by decide,Tryz.func123.trans (congrArg some (by kernel_rfl))⟩
 t0:=Tryz.underlying0
 a0:=Tryz.isAgg0
 z0:=Tryz.sizeOf0
 v0:=Tryz.zeroValue0
 t3:=Tryz.underlying3
 a3:=Tryz.isAgg3
 z3:=Tryz.sizeOf3
 v3:=Tryz.zeroValue3
 t4:=Tryz.underlying4
 a4:=Tryz.isAgg4
 z4:=Tryz.sizeOf4
 v4:=Tryz.zeroValue4
 t22:=Tryz.underlying28
 a22:=Tryz.isAgg28
 z22:=Tryz.sizeOf28
 v22:=Tryz.zeroValue28
 a23:=Tryz.isAgg3
 z23:=Tryz.sizeOf3
 t25:=Tryz.underlying222
 a25:=Tryz.isAgg222
 z25:=Tryz.sizeOf222
 v25:=Tryz.zeroValue222 }
theorem gives33 (lim x:Int) (B:Nat) (W:World) (hc:W.cell? ⟨B,0,none⟩ = some (.int .i64 lim)) :
  FnGives Tryz.prog 124 #[.pointer (some ⟨B,0,none⟩)] #[.int .i64 x] (.bool (x == lim)) W:=by
 show Calls Tryz.prog 124 #[.int .i64 x,.pointer (some ⟨B,0,none⟩)] W _
 cases hx:(x == lim)
 ·go_enter Tryz.func124,Tryz.ntmps124
  go_wp2
  go_ret
  exact ⟨rfl,0,rfl⟩
 ·go_enter Tryz.func124,Tryz.ntmps124
  go_wp2
  go_ret
  exact ⟨rfl,0,rfl⟩
theorem pred33 (lim:Int) (B:Nat) (w:World) (hB:B < w.heap.size) (hcell:w.cell? ⟨B,0,none⟩ = some (.int .i64 lim)) :
  PredAt Tryz.prog 124 #[.pointer (some ⟨B,0,none⟩)] (Value.int .i64) (fun x => x == lim) w :=
 fun W x hb => gives33 lim x B W ((hb.cell (p:=⟨B,0,none⟩) hB).trans hcell)
theorem over33 (lim:Int) (B blk off size:Nat) (w:World) (hB:B < w.heap.size) (hne:B ≠ blk) (hcell:w.cell? ⟨B,0,none⟩ = some (.int .i64 lim)) :
  PredOver Tryz.prog 124 #[.pointer (some ⟨B,0,none⟩)] (Value.int .i64) (fun x => x == lim) blk off size w :=
 fun n os dk x _ => gives33 lim x B _ (by
  unfold sortWorld
  rw [cell?_grow _ _ _ (by show B < (putRow _ _ _ _ _).heap.size;rw [size_putRow];exact hB),cell?_putRow_other _ _ blk off _ _ (Or.inl hne)]
  exact hcell)
def i64s (l:List Int):List Value:=l.map (Value.int .i64)
def ups (l:List Nat):List Int:=l.map fun (n:Nat) => (n:Int)
theorem nats_eq (l:List Nat):nats l = i64s (ups l):=by simp [nats,i64s,ups]
theorem ups_filter (l:List Nat) (g:Nat):(ups l).filter (fun x => !(x == (g:Int))) = ups (l.filter (· != g)):=by
 unfold ups;rw [List.filter_map]
 congr 1
 apply List.filter_congr
 intro x _
 by_cases h:x = g
 ·subst h;simp
 ·have h1:((x:Int) == (g:Int)) = false:=beq_eq_false_iff_ne.2 (by omega)
  have h2:(x == g) = false:=beq_eq_false_iff_ne.2 h
  simp [bne,h1,h2]
theorem ups_len (l:List Nat):(ups l).length = l.length:=by simp [ups]
theorem holds_i64 {w:World} {g:Nat} {cur:Array Value} {e:TypeId} {ss:List Int} (hb:w.heap[g]? = some (.cells cur e (0,0))) (ht:cur.toList.take ss.length = i64s ss):Holds (Value.int .i64) w g 0 ss.toArray:=by
 intro j hj
 have hj':j < ss.length:=by simpa using hj
 refine ⟨?_,by simp [World.frozen?,hb]⟩
 have h1:(cur.toList.take ss.length)[j]? = (i64s ss)[j]?:=by rw [ht]
 rw [List.getElem?_take_of_lt hj'] at h1
 simp only [World.cell?,hb,Nat.zero_add]
 simp only [Option.isSome_none,Bool.false_eq_true,if_false]
 rw [← Array.getElem?_toList,h1]
 simp [i64s,hj']
theorem heap_put64 {w:World} {g n:Nat} {cur:Array Value} {e:TypeId} {fr:Nat × Nat} (d:Array Int) (hb:w.heap[g]? = some (.cells cur e fr)) :
  (putRow (Value.int .i64) (Sort.ahead w n) g 0 d).heap[g]? = some (.cells (putCells (Value.int .i64) 0 d cur) e fr):=by
 simp [putRow,mapBlock,Sort.ahead,Array.getElem?_modify,hb,onCells]
theorem keeps_put64 {w:World} {g n:Nat} (d:Array Int):Keeps (fun k _ => k = g) w (putRow (Value.int .i64) (Sort.ahead w n) g 0 d):=by
 refine ⟨rfl,rfl,rfl,by simp [putRow,mapBlock,Sort.ahead],fun k hk hne => ?_⟩
 have:g ≠ k:=fun e => hne e.symm
 simp [putRow,mapBlock,Sort.ahead,Array.getElem?_modify,this]
theorem take_put64 (cur:Array Value) (ts zs:List Int) (h:ts.length + zs.length <= cur.size):(putCells (Value.int .i64) 0 (ts ++ zs).toArray cur).toList.take ts.length = i64s ts:=by
 apply List.ext_getElem?
 intro j
 by_cases hj:j < ts.length
 ·rw [List.getElem?_take_of_lt hj,Array.getElem?_toList]
  have hj2:j < ts.length + zs.length:=by omega
  simp [putCells,i64s,hj,hj2,show j < cur.size by omega,List.getElem_append_left hj]
 ·rw [List.getElem?_take_eq_none (by omega),List.getElem?_eq_none (by simp [i64s];omega)]
theorem delete_any (base EB:Nat) (left:List Nat) (lv:Value) (g:Nat) (w:World) (ho:w.ownsRow base 3 1 lv left.length (nats left)) (h1:1 <= left.length) (hl:left.length <= 100) (hc:w.cell? ⟨EB,0,none⟩ = some (.int .i64 g)) (ht:tag w.heap[EB]? = 218) :
  Calls Tryz.prog 123 #[lv,.func (.func 124) #[] #[.pointer (some ⟨EB,0,none⟩)]] w fun x w' => ∃ v',x = .returned v' /\ w'.ownsRow base 3 1 v' (left.filter (· != g)).length (nats (left.filter (· != g))) /\ Keeps (fun k _ => lv.ownBlock = some k) w w':=by
 rcases ho.2 with ⟨_,h0⟩ | ⟨blk,cap,cur,rfl,hg,hblk,hn,hcap,hcs,htk⟩
 ·omega
 rw [Nat.mul_one] at htk hcs
 rw [nats_eq,← ups_len left] at htk
 have hH:=holds_i64 hblk htk
 have hEB:=World.block_lt_of_cell? _ _ hc
 have hne:EB ≠ blk:=fun e => by rw [e,hblk] at ht;simp [tag] at ht
 have eg:∀ args w,(callFunc 124 args).run Tryz.prog w = .ok (.enter 124 args) w:=enters_of Tryz.func124 (by kernel_rfl) rfl
 have h:=AnyE.slices_DeleteFunc Tryz.laysDel (Value.int .i64) (fun _ => rfl) (fun x => x == (g:Int)) 124 #[.pointer (some ⟨EB,0,none⟩)] eg 0 Tryz.zeroValue3 blk 0 cap (ups left).toArray w
  (pred33 g EB w hEB hc) (over33 g EB blk 0 _ w hEB hne hc) hH (by simp [ups_len];omega) (by simpa [ups_len] using hn)
 have hfl:(left.filter (· != g)).length <= left.length:=List.length_filter_le _ _
 simp only [List.size_toArray,ups_len,ups_filter] at h
 refine Calls.mono h ?_
 rintro x w' ⟨rfl,q,rfl⟩
 refine ⟨_,rfl,⟨by simp [nats],.inr ⟨blk,cap,_,rfl,hg,heap_put64 _ hblk,by omega,hcap,by simp [putCells,hcs],?_⟩⟩,?_⟩
 ·rw [Nat.mul_one,nats_eq,← ups_len (left.filter (· != g))]
  exact take_put64 cur _ _ (by simp [ups_len];omega)
 ·exact (keeps_put64 _).mono (fun k _ e => by rw [e];rfl)
end Go.Proofs.YtondkinefmjpjaaGreat.K
namespace Go.Proofs.YtondkinefmjpjaaGreat.K
open Go.RowKit
def mtI:Nat -> List Int -> List Nat -> Bool
 | 0,_,_ => true
 | n + 1,sets,left => match gon sets left with
  | none => false
  | some i => mtI n sets (left.filter (· != i))
def meL:Nat -> List Int -> List Nat -> List (Nat × Nat)
 | 0,_,_ => []
 | n + 1,sets,left => match gon sets left with
  | none => []
  | some i => (i,kp sets left i) :: meL n sets (left.filter (· != i))
def ecells (l:List (Nat × Nat)):List Value:=l.flatMap fun e => [.int .i64 (e.1:Int),.int .i64 (e.2:Int)]
theorem ecells_snoc (l:List (Nat × Nat)) (e:Nat × Nat):ecells (l ++ [e]) = ecells l ++ [.int .i64 (e.1:Int),.int .i64 (e.2:Int)]:=by simp [ecells]
theorem gon_mem {sets:List Int} {left:List Nat} {i:Nat} (h:gon sets left = some i):i ∈ left:=List.mem_of_find?_eq_some h
theorem filter_len {left:List Nat} (hd:left.Nodup) {i:Nat} (hi:i ∈ left):(left.filter (· != i)).length = left.length - 1:=by
 rw [← List.Nodup.erase_eq_filter hd,List.length_erase_of_mem hi]
def slLen:Value -> Nat
 | .slice _ n _ => n
 | _ => 0
theorem Tryz.info218:(Tryz.prog.info? 218).map (fun i => (i.zero,i.size,i.bytes)) = some (some (.agg #[.int .i64 0,.int .i64 0]),2,16):=by kernel_rfl
theorem two_new' (w:World) (o:Obj) (x y:Value) (t:TypeId):∀ j u,[x,y][j]? = some u -> ((w.alloc o).alloc (.cells #[x,y] t)).cell? ((⟨w.heap.size + 1,0,none⟩:Addr).add j) = some u:=by
 have:=two_new (w.alloc o) x y t
 simpa using this
def MakeTreeSaid:Prop:=∀ (base:Nat) (sets:List Int) (sv:Value) (w:World),w.ownsRow base 77 1 sv sets.length (u8s sets) -> 1 <= sets.length -> sets.length <= 100 ->
  Calls Tryz.prog 85 #[sv] w fun x w' => (∃ ea m ec,x = .returned (.tuple #[.slice ea m ec,.bool (mtI (sets.length - 1) sets (List.range sets.length))]) /\ (mtI (sets.length - 1) sets (List.range sets.length) = true -> w'.ownsRow w.heap.size 218 2 (.slice ea m ec) m (ecells (meL (sets.length - 1) sets (List.range sets.length))))) /\ Below w.heap.size w w'
theorem makeTree_said:MakeTreeSaid:=by
 intro base sets sv w ho h1 hl
 obtain ⟨sa,scap,rfl⟩:=own_form ho
 obtain ⟨i0,hi,hz0,hz1,hz2⟩:=info_parts Tryz.info218
 have HI:Hid _:=hi
 have HZ0:Hid _:=hz0
 have HZ1:Hid _:=hz1
 have HZ2:Hid _:=hz2
 clear hi hz0 hz1 hz2
 obtain ⟨MT,hMT⟩:∃ b,mtI (sets.length - 1) sets (List.range sets.length) = b:=⟨_,rfl⟩
 have HMT:Hid (mtI (sets.length - 1) sets (List.range sets.length) = MT):=hMT
 rw [hMT]
 clear hMT
 obtain ⟨ME,hME⟩:∃ b,meL (sets.length - 1) sets (List.range sets.length) = b:=⟨_,rfl⟩
 have HME:Hid (meL (sets.length - 1) sets (List.range sets.length) = ME):=hME
 rw [hME]
 clear hME
 go_enter Tryz.func85,Tryz.ntmps85
 go_wp2_with fail
 refine (numbersBelow_any sets.length w (by omega)).mono ?_
 rintro x w1 ⟨la,lc,rfl,hlo1,hb1⟩
 go_wp2_with fail
 go_loopw [4,5,6,7] (fun ev lv _ _ wr => ∃ (left:List Nat) (n m:Nat) (ds:List (Nat × Nat)),left.length = n + 1 /\ n + 1 <= 100 /\ m + n <= 100 /\ (∀ j,j ∈ left -> j < sets.length) /\ left.Nodup /\ wr.ownsRow w.heap.size 3 1 lv left.length (nats left) /\ wr.ownsRow w.heap.size 218 2 ev m (ecells ds) /\ Below w.heap.size w wr /\ mtI n sets left = MT /\ ds ++ meL n sets left = ME) (fun _ lv _ _ _ => slLen lv)
 case atStart => exact ⟨List.range sets.length,sets.length - 1,0,[],by simp;omega,by omega,by omega,fun j hj => List.mem_range.1 hj,List.nodup_range,by rw [List.length_range];exact hlo1,World.ownsRow_nil _ _ _ _,hb1,HMT.out,HME.out⟩
 case round =>
  obtain ⟨left,n,m,ds,hn,hn1,hmn,hin,hnd,hol,hoe,hbl,hmt,hme⟩:=hrel
  have HE:Hid (ds ++ meL n sets left = ME):=hme
  have HM:Hid (mtI n sets left = MT):=hmt
  have HIN:Hid (∀ j,j ∈ left -> j < sets.length):=hin
  have HND:Hid left.Nodup:=hnd
  clear hmt hin hnd hme
  obtain ⟨la1,lc1,rfl⟩:=own_form hol
  obtain ⟨ea1,ec1,rfl⟩:=own_form hoe
  cases n with
  | zero =>
   have hr:Hid (MT = true):=HM.out.symm.trans rfl
   go_wp2_with fail
   go_ret2
   have hdE:ds = ME:=by have:=HE.out;rwa [meL,List.append_nil] at this
   exact ⟨⟨ea1,m,ec1,by rw [hr.out];rfl,fun _ => by rw [← hdE];exact hoe⟩,hbl⟩
  | succ n =>
   have hor:=own_below' ho hbl
   go_wp2_with fail
   refine (firstToGo_any base w.heap.size sets left _ _ wr hor (by rw [hn] at hol ⊢;exact hol) hl h1 (by omega) HIN.out).mono ?_
   rintro x w2 ⟨⟨g,h,rfl,hg⟩,hb2⟩
   have hbl2:Below w.heap.size w w2:=hbl.trans (hb2.mono hbl.size)
   have hol2:=own_below' hol hb2
   have hoe2:=own_below' hoe hb2
   have HM2:Hid (mtI (n + 1) sets left = match gon sets left with
    | none => false
    | some i => mtI n sets (left.filter (· != i))):=rfl
   have HMEM:Hid (∀ i,gon sets left = some i -> i ∈ left):=fun i hi => gon_mem hi
   have HG:Hid (∀ i,gon sets left = some i -> g = (i:Int) /\ h = (kp sets left i:Int)):=hg
   have HE2:Hid (meL (n + 1) sets left = match gon sets left with
    | none => []
    | some i => (i,kp sets left i) :: meL n sets (left.filter (· != i))):=rfl
   clear hg hol hoe hb2 hor
   obtain ⟨G,hG⟩:∃ G,gon sets left = G:=⟨_,rfl⟩
   rw [hG] at HM2 HMEM HG HE2 ⊢
   clear hG
   cases G with
   | none =>
    have hr:Hid (MT = false):=HM.out.symm.trans HM2.out
    go_wp2_with fail
    go_ret2
    exact ⟨⟨none,0,0,by rw [hr.out];rfl,fun h => by rw [hr.out] at h;cases h⟩,hbl2.alloc hbl2.size _⟩
   | some i =>
    obtain ⟨hgi,hhi⟩:=HG.out i rfl
    subst hgi
    have HKD:Hid (ds ++ [(i,kp sets left i)] ++ meL n sets (left.filter (· != i)) = ME):=by
     have:=HE.out;rw [HE2.out] at this;unfold Hid;rw [← this];simp
    obtain ⟨J,hJ⟩:∃ J,kp sets left i = J:=⟨_,rfl⟩
    rw [hJ] at HKD hhi
    subst hhi
    clear hJ HE2 HE
    have hmem:=HMEM.out i rfl
    have HR:Hid (mtI n sets (left.filter (· != i)) = MT):=HM2.out.symm.trans HM.out
    have HLE:Hid ((left.filter (· != i)).length = n + 1):=by unfold Hid;rw [filter_len HND.out hmem];omega
    clear hmem HMEM HG
    have hws:w.heap.size <= w2.heap.size:=hbl2.size
    have hltE:∀ k,Value.ownBlock (.slice ea1 m ec1) = some k -> k < w2.heap.size:=fun k hk => (hoe2.lt k hk).2
    have HLTE:Hid (∀ k,Value.ownBlock (.slice ea1 m ec1) = some k -> k < w2.heap.size):=hltE
    clear hltE
    go_wp2_with (at_builtin;refine wpList_append_own _ rfl (.tmp 22) (.tmp 24) 119 rfl w.heap.size 218 i0 (.agg #[.int .i64 0,.int .i64 0]) 2 16 Tryz.underlying119 HI.out HZ0.out HZ1.out HZ2.out rfl (by decide) (.slice ea1 m ec1) _ _ rfl ((hoe2.alloc _).alloc _) ⟨w2.heap.size + 1,0,none⟩ 1 1 [.int .i64 (i:Int),.int .i64 (J:Int)] rfl rfl (two_new' _ _ _ _ _) (by intro u hu;simp at hu;rcases hu with rfl | rfl <;> rfl) (by unfold maxLen;omega) (by omega) (by simp;omega) ?_;intro v6 w6 hown6 hgrow6 _;obtain ⟨ea6,ec6,rfl⟩:=own_form hown6)
    have K6:Keeps (fun k _ => Value.ownBlock (.slice ea1 m ec1) = some k) w2 w6:=(((Keeps.refl _ _).alloc _).alloc _).grown hgrow6 (fun k hk => hk)
    have hol6:=own_keeps hol2 K6 (fun k _ _ h9 _ e => by have:=(own_tag hoe2 e).2.2;rw [h9] at this;simp at this)
    have hb6:Below w.heap.size w w6:=((hbl2.alloc hws _).alloc (by simp;omega) _).grown hgrow6 (by simp;omega) (fun k hk => by have:=(hoe2.lt k hk).1;exact this)
    have blE:w6.heap[w2.heap.size]? = some (.cells #[.int .i64 (i:Int),.int .i64 (J:Int)] 218 (0,0)) :=
     (hgrow6.block w2.heap.size (by simp;omega) (fun e => by have:=HLTE.out _ e.symm;omega)).trans ((Below.heap_alloc _ _ _ (by simp)).trans (heap_alloc_new _ _))
    have cE:w6.cell? ⟨w2.heap.size,0,none⟩ = some (.int .i64 (i:Int)):=by simp [World.cell?,blE]
    have tE:tag w6.heap[w2.heap.size]? = 218:=by rw [blE];rfl
    clear hgrow6 K6 hol2 hoe2 hbl2
    refine (delete_any w.heap.size w2.heap.size left _ i w6 (by rw [hn] at hol6 ⊢;exact hol6) (by omega) (by omega) cE tE).mono ?_
    rintro x w7 ⟨v',rfl,ho7,k7⟩
    obtain ⟨va7,vc7,rfl⟩:=own_form ho7
    have hoe7:=own_keeps hown6 k7 (fun k _ _ h9 _ e => by have:=(own_tag hol6 (by rw [hn];exact e)).2.2;rw [h9] at this;simp at this)
    have hb7:Below w.heap.size w w7:=hb6.trans ⟨k7.os,k7.tape,k7.output,k7.size,fun j hj => k7.block j (Nat.lt_of_lt_of_le hj hb6.size) (fun e => by have:=(own_tag hol6 (by rw [hn];exact e)).1;omega)⟩
    have HW:Hid (w7.ownsRow w.heap.size 3 1 (.slice va7 (left.filter (· != i)).length vc7) (left.filter (· != i)).length (nats (left.filter (· != i)))):=ho7
    clear ho7 k7 hol6 hown6 cE tE blE
    go_wp2_with fail
    go_roundw
    case rel => exact ⟨left.filter (· != i),n,m + 1,ds ++ [(i,J)],HLE.out,by omega,by omega,fun j hj => HIN.out j (List.mem_filter.1 hj).1,HND.out.filter _,HW.out,by rw [ecells_snoc];exact hoe7,hb7,HR.out,HKD.out⟩
    case measure => simp only [slLen];have:=HLE.out;omega
end Go.Proofs.YtondkinefmjpjaaGreat.K
