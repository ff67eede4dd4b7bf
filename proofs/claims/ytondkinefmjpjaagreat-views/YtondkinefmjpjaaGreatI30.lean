import Derived.Test.YtondkinefmjpjaaGreatI26
import Derived.Test.YtondkinefmjpjaaGreatI29
set_option maxHeartbeats 4000000
set_option maxRecDepth 100000
namespace Go.Proofs.YtondkinefmjpjaaGreat
open Go.RowKit Go.WideMaps Go.WideElems Go.Maps
def beyond (n l:Int):Bool:=decide (n < -l) || decide (l < n)
theorem isBeyond_any (n l:Int) (w:World) (h0:0 <= l) (h1:l <= 1000) :
  Calls Tryz.prog 45 #[.int .i64 n,.int .i64 l] w fun e w' => e = .returned (.bool (beyond n l)) /\ w' = w:=by
 have hw:IntKind.i64.wrap (-l) = -l:=by rw [IntKind.wrap_i64];omega
 obtain ⟨B,hB⟩:∃ B,beyond n l = B:=⟨_,rfl⟩
 have HB:Hid (beyond n l = B):=hB
 rw [hB]
 clear hB
 by_cases h2:n < -l
 ·have h3:Hid (B = true):=by rw [Hid,← HB.out];simp [beyond,h2]
  go_enter Tryz.func45,Tryz.ntmps45
  go_wp2
  go_ret
  exact ⟨vret_bool h3.out.symm,rfl⟩
 ·by_cases h4:l < n
  ·have h3:Hid (B = true):=by rw [Hid,← HB.out];simp [beyond,h4]
   go_enter Tryz.func45,Tryz.ntmps45
   go_wp2
   go_ret
   exact ⟨vret_bool h3.out.symm,rfl⟩
  ·have h3:Hid (B = false):=by rw [Hid,← HB.out];simp [beyond,h2,h4]
   go_enter Tryz.func45,Tryz.ntmps45
   go_wp2
   go_ret
   exact ⟨vret_bool h3.out.symm,rfl⟩
def okV (n:Int):Bool:=decide (0 <= n) && decide (n <= 999)
theorem areValues_any (v:Value) (xs:List Int) (w:World) (h:Reads w v xs) (hl:xs.length < 4611686018427387904) :
  Calls Tryz.prog 46 #[v] w fun e w' => e = .returned (.bool (xs.all okV)) /\ w' = w:=by
 obtain ⟨B,hB⟩:∃ B,xs.all okV = B:=⟨_,rfl⟩
 have HB:Hid (xs.all okV = B):=hB
 rw [hB]
 clear hB
 obtain ⟨a,cap,rfl,hr⟩:=h
 have HR:Hid _:=hr
 clear hr
 go_enter Tryz.func46,Tryz.ntmps46
 go_wp2_with fail
 go_loopw [4,7] (fun _ iv wr => wr = w /\ ∃ k:Nat,k <= xs.length /\ iv = .int .i64 k /\ (xs.take k).all okV = true) (fun _ iv _ => xs.length - (intOf iv).toNat)
 case atStart => exact ⟨rfl,0,Nat.zero_le _,rfl,by simp⟩
 case round =>
  obtain ⟨rfl,k,hk,rfl,hd⟩:=hrel
  have HD:Hid _:=hd
  clear hd
  by_cases hlt:k < xs.length
  ·obtain ⟨g,off,rfl,hc⟩:=HR.out (by omega)
   have c0:=hc k hlt
   have hx:xs.take (k + 1) = xs.take k ++ [xs.getD k 0]:=by rw [List.take_succ_eq_append_getElem hlt];simp [List.getD,hlt]
   obtain ⟨X,hX⟩:∃ X,xs.getD k 0 = X:=⟨_,rfl⟩
   rw [hX] at c0 hx
   have HX:Hid (xs.take (k + 1) = xs.take k ++ [X]):=hx
   have HM:Hid (X ∈ xs):=by rw [Hid,← hX,List.getD_eq_getElem?_getD,List.getElem?_eq_getElem hlt];exact List.getElem_mem hlt
   have bk:(k:Int) < (xs.length:Int):=by omega
   clear hx hX hc
   by_cases h2:X < 0
   ·have h3:Hid (B = false):=by
     rw [Hid,← HB.out,Bool.eq_false_iff];intro h
     have:=List.all_eq_true.1 h X HM.out
     simp [okV] at this;omega
    go_wp2
    go_ret
    exact ⟨vret_bool h3.out.symm,rfl⟩
   ·by_cases h4:999 < X
    ·have h3:Hid (B = false):=by
      rw [Hid,← HB.out,Bool.eq_false_iff];intro h
      have:=List.all_eq_true.1 h X HM.out
      simp [okV] at this;omega
     go_wp2
     go_ret
     exact ⟨vret_bool h3.out.symm,rfl⟩
    ·have h5:Hid (okV X = true):=by rw [Hid];simp [okV];omega
     go_wp2
     go_roundw
     case rel => exact ⟨trivial,k + 1,by omega,by go_num,by rw [HX.out,List.all_append,HD.out];simp [h5.out]⟩
     case measure => simp [intOf];omega
  ·have hkk:k = xs.length:=by omega
   subst hkk
   have h3:Hid (B = true):=by rw [Hid,← HB.out];have:=HD.out;rwa [List.take_length] at this
   go_wp2
   go_ret
   exact ⟨vret_bool h3.out.symm,rfl⟩
abbrev RelD:=ByteArray × Nat × List Nat
def relcells (rels:List RelD) (rvs:List Value):List Value:=(rels.zip rvs).flatMap fun p => [.string p.1.1,.int .i64 p.1.2.1,p.2]
theorem relcells_at (rels:List RelD) (rvs:List Value) (h:rvs.length = rels.length) (k:Nat) (hk:k < rels.length):(relcells rels rvs)[k * 3]? = some (.string (rels[k]).1) /\ (relcells rels rvs)[k * 3 + 1]? = some (.int .i64 (rels[k]).2.1) /\ (relcells rels rvs)[k * 3 + 2]? = some (rvs[k]'(by omega)):=by
 induction rels generalizing rvs k with
 | nil => simp at hk
 | cons d l ih =>
  match rvs,h with
  | v :: rvs,h =>
   cases k with
   | zero => simp [relcells]
   | succ k =>
    have:=ih rvs (by simpa using h) k (by simpa using hk)
    have e:relcells (d :: l) (v :: rvs) = [.string d.1,.int .i64 d.2.1,v] ++ relcells l rvs:=by simp [relcells]
    rw [e]
    have e0:(k + 1) * 3 = k * 3 + 3:=by omega
    rw [e0,List.getElem?_append_right (by simp),List.getElem?_append_right (by simp),List.getElem?_append_right (by simp)]
    simpa using this
def rixOf (rels:List RelD) (t:ByteArray):Int:=if rels.findIdx (fun p => p.1.toList == t.toList) < rels.length then (rels.findIdx (fun p => p.1.toList == t.toList):Int) else -1
theorem relN1_any (n:ByteArray) (k:Int) (v:Value) (TB:Nat) (t:ByteArray) (w:World) (hc:w.cell? ⟨TB,0,none⟩ = some (.string t)) :
  Calls Tryz.prog 73 #[.agg #[.string n,.int .i64 k,v],.pointer (some ⟨TB,0,none⟩)] w fun x w' => x = .returned (.bool (n.toList == t.toList)) /\ Below w.heap.size w w':=by
 have lb:=World.block_lt_of_cell? _ _ hc
 go_enter Tryz.func73,Tryz.ntmps73
 go_wp2
 go_ret
 exact ⟨rfl,(Below.refl _ _).alloc (Nat.le_refl _) _⟩
theorem relIx_any (base TB:Nat) (rels:List RelD) (rvs:List Value) (hrv:rvs.length = rels.length) (rv:Value) (t:ByteArray) (w:World) (ho:w.ownsRow base 106 3 rv rels.length (relcells rels rvs)) (hl:rels.length <= 1000) (hc:w.cell? ⟨TB,0,none⟩ = some (.string t)) :
  Calls Tryz.prog 72 #[rv,.func (.func 73) #[] #[.pointer (some ⟨TB,0,none⟩)]] w fun x w' => x = .returned (.int .i64 (rixOf rels t)) /\ Below w.heap.size w w':=by
 obtain ⟨ha,cap,rfl⟩:=vown_form ho
 have lt:=World.block_lt_of_cell? _ _ hc
 go_enter Tryz.func72,Tryz.ntmps72
 go_wp2_with fail
 go_loopw [5,8] (fun _ i wr => ∃ k:Nat,k <= rels.length /\ i = .int .i64 k /\ Below w.heap.size w wr /\ ∀ j (hj:j < rels.length),j < k -> (rels[j].1.toList == t.toList) = false) (fun _ i _ => rels.length - (intOf i).toNat)
 case atStart => exact ⟨0,Nat.zero_le _,rfl,Below.refl _ _,fun _ _ h => absurd h (Nat.not_lt_zero _)⟩
 case round =>
  obtain ⟨k,hk,rfl,hb,hd'⟩:=hrel
  have HD:Hid (∀ j (hj:j < rels.length),j < k -> (rels[j].1.toList == t.toList) = false):=hd'
  clear hd'
  have hor:=vown_below ho hb
  have hcr:=(hb.cell (p:=⟨TB,0,none⟩) lt).trans hc
  by_cases hlt:k < rels.length
  ·obtain ⟨g,cap',he⟩:=vown_some hor (by omega)
   simp only [Value.slice.injEq,true_and] at he
   obtain ⟨rfl,rfl⟩:=he
   obtain ⟨x0,x1,x2⟩:=relcells_at rels rvs hrv k hlt
   have y0:=(hor.cellAt (k * 3) (by omega)).trans x0
   have y1:=(hor.cellAt (k * 3 + 1) (by omega)).trans x1
   have y2:=(hor.cellAt (k * 3 + 2) (by omega)).trans x2
   obtain ⟨V,hV⟩:∃ V,rvs[k]'(by omega) = V:=⟨_,rfl⟩
   rw [hV] at y2
   clear x0 x1 x2 hV
   go_wp2_with fail
   refine (relN1_any (rels[k]).1 (rels[k]).2.1 V TB t _ hcr).mono ?_
   rintro e w1 ⟨rfl,hb1⟩
   have hb01:Below w.heap.size w w1:=hb.trans (hb1.mono hb.size)
   cases hx:(rels[k].1.toList == t.toList)
   ·go_wp2_with fail
    go_roundw
    case rel => exact ⟨k + 1,by omega,by go_num,hb01,fun j hj hjk => by
     by_cases e:j = k
     ·subst e;exact hx
     ·exact HD.out j hj (by omega)⟩
    case measure => simp [intOf];omega
   ·have HX:Hid (rixOf rels t = (k:Int)):=by
     have e:rels.findIdx (fun p => p.1.toList == t.toList) = k:=(List.findIdx_eq hlt).2 ⟨hx,fun j hj => HD.out j (by omega) hj⟩
     unfold Hid rixOf;rw [e,if_pos hlt]
    go_wp2_with fail
    go_ret
    exact ⟨vret_int HX.out.symm,hb01⟩
  ·have HX:Hid (rixOf rels t = -1):=by
    have e:rels.findIdx (fun p => p.1.toList == t.toList) = rels.length:=by
     refine List.findIdx_eq_length.2 (fun x hx => ?_)
     obtain ⟨j,hj,rfl⟩:=List.getElem_of_mem hx
     exact HD.out j hj (by omega)
    unfold Hid rixOf;rw [e,if_neg (by omega)]
   go_wp2_with fail
   go_ret
   exact ⟨vret_int HX.out.symm,hb⟩
theorem relNum_any (pb po base:Nat) (rels:List RelD) (rvs:List Value) (hrv:rvs.length = rels.length) (rv:Value) (t:ByteArray) (w:World) (hp:w.cell? ⟨pb,po + 2,none⟩ = some rv) (ho:w.ownsRow base 106 3 rv rels.length (relcells rels rvs)) (hl:rels.length <= 1000) :
  Calls Tryz.prog 44 #[.pointer (some ⟨pb,po,none⟩),.string t] w fun x w' => x = .returned (.int .i64 (rixOf rels t)) /\ Below w.heap.size w w':=by
 have lp:=World.block_lt_of_cell? _ _ hp
 obtain ⟨ha,cap,rfl⟩:=vown_form ho
 have hb0:Below w.heap.size w (w.alloc (.cells #[.string t] 9)):=(Below.refl _ _).alloc (Nat.le_refl _) _
 have ho':=vown_below ho hb0
 have hc:(w.alloc (.cells #[.string t] 9)).cell? ⟨w.heap.size,0,none⟩ = some (.string t):=by
  unfold World.cell?
  rw [vheap_alloc_new w (.cells #[.string t] 9)];rfl
 obtain ⟨I,hI⟩:∃ I,rixOf rels t = I:=⟨_,rfl⟩
 have HI:Hid (rixOf rels t = I):=hI
 have HB:Hid _:=hb0
 rw [hI]
 clear hI hb0
 go_enter Tryz.func44,Tryz.ntmps44
 go_wp2_with (go_at_call 72;refine (relIx_any base w.heap.size rels rvs hrv _ t _ ho' hl hc).mono ?_;rintro e w' ⟨rfl,hb1⟩)
 rw [HI.out]
 go_wp2_with fail
 go_ret
 exact ⟨rfl,HB.out.trans (hb1.mono (by simp))⟩
def refus (c x:Int) (n:Nat):Int:=if beyond (c + x) 99 = true then 8 else if c = 0 /\ x ≠ 0 /\ n = 12 then 3 else 0
theorem refusal_any (vb base r:Nat) (rb:List Nat) (f:List Int -> Int) (t:List Int) (x:Int) (w:World) (hr:r < rb.length) (hrl:rb.length < 100) (hv:∃ rv,w.cell? ⟨vb,8,none⟩ = some rv /\ w.ownsRow base 130 1 rv rb.length (mapVs rb)) (hf:CF 110 3 w (rb.getD r 0) f) (ht:t ∈ boxN 3)
  (hT:-99 <= f t /\ f t <= 99) (hx:-9 <= x /\ x <= 9) :
  Calls Tryz.prog 47 #[.pointer (some ⟨vb,8,none⟩),.int .i64 r,.agg (i64s t).toArray,.int .i64 x] w fun e w' => e = .returned (.int .i64 (refus (f t) x (live 3 f).length)) /\ Below w.heap.size w w':=by
 obtain ⟨rv,c0,ho⟩:=hv
 obtain ⟨rg,rcap,rfl⟩:=vown_some ho (by omega)
 have c1:=(ho.cellAt r (by omega)).trans (mapVs_at rb r hr)
 obtain ⟨b,hb⟩:∃ b,rb.getD r 0 = b:=⟨_,rfl⟩
 rw [hb] at c1 hf
 have l0:=World.block_lt_of_cell? _ _ c0
 have l1:=World.block_lt_of_cell? _ _ c1
 obtain ⟨D,hown,hrep,hsz⟩:=hf.tight (Or.inr ⟨rfl,rfl⟩)
 have hkey:=keyT t (box_length ht) (box_wf ht)
 have hat:=hrep.2.2 t ht
 rw [wr_small (by omega) (by omega)] at hat
 obtain ⟨F,hF⟩:∃ F,f t = F:=⟨_,rfl⟩
 obtain ⟨n,hn⟩:∃ n,(live 3 f).length = n:=⟨_,rfl⟩
 rw [hF] at hat hT
 rw [hn] at hown hsz
 rw [hF,hn]
 obtain ⟨t0,t1,t2,hte⟩:=three t (box_length ht)
 have hA:(i64s t).toArray = #[.int .i64 t0,.int .i64 t1,.int .i64 t2]:=by rw [hte];rfl
 rw [hA] at hkey ⊢
 have HK:Hid (keyOf Tryz.prog 110 (.agg #[.int .i64 t0,.int .i64 t1,.int .i64 t2]) = some (klOf t)):=hkey
 have bl:(r:Int) < (rb.length:Int):=by omega
 have hwr:IntKind.i64.wrap (F + x) = F + x:=by rw [IntKind.wrap_i64];omega
 have LOOK:(Instr.lookup 130 (.map (some b)) (.agg #[.int .i64 t0,.int .i64 t1,.int .i64 t2]) false).run Tryz.prog (w.alloc (.cells #[.int .i64 t0,.int .i64 t1,.int .i64 t2] 110)) = .ok (.int .i64 F) (w.alloc (.cells #[.int .i64 t0,.int .i64 t1,.int .i64 t2] 110)):=by
  obtain ⟨c',hl,hat',_⟩:=World.ownsMap.lookup_int (World.ownsMap.alloc hown (.cells #[.int .i64 t0,.int .i64 t1,.int .i64 t2] 110)) (Keyed.of_law lawT) Tryz.underlying130 Tryz.underlying3 (zero3 _) HK.out
  have hcc:c' = F:=by
   have:=hat'.symm.trans hat
   simpa [i64d] using this
  rw [hl,hcc]
 have hown1:=World.ownsMap.alloc hown (.cells #[.int .i64 t0,.int .i64 t1,.int .i64 t2] 110)
 have hlen:=World.ownsMap.len hown1 Tryz.underlying130 3
 rw [hsz] at hlen
 obtain ⟨R,hR⟩:∃ R,refus F x n = R:=⟨_,rfl⟩
 have HR:Hid (refus F x n = R):=hR
 rw [hR]
 clear hR hkey hA hte hown hat hF hn
 have hbel:Hid (Below w.heap.size w (w.alloc (.cells #[.int .i64 t0,.int .i64 t1,.int .i64 t2] 110))):=(Below.refl _ _).alloc (Nat.le_refl _) _
 cases hbe:beyond (F + x) 99
 ·by_cases h1:F = 0
  ·by_cases h2:x = 0
   ·have h3:Hid (R = 0):=by rw [Hid,← HR.out,refus,hbe];simp [h2]
    have e1:(F == 0) = true:=by simp [h1]
    have e2:(x != 0) = false:=by simp [h2]
    clear h1 h2
    go_enter Tryz.func47,Tryz.ntmps47
    go_wp2_with (go_at_call 45;refine (isBeyond_any _ 99 _ (by decide) (by decide)).mono ?_;rintro e w1 ⟨rfl,rfl⟩;rw [hbe])
    go_ret
    exact ⟨vret_int h3.out.symm,hbel.out⟩
   ·by_cases h4:n = 12
    ·have h3:Hid (R = 3):=by rw [Hid,← HR.out,refus,hbe];simp [h1,h2,h4]
     have e1:(F == 0) = true:=by simp [h1]
     have e2:(x != 0) = true:=by simp [h2]
     have e4:((n:Int) == 12) = true:=by simp;omega
     clear h1 h2 h4
     go_enter Tryz.func47,Tryz.ntmps47
     go_wp2_with (go_at_call 45;refine (isBeyond_any _ 99 _ (by decide) (by decide)).mono ?_;rintro e w1 ⟨rfl,rfl⟩;rw [hbe])
     go_ret
     exact ⟨vret_int h3.out.symm,hbel.out⟩
    ·have h3:Hid (R = 0):=by rw [Hid,← HR.out,refus,hbe];simp [h4]
     have e1:(F == 0) = true:=by simp [h1]
     have e2:(x != 0) = true:=by simp [h2]
     have e4:((n:Int) == 12) = false:=by simp;omega
     clear h1 h2 h4
     go_enter Tryz.func47,Tryz.ntmps47
     go_wp2_with (go_at_call 45;refine (isBeyond_any _ 99 _ (by decide) (by decide)).mono ?_;rintro e w1 ⟨rfl,rfl⟩;rw [hbe])
     go_ret
     exact ⟨vret_int h3.out.symm,hbel.out⟩
  ·have h3:Hid (R = 0):=by rw [Hid,← HR.out,refus,hbe];simp [h1]
   have e1:(F == 0) = false:=by simp [h1]
   clear h1
   go_enter Tryz.func47,Tryz.ntmps47
   go_wp2_with (go_at_call 45;refine (isBeyond_any _ 99 _ (by decide) (by decide)).mono ?_;rintro e w1 ⟨rfl,rfl⟩;rw [hbe])
   go_ret
   exact ⟨vret_int h3.out.symm,hbel.out⟩
 ·have h3:Hid (R = 8):=by rw [Hid,← HR.out,refus,hbe];simp
  go_enter Tryz.func47,Tryz.ntmps47
  go_wp2_with (go_at_call 45;refine (isBeyond_any _ 99 _ (by decide) (by decide)).mono ?_;rintro e w1 ⟨rfl,rfl⟩;rw [hbe])
  go_ret
  exact ⟨vret_int h3.out.symm,hbel.out⟩
end Go.Proofs.YtondkinefmjpjaaGreat
namespace Go.Proofs.YtondkinefmjpjaaGreat
open Go.RowKit Go.WideMaps Go.WideElems Go.Maps Go.Shelf
structure PlanD where
 head:List Nat
 H:Nat
 rels:List RelD
 pats:List (List (Bool × Int))
 ms:List Nat
 es:List (Nat × Nat)
def PlanD.lk (P:PlanD):List (Nat × Nat):=lkE P.es
def PlanD.walk (P:PlanD) (i:Nat):List Nat:=wfL 4 P.lk i 9
def PlanD.rel (P:PlanD) (r:Nat):RelD:=P.rels.getD r (ByteArray.empty,0,[])
def PlanD.pat (P:PlanD) (i:Nat):List (Bool × Int):=P.pats.getD i []
structure PlanSt (w:World) (vb:Nat) (P:PlanD):Prop where
 head:∃ hv base,w.cell? ⟨vb,2,none⟩ = some hv /\ w.ownsRow base 3 1 hv P.head.length (nats P.head)
 H:w.cell? ⟨vb,3,none⟩ = some (.int .u8 P.H)
 rels:∃ rv base rvs,w.cell? ⟨vb,4,none⟩ = some rv /\ w.ownsRow base 106 3 rv P.rels.length (relcells P.rels rvs) /\ rvs.length = P.rels.length /\ ∀ k,k < P.rels.length -> ∃ b',w.ownsRow b' 3 1 (rvs.getD k (.bool false)) (P.rel k).2.2.length (nats (P.rel k).2.2)
 pats:∃ av base pvs,w.cell? ⟨vb,5,none⟩ = some av /\ w.ownsRow base 156 1 av P.pats.length pvs /\ pvs.length = P.pats.length /\ ∀ k,k < P.pats.length -> ∃ b',w.ownsRow b' 205 2 (pvs.getD k (.bool false)) (P.pat k).length (tmcells (P.pat k))
 lks:∃ lv base,w.cell? ⟨vb,6,none⟩ = some lv /\ w.ownsRow base 163 4 lv P.lk.length (lkcells P.ms P.lk)
 walks:∃ wv base wvs,w.cell? ⟨vb,7,none⟩ = some wv /\ w.ownsRow base 28 1 wv P.ms.length wvs /\ wvs.length = P.ms.length /\ ∀ k,k < P.ms.length -> ∃ b',w.ownsRow b' 3 1 (wvs.getD k (.bool false)) (P.walk k).length (nats (P.walk k))
theorem PlanSt.fr {M:Nat -> Prop} {w w':World} {vb:Nat} {P:PlanD} (h:PlanSt w vb P) (hf:Fr M w w') (hm:Mps w M):PlanSt w' vb P:=by
 obtain ⟨⟨hv,b1,h1,h2⟩,h3,⟨rv,b2,rvs,h4,h5,h6,h7⟩,⟨av,b3,pvs,h8,h9,h10,h11⟩,⟨lv,b4,h12,h13⟩,⟨wv,b5,wvs,h14,h15,h16,h17⟩⟩:=h
 exact ⟨⟨hv,b1,hf.cell hm h1,hf.own hm h2⟩,hf.cell hm h3,⟨rv,b2,rvs,hf.cell hm h4,hf.own hm h5,h6,fun k hk => let ⟨b',h⟩:=h7 k hk;⟨b',hf.own hm h⟩⟩,⟨av,b3,pvs,hf.cell hm h8,hf.own hm h9,h10,fun k hk => let ⟨b',h⟩:=h11 k hk;⟨b',hf.own hm h⟩⟩,⟨lv,b4,hf.cell hm h12,hf.own hm h13⟩,⟨wv,b5,wvs,hf.cell hm h14,hf.own hm h15,h16,fun k hk => let ⟨b',h⟩:=h17 k hk;⟨b',hf.own hm h⟩⟩⟩
structure PlanOk (P:PlanD):Prop where
 n1:1 <= P.ms.length
 n4:P.ms.length <= 4
 np:P.pats.length = P.ms.length
 m64:∀ m,m ∈ P.ms -> m < 64
 ears:Ears P.ms (List.range P.ms.length) P.es
 head6:P.head.length <= 6
 headlt:∀ n,n ∈ P.head -> n < 6
 H64:P.H < 64
 nrel:P.rels.length <= 4
 rat:∀ r,r < P.rels.length -> (P.rel r).2.2.Nodup /\ ∀ i,i ∈ (P.rel r).2.2 -> i < P.ms.length /\ (P.pat i).length = (P.rel r).2.1
 patl:∀ i,i < P.ms.length -> (P.pat i).length <= 3
 patn:∀ i,i < P.ms.length -> ∀ t,t ∈ P.pat i -> (t.1 = true -> 0 <= t.2 /\ t.2 < 6) /\ 0 <= t.2 /\ t.2 <= 999
 patm:∀ i,i < P.ms.length -> ∀ j,j < 6 -> (P.ms.getD i 0).testBit j = (P.pat i).any fun t => t.1 && t.2 == j
def OwB (own:Nat -> Option (Nat × List Int)) (i:Nat):Prop:=∃ r,own i = some r
structure VUp (w w':World) (own own':Nat -> Option (Nat × List Int)):Prop where
 fr:Fr (OwB own) w w'
 old:∀ i,i < w.heap.size -> own' i = own i
 new:∀ (i:Nat) r,w.heap.size <= i -> own' i = some r -> own i = some r ∨ r.1 = 3
 maps:∀ (i:Nat) (es:Array MapEntry) (c:Nat),w.heap[i]? = some (Obj.map es c) -> ∃ es' c',w'.heap[i]? = some (Obj.map es' c')
theorem VUp.refl (w:World) (own:Nat -> Option (Nat × List Int)):VUp w w own own:=⟨Fr.refl _ _,fun _ _ => rfl,fun _ _ _ h => Or.inl h,fun _ es c h => ⟨es,c,h⟩⟩
theorem VUp.trans {w w1 w2:World} {own own1 own2:Nat -> Option (Nat × List Int)} (h:VUp w w1 own own1) (h':VUp w1 w2 own1 own2):VUp w w2 own own2:=by
 refine ⟨h.fr.trans h'.fr (fun i hi hM => ?_),fun i hi => (h'.old i (by have:=h.fr.size;omega)).trans (h.old i hi),fun i r hi hr => ?_,fun i es c hi => ?_⟩
 ·obtain ⟨r,hr⟩:=hM
  exact ⟨r,by rw [← h.old i hi];exact hr⟩
 ·by_cases hl:i < w1.heap.size
  ·rw [h'.old i hl] at hr;exact h.new i r hi hr
  ·rcases h'.new i r (by omega) hr with e | e
   ·exact h.new i r hi e
   ·exact Or.inr e
 ·obtain ⟨es',c',e⟩:=h.maps i es c hi
  exact h'.maps i es' c' e
theorem VUp.of_own {w w':World} {own own':Nat -> Option (Nat × List Int)} (h:OwnUp w w' own own'):VUp w w' own own' :=
 ⟨h.fr.mono (fun _ _ ⟨r,hr,_⟩ => ⟨r,hr⟩),h.old,h.new,h.maps⟩
theorem VUp.of_fr {w w1:World} (own:Nat -> Option (Nat × List Int)) (h:Fr (fun _ => False) w w1):VUp w w1 own own:=VUp.of_own (OwnUp.of_fr own h)
theorem VUp.of_maps {w w':World} {own:Nat -> Option (Nat × List Int)} {M:Nat -> Prop} (h:Fr M w w') (ho:∀ i,i < w.heap.size -> M i -> OwB own i) (hm:∀ i,i < w.heap.size -> M i -> ∃ es c,w'.heap[i]? = some (Obj.map es c)):VUp w w' own own :=
 ⟨h.mono ho,fun _ _ => rfl,fun _ _ _ h => Or.inl h,fun i es c hi => by
  by_cases e:M i
  ·exact hm i (vlt_of_block hi) e
  ·exact ⟨es,c,(h.block i (vlt_of_block hi) e).trans hi⟩⟩
theorem Own.up {w w':World} {ib:List Nat} {n:Nat} {g:Nat -> List Int -> Option Nat} {own:Nat -> Option (Nat × List Int)} (h:Own w ib n g own) (hu:VUp w w' own own):Own w' ib n g own :=
 ⟨h.o,h.i,fun i r hr => by obtain ⟨es,c,e⟩:=h.m i r hr;exact hu.maps i es c e⟩
theorem mps_ow {w:World} {ib:List Nat} {n:Nat} {g:Nat -> List Int -> Option Nat} {own:Nat -> Option (Nat × List Int)} (h:Own w ib n g own):Mps w (OwB own):=fun i _ hM => by
 obtain ⟨r,hr⟩:=hM;exact h.m i r hr
theorem Ixs.keep {w w':World} {ms:List Nat} {lk:List (Nat × Nat)} {ib:List Nat} {cf:Nat -> List Int -> Int} {g:Nat -> List Int -> Option Nat} {own:Nat -> Option (Nat × List Int)} (hA:IxAll w ms lk ib cf g) (hW:Own w ib lk.length g own) {M:Nat -> Prop} (hf:Fr M w w') (hM:∀ i r,own i = some r -> (r.1 = 2 ∨ r.1 = 3) -> ¬ M i):IxAll w' ms lk ib cf g :=
 fun l hl => (hA l hl).block (hf.block _ (hA l hl).o.lt (hM _ _ (hW.o l hl) (Or.inl rfl))) (fun k hk c hc => hf.block _ ((hA l hl).i k hk c hc).1.lt (hM _ _ (hW.i l hl k hk c hc) (Or.inr rfl)))
def PlanD.wor (P:PlanD) (f:Nat -> List Int -> Int) (h:List Int):Int:=Go.Proofs.YtondkinefmjpjaaGreat.wor (orL P.ms) P.H (atomsOf P.ms f) h
def fK (P:PlanD) (f:Nat -> List Int -> Int) (ats:List Nat) (t:List Int) (x:Int) (k:Nat):Nat -> List Int -> Int:=fun i => if i ∈ ats.take k /\ mOk (P.pat i) t = true then bump (f i) (mVars (P.pat i) t) x else f i
theorem fK_zero (P:PlanD) (f:Nat -> List Int -> Int) (ats:List Nat) (t:List Int) (x:Int):fK P f ats t x 0 = f:=by funext i;simp [fK]
theorem take_mem {ats:List Nat} {k:Nat} (hk:k < ats.length) (i:Nat):i ∈ ats.take (k + 1) ↔ i ∈ ats.take k ∨ i = ats[k]:=by
 rw [List.take_succ_eq_append_getElem hk,List.mem_append,List.mem_singleton]
theorem fK_no {P:PlanD} {f:Nat -> List Int -> Int} {ats:List Nat} {t:List Int} {x:Int} {k:Nat} (hk:k < ats.length) (h:mOk (P.pat ats[k]) t = false):fK P f ats t x (k + 1) = fK P f ats t x k:=by
 funext i
 simp only [fK,take_mem hk]
 by_cases e:i = ats[k]
 ·subst e;simp only [h,Bool.false_eq_true,and_false]
 ·simp only [e,or_false]
theorem fK_yes {P:PlanD} {f:Nat -> List Int -> Int} {ats:List Nat} {t:List Int} {x:Int} {k:Nat} (hn:ats.Nodup) (hk:k < ats.length) (h:mOk (P.pat ats[k]) t = true):fK P f ats t x (k + 1) = updF (fK P f ats t x k) ats[k] (mVars (P.pat ats[k]) t) x:=by
 funext i
 simp only [fK,updF,take_mem hk]
 by_cases e:i = ats[k]
 ·subst e
  have hni:¬ ats[k] ∈ ats.take k:=by
   intro hm
   obtain ⟨j,hj,e⟩:=List.mem_iff_getElem.1 hm
   rw [List.getElem_take] at e
   simp only [List.length_take] at hj
   have:=(List.getElem_inj hn).1 e
   omega
  simp only [or_true,h,and_self,if_true,hni,false_and,if_false]
 ·simp only [e,or_false,if_false]
structure ChS (w wr:World) (vb ob wb OB VB HB VB2:Nat) (P:PlanD) (ib:List Nat) (f0 fk:Nat -> List Int -> Int) (O:List Int -> Int) (own:Nat -> Option (Nat × List Int)) (g':Nat -> List Int -> Option Nat) (own':Nat -> Option (Nat × List Int)):Prop where
 env:HEnv wr ob wb vb OB VB HB VB2 P.H
 pl:PlanSt wr vb P
 ixs:∃ iv base,wr.cell? ⟨vb,9,none⟩ = some iv /\ wr.ownsRow base 166 1 iv ib.length (mapVs ib)
 A:IxAll wr P.ms P.lk ib (fun l => fk (P.lk.getD l (0,0)).2) g'
 W:Own wr ib P.lk.length g' own'
 ow:own' wb = some (0,[]) /\ own' ob = some (4,[])
 up:VUp w wr own own'
 cw:CF 93 6 wr wb (P.wor fk)
 co:CF 93 6 wr ob (fun h => O h + (P.wor fk h - P.wor f0 h))
theorem ChS.fr {w wr wr':World} {vb ob wb OB VB HB VB2:Nat} {P:PlanD} {ib:List Nat} {f0 fk:Nat -> List Int -> Int} {O:List Int -> Int} {own own':Nat -> Option (Nat × List Int)} {g':Nat -> List Int -> Option Nat} (h:ChS w wr vb ob wb OB VB HB VB2 P ib f0 fk O own g' own') (hf:Fr (fun _ => False) wr wr'):ChS w wr' vb ob wb OB VB HB VB2 P ib f0 fk O own g' own':=by
 obtain ⟨iv,base,i1,i2⟩:=h.ixs
 exact ⟨h.env.fr hf (mps_none _),h.pl.fr hf (mps_none _),⟨iv,base,hf.cell (mps_none _) i1,hf.own (mps_none _) i2⟩,h.A.fr hf,h.W.fr hf,h.ow,h.up.trans (VUp.of_fr own' hf),h.cw.fr hf (fun h => h),h.co.fr hf (fun h => h)⟩
theorem len_lk {P:PlanD} (hP:PlanOk P):P.lk.length < 100:=by
 have h:∀ (es:List (Nat × Nat)),(lkE es).length = 2 * es.length:=fun es => by
  induction es with
  | nil => rfl
  | cons e es ih => simp only [lkE,List.flatMap_cons,List.length_append,List.length_cons,List.length_nil] at ih ⊢;omega
 have he:∀ (es:List (Nat × Nat)) (ms left:List Nat),Ears ms left es -> es.length <= left.length:=fun es => by
  induction es with
  | nil => intro ms left _;simp
  | cons e es ih =>
   intro ms left h
   have:=ih ms _ h.2.2.2.2
   have:=filter_less h.1
   simp only [List.length_cons];omega
 have:=he _ _ _ hP.ears
 rw [List.length_range] at this
 unfold PlanD.lk
 rw [h]
 have:=hP.n4
 omega
theorem walk_ok {P:PlanD} (hP:PlanOk P) {i:Nat} (hi:i < P.ms.length):(∀ l,l ∈ P.walk i -> l < P.lk.length) /\ (P.walk i).length < 100:=by
 obtain ⟨w1,w2,_⟩:=hP.ears.walk hP.n1 hP.n4 hi
 refine ⟨w2,?_⟩
 have:=w1.length_eq
 rw [List.length_range,List.length_cons,List.length_map] at this
 have:=hP.n4
 unfold PlanD.walk PlanD.lk
 omega
theorem getD_set (l:List Int) (n j:Nat) (v:Int):(l.set n v).getD j 0 = if n = j /\ n < l.length then v else l.getD j 0:=by
 simp only [List.getD_eq_getElem?_getD,List.getElem?_set]
 by_cases e:n = j
 ·subst e
  by_cases h:n < l.length
  ·simp [h]
  ·simp [h]
 ·simp [e]
theorem zeros_at (j:Nat):zeros6.getD j 0 = 0:=by
 match j with
 | 0 => rfl
 | 1 => rfl
 | 2 => rfl
 | 3 => rfl
 | 4 => rfl
 | 5 => rfl
 | n + 6 => rfl
theorem bx_zeros:Bx zeros6:=⟨rfl,fun j _ => by rw [zeros_at];omega⟩
theorem row_at {t:List Int} (ht:t ∈ boxN 3) (k:Nat):0 <= t.getD k 0 /\ t.getD k 0 <= 999:=by
 rw [List.getD_eq_getElem?_getD]
 cases e:t[k]? with
 | none => simp
 | some v => exact (mem_boxN.1 ht).2 v (List.mem_of_getElem? e)
theorem mvK_bx (p:List (Bool × Int)) {t:List Int} (ht:t ∈ boxN 3) (k:Nat):Bx (mvK p t k):=by
 induction k with
 | zero => exact bx_zeros
 | succ k ih =>
  rw [mvK]
  split
  ·refine ⟨by rw [List.length_set];exact ih.1,fun j hj => ?_⟩
   rw [getD_set]
   split
   ·exact row_at ht k
   ·exact ih.2 j hj
  ·exact ih
theorem mvK_zero (p:List (Bool × Int)) (t:List Int) (k j:Nat) (h:∀ k',k' < k -> (p.getD k' (false,0)).1 = true -> (p.getD k' (false,0)).2.toNat ≠ j):(mvK p t k).getD j 0 = 0:=by
 induction k with
 | zero => exact zeros_at j
 | succ k ih =>
  rw [mvK]
  split
  ·rename_i e
   rw [getD_set,if_neg (fun hh => h k (by omega) e hh.1)]
   exact ih (fun k' hk' => h k' (by omega))
  ·exact ih (fun k' hk' => h k' (by omega))
theorem mvars_ok {P:PlanD} (hP:PlanOk P) {i:Nat} (hi:i < P.ms.length) {t:List Int} (ht:t ∈ boxN 3):mVars (P.pat i) t ∈ box /\ (mOk (P.pat i) t = true -> rst (P.ms.getD i 0) (mVars (P.pat i) t) = mVars (P.pat i) t):=by
 refine ⟨?_,fun h => ?_⟩
 ·unfold mVars
  split
  ·exact mem_box.2 (mvK_bx _ ht _)
  ·exact mem_box.2 bx_zeros
 ·unfold mVars
  rw [if_pos h]
  refine ext6 (rst_len _ _) (mvK_len _ _ _) fun j hj => ?_
  rw [rst_at _ _ hj]
  split
  ·rfl
  ·rename_i hb
   refine (mvK_zero _ _ _ j fun k' hk' h1 h2 => hb ?_).symm
   rw [hP.patm i hi j hj,List.any_eq_true]
   have hm:(P.pat i).getD k' (false,0) ∈ P.pat i:=by rw [List.getD_eq_getElem?_getD,List.getElem?_eq_getElem hk'];exact List.getElem_mem hk'
   have h3:=((hP.patn i hi _ hm).1 h1).1
   refine ⟨_,hm,?_⟩
   rw [h1,Bool.true_and,beq_iff_eq]
   omega
theorem ChS.step {w w1 w2 w3:World} {vb ob wb OB VB HB VB2:Nat} {P:PlanD} (hP:PlanOk P) {ib:List Nat} {f0 fk:Nat -> List Int -> Int} {O:List Int -> Int} {own own':Nat -> Option (Nat × List Int)} {g':Nat -> List Int -> Option Nat} (h:ChS w w1 vb ob wb OB VB HB VB2 P ib f0 fk O own g' own')
  (hf:∀ k a,fk k a ≠ 0 -> Bx a /\ rst (P.ms.getD k 0) a = a) {i:Nat} (hi:i < P.ms.length) {a:List Int} (ha:a ∈ box) (ham:rst (P.ms.getD i 0) a = a) (x:Int)
  (hj:JP ob wb (fun h => O h + (P.wor fk h - P.wor f0 h)) (P.wor fk) (jn P.H ((P.walk i).map (stpOf P.ms P.lk fk)) a x) w1 (.returned (.tuple #[])) w2)
  {g3:Nat -> List Int -> Option Nat} {own3:Nat -> Option (Nat × List Int)} (h3:IxAll w3 P.ms P.lk ib (cfK P.lk (fun l => fk (P.lk.getD l (0,0)).2) i a x P.lk.length) g3) (h4:Own w3 ib P.lk.length g3 own3) (h5:OwnUp w2 w3 own' own3) :
  ChS w w3 vb ob wb OB VB HB VB2 P ib f0 (updF fk i a x) O own g3 own3:=by
 obtain ⟨_,j1,j2,j3⟩:=hj
 have hms:∀ m,m ∈ P.ms -> m < 256:=fun m hm => by have:=hP.m64 m hm;omega
 have hadd:∀ y,P.wor (updF fk i a x) y = P.wor fk y + jn P.H ((P.walk i).map (stpOf P.ms P.lk fk)) a x y:=fun y => walk_adds hms hP.n1 hP.n4 hP.ears hf hi P.H (mem_box.1 ha) ham x y
 have hm1:Mps w1 (fun i => i = ob ∨ i = wb):=mps_two h.co h.cw
 have hv12:VUp w1 w2 own' own':=VUp.of_maps j3 (fun i _ hM => by
  rcases hM with rfl | rfl
  ·exact ⟨_,h.ow.2⟩
  ·exact ⟨_,h.ow.1⟩) (fun i _ hM => by
  rcases hM with rfl | rfl
  ·exact j1.isMap
  ·exact j2.isMap)
 have hW2:=h.W.up hv12
 have hm2:=mps_own hW2
 have n0:¬ IxB own' wb:=fun ⟨r,hr,hk⟩ => by rw [h.ow.1] at hr;simp at hr;subst hr;simp at hk
 have n4:¬ IxB own' ob:=fun ⟨r,hr,hk⟩ => by rw [h.ow.2] at hr;simp at hr;subst hr;simp at hk
 obtain ⟨iv,base,i1,i2⟩:=h.ixs
 refine ⟨(h.env.fr j3 hm1).fr h5.fr hm2,(h.pl.fr j3 hm1).fr h5.fr hm2,⟨iv,base,h5.fr.cell hm2 (j3.cell hm1 i1),h5.fr.own hm2 (j3.own hm1 i2)⟩,h3.congr (fun l hl => ?_),h4,⟨(h5.old _ j2.lt).trans h.ow.1,(h5.old _ j1.lt).trans h.ow.2⟩,(h.up.trans hv12).trans (VUp.of_own h5),(j2.fr h5.fr n0).congr (fun y _ => by rw [hadd]),(j1.fr h5.fr n4).congr (fun y _ => ?_)⟩
 ·unfold cfK updF
  by_cases e:(P.lk.getD l (0,0)).2 = i
  ·simp only [hl,e,and_self,if_true]
  ·simp only [e,and_false,if_false]
 ·show wr (O y + (P.wor fk y - P.wor f0 y) + jn P.H ((P.walk i).map (stpOf P.ms P.lk fk)) a x y) = _
  rw [hadd];congr 1;omega
theorem hms256 {P:PlanD} (hP:PlanOk P):∀ m,m ∈ P.ms -> m < 256:=fun m hm => by have:=hP.m64 m hm;omega
theorem ChS.roles {w u:World} {vb ob wb OB VB HB VB2:Nat} {P:PlanD} {ib:List Nat} {f0 fk:Nat -> List Int -> Int} {O:List Int -> Int} {own own':Nat -> Option (Nat × List Int)} {g':Nat -> List Int -> Option Nat} (h:ChS w u vb ob wb OB VB HB VB2 P ib f0 fk O own g' own') :
  ob ≠ wb /\ (∀ k,k < P.lk.length -> ib.getD k 0 ≠ ob /\ ib.getD k 0 ≠ wb) /\ ∀ k,k < P.lk.length -> ∀ x,x ∈ box -> ∀ d,g' k x = some d -> d ≠ ob /\ d ≠ wb:=by
 refine ⟨fun e => ?_,fun k hk => ⟨fun e => ?_,fun e => ?_⟩,fun k hk x hx d hd => ⟨fun e => ?_,fun e => ?_⟩⟩
 ·have:=h.ow.1;rw [← e,h.ow.2] at this;simp at this
 ·have:=h.W.o k hk;rw [e,h.ow.2] at this;simp at this
 ·have:=h.W.o k hk;rw [e,h.ow.1] at this;simp at this
 ·have:=h.W.i k hk x hx d hd;rw [e,h.ow.2] at this;simp at this
 ·have:=h.W.i k hk x hx d hd;rw [e,h.ow.1] at this;simp at this
theorem ChS.join {w u:World} {vb ob wb OB VB HB VB2:Nat} {P:PlanD} (hP:PlanOk P) {ib:List Nat} (hil:ib.length = P.lk.length) {f0 fk:Nat -> List Int -> Int} {O:List Int -> Int} {own own':Nat -> Option (Nat × List Int)} {g':Nat -> List Int -> Option Nat} (h:ChS w u vb ob wb OB VB HB VB2 P ib f0 fk O own g' own')
  (hT:∀ k x,wr (fk k x) = fk k x) {i:Nat} (hi:i < P.ms.length) {a:List Int} (ha:a ∈ box) (x:Int) {b':Nat} {sv:Value} (hs:u.ownsRow b' 3 1 sv (P.walk i).length (nats (P.walk i))) :
  Calls Tryz.prog 76 #[.pointer (some ⟨vb,0,none⟩),sv,.agg (i64s a).toArray,.int .i64 (wr x),.func (.func 77) #[] #[.pointer (some ⟨HB,0,none⟩),.pointer (some ⟨VB,0,none⟩)]] u (JP ob wb (fun h => O h + (P.wor fk h - P.wor f0 h)) (P.wor fk) (jn P.H ((P.walk i).map (stpOf P.ms P.lk fk)) a x) u):=by
 obtain ⟨r1,r2,r3⟩:=h.roles
 obtain ⟨w1,w2⟩:=walk_ok hP hi
 exact join_any ob wb vb OB VB HB VB2 P.H P.ms P.lk fk ib g' (by have:=hP.H64;omega) (hms256 hP) hT (len_lk hP) r1 r2 r3 (P.walk i) w1 w2 _ _ b' sv a x u h.env ⟨h.pl.lks,h.ixs,hil,h.A⟩ hs h.co h.cw ha
theorem ChS.add {w w1 w2:World} {vb ob wb OB VB HB VB2:Nat} {P:PlanD} (hP:PlanOk P) {ib:List Nat} (hil:ib.length = P.lk.length) {f0 fk:Nat -> List Int -> Int} {O:List Int -> Int} {own own':Nat -> Option (Nat × List Int)} {g':Nat -> List Int -> Option Nat} (h:ChS w w1 vb ob wb OB VB HB VB2 P ib f0 fk O own g' own')
  (hf:∀ k a,fk k a ≠ 0 -> Bx a /\ rst (P.ms.getD k 0) a = a) {i:Nat} (hi:i < P.ms.length) {a:List Int} (ha:a ∈ box) (ham:rst (P.ms.getD i 0) a = a) (x:Int) {e:Ending}
  (hj:JP ob wb (fun h => O h + (P.wor fk h - P.wor f0 h)) (P.wor fk) (jn P.H ((P.walk i).map (stpOf P.ms P.lk fk)) a x) w1 e w2) :
  Calls Tryz.prog 79 #[.pointer (some ⟨vb,0,none⟩),.int .i64 i,.agg (i64s a).toArray,.int .i64 (wr x)] w2 fun e w3 => e = .returned (.tuple #[]) /\ ∃ g3 own3,ChS w w3 vb ob wb OB VB HB VB2 P ib f0 (updF fk i a x) O own g3 own3 /\ OwnUp w2 w3 own' own3:=by
 obtain ⟨rfl,j1,j2,j3⟩:=hj
 have hm1:Mps w1 (fun i => i = ob ∨ i = wb):=mps_two h.co h.cw
 have hv12:VUp w1 w2 own' own':=VUp.of_maps j3 (fun i _ hM => by
  rcases hM with rfl | rfl
  ·exact ⟨_,h.ow.2⟩
  ·exact ⟨_,h.ow.1⟩) (fun i _ hM => by
  rcases hM with rfl | rfl
  ·exact j1.isMap
  ·exact j2.isMap)
 obtain ⟨lv,b1,l1,l2⟩:=h.pl.lks
 obtain ⟨iv,b2,i1,i2⟩:=h.ixs
 have hA2:=Ixs.keep h.A h.W j3 (fun i r hr hk hM => by
  rcases hM with rfl | rfl
  ·rw [h.ow.2] at hr;simp at hr;subst hr;simp at hk
  ·rw [h.ow.1] at hr;simp at hr;subst hr;simp at hk)
 refine (addIx_any vb P.ms P.lk ib _ g' own' i a x w2 ⟨lv,b1,j3.cell hm1 l1,j3.own hm1 l2⟩ ⟨iv,b2,j3.cell hm1 i1,j3.own hm1 i2⟩ hil (hms256 hP) (len_lk hP) hA2 (h.W.up hv12) ha).mono ?_
 rintro e w3 ⟨rfl,g3,own3,q1,q2,q3⟩
 exact ⟨rfl,g3,own3,h.step hP hf hi ha ham x ⟨rfl,j1,j2,j3⟩ q1 q2 q3,q3⟩
def Tame (P:PlanD) (f:Nat -> List Int -> Int):Prop:=(∀ k a,f k a ≠ 0 -> Bx a /\ rst (P.ms.getD k 0) a = a) /\ ∀ k a,-99 <= f k a /\ f k a <= 99
theorem fK_tame {P:PlanD} (hP:PlanOk P) {f:Nat -> List Int -> Int} (hf:Tame P f) {r:Nat} (hr:r < P.rels.length) {t:List Int} (ht:t ∈ boxN 3) {x:Int} (hx:-9 <= x /\ x <= 9) (k:Nat):(∀ i a,fK P f (P.rel r).2.2 t x k i a ≠ 0 -> Bx a /\ rst (P.ms.getD i 0) a = a) /\ ∀ i a,wr (fK P f (P.rel r).2.2 t x k i a) = fK P f (P.rel r).2.2 t x k i a:=by
 refine ⟨fun i a h => ?_,fun i a => ?_⟩
 ·unfold fK at h
  split at h
  ·rename_i c
   have hi:=((hP.rat r hr).2 i (List.mem_of_mem_take c.1)).1
   unfold bump at h
   by_cases e:a = mVars (P.pat i) t
   ·subst e
    exact ⟨mem_box.1 (mvars_ok hP hi ht).1,(mvars_ok hP hi ht).2 c.2⟩
   ·rw [if_neg e] at h
    exact hf.1 i a (by simpa using h)
  ·exact hf.1 i a h
 ·have h1:=hf.2 i a
  unfold fK
  split
  ·unfold bump
   split
   ·exact wr_small (by omega) (by omega)
   ·exact wr_small (by omega) (by omega)
  ·exact wr_small (by omega) (by omega)
theorem enter74:∀ vs u,(callFunc 74 vs).run Tryz.prog u = .ok (.enter 74 vs) u:=enters_of Tryz.func74 (by kernel_rfl) rfl
theorem enter75:∀ vs u,(callFunc 75 vs).run Tryz.prog u = .ok (.enter 75 vs) u:=enters_of Tryz.func75 (by kernel_rfl) rfl
theorem addT_step (b:Nat) (f:List Int -> Int) (a:List Int) (x:Int) (w:World) (h:CF 110 3 w b f) (ha:a ∈ boxN 3) :
  Calls Tryz.prog 74 #[.map (some b),.agg (i64s a).toArray,.int .i64 (wr x)] w fun e w' => ∃ v,e = .returned v /\ (v = .tuple #[] /\ CF 110 3 w' b (bump f a x) /\ w.grownBy w' (some b)):=by
 refine (addT_cf b f a x w h ha).mono ?_
 rintro e w' ⟨rfl,h2,h3⟩
 exact ⟨_,rfl,rfl,h2,h3⟩
theorem match_step (base:Nat) (p:List (Bool × Int)) (pv:Value) (row:List Int) (w:World) (hp:w.ownsRow base 205 2 pv p.length (tmcells p)) (hl:p.length <= 3) (hr:row.length = 3) (hn:∀ t,t ∈ p -> t.1 = true -> 0 <= t.2 /\ t.2 < 6) :
  Calls Tryz.prog 75 #[pv,.agg (i64s row).toArray] w fun e w' => ∃ v,e = .returned v /\ (v = .tuple #[.agg (i64s (mVars p row)).toArray,.bool (mOk p row)] /\ Below w.heap.size w w'):=by
 refine (match_any base p pv row w hp hl hr hn).mono ?_
 rintro e w' ⟨rfl,h⟩
 exact ⟨_,rfl,rfl,h⟩
structure ChP (w w':World) (vb ob wb:Nat) (P:PlanD) (ib:List Nat) (rB r:Nat) (R:List Int -> Int) (f f':Nat -> List Int -> Int) (O:List Int -> Int) (t:List Int) (x:Int) (own:Nat -> Option (Nat × List Int)) (g':Nat -> List Int -> Option Nat) (own':Nat -> Option (Nat × List Int)):Prop where
 A:IxAll w' P.ms P.lk ib (fun l => f' (P.lk.getD l (0,0)).2) g'
 W:Own w' ib P.lk.length g' own'
 up:VUp w w' own own'
 cw:CF 93 6 w' wb (P.wor f')
 co:CF 93 6 w' ob (fun h => O h + (P.wor f' h - P.wor f h))
 cr:CF 110 3 w' rB (bump R t x)
 keep1:∀ (i:Nat) q,own i = some q -> q.1 = 1 -> i ≠ rB -> w'.heap[i]? = w.heap[i]?
end Go.Proofs.YtondkinefmjpjaaGreat
namespace Go.Proofs.YtondkinefmjpjaaGreat
def PlanD.relOf (P:PlanD) (i:Nat):Nat:=P.rels.findIdx fun q => decide (i ∈ q.2.2)
structure RelOk (P:PlanD):Prop where
 lt:∀ i,i < P.ms.length -> P.relOf i < P.rels.length
 iff:∀ r,r < P.rels.length -> ∀ i,i < P.ms.length -> (i ∈ (P.rel r).2.2 ↔ r = P.relOf i)
structure RowsOk (P:PlanD) (R:Nat -> List Int -> Int):Prop where
 box:∀ r,r < P.rels.length -> ∀ t,R r t ≠ 0 -> t ∈ boxN 3 /\ ∀ j,(P.rel r).2.1 <= j -> t.getD j 0 = 0
 bnd:∀ r,r < P.rels.length -> ∀ t,-99 <= R r t /\ R r t <= 99
 few:∀ r,r < P.rels.length -> (live 3 (R r)).length <= 12
def cont (P:PlanD) (R:Nat -> List Int -> Int) (i:Nat) (a:List Int):Int:=if i < P.ms.length then Sg (boxN 3) (fun t => if mOk (P.pat i) t = true /\ mVars (P.pat i) t = a then R (P.relOf i) t else 0) else 0
theorem match_inj {p:List (Bool × Int)} {t t':List Int} (ht:t.length = 3) (ht':t'.length = 3) (h:mOk p t = true) (h':mOk p t' = true) (he:mVars p t = mVars p t') (hz:∀ j,p.length <= j -> t.getD j 0 = t'.getD j 0):t = t':=by
 unfold mVars at he
 rw [if_pos h,if_pos h'] at he
 apply List.ext_getElem (by omega)
 intro j h1 h2
 have key:t.getD j 0 = t'.getD j 0:=by
  by_cases hj:j < p.length
  ·have e1:=List.all_eq_true.1 h j (List.mem_range.2 hj)
   have e2:=List.all_eq_true.1 h' j (List.mem_range.2 hj)
   rw [beq_iff_eq] at e1 e2
   rw [← e1,← e2,he]
  ·exact hz j (by omega)
 simpa [List.getD_eq_getElem?_getD,h1,h2] using key
theorem relterms {P:PlanD} (hP:PlanOk P) (hQ:RelOk P) {i:Nat} (hi:i < P.ms.length):(P.pat i).length = (P.rel (P.relOf i)).2.1 :=
 ((hP.rat _ (hQ.lt i hi)).2 i ((hQ.iff _ (hQ.lt i hi) i hi).2 rfl)).2
theorem cont_one {P:PlanD} (hP:PlanOk P) (hQ:RelOk P) {R:Nat -> List Int -> Int} (hR:RowsOk P R) {i:Nat} {a:List Int} (h:cont P R i a ≠ 0):i < P.ms.length /\ ∃ t,t ∈ live 3 (R (P.relOf i)) /\ mOk (P.pat i) t = true /\ mVars (P.pat i) t = a /\ cont P R i a = R (P.relOf i) t:=by
 unfold cont at h
 split at h
 ·rename_i hi
  refine ⟨hi,?_⟩
  obtain ⟨t,ht,hf⟩:=S_ne h
  split at hf
  ·rename_i hc
   have hr:=hQ.lt i hi
   have hb:=hR.bnd _ hr t
   refine ⟨t,mem_live.2 ⟨ht,by rw [wr_small (by omega) (by omega)];exact hf⟩,hc.1,hc.2,?_⟩
   unfold cont
   rw [if_pos hi,S_one (x:=t) (boxN_nodup 3) ht]
   ·rw [if_pos hc]
   ·intro t' ht' hne
    refine Classical.byContradiction fun hn => hne ?_
    have hc':mOk (P.pat i) t' = true /\ mVars (P.pat i) t' = a:=Classical.byContradiction fun hx => hn (if_neg hx)
    rw [if_pos hc'] at hn
    have hl:=relterms hP hQ hi
    refine match_inj (box_length ht') (box_length ht) hc'.1 hc.1 (hc'.2.trans hc.2.symm) (fun j hj => ?_)
    rw [(hR.box _ hr t' hn).2 j (by omega),(hR.box _ hr t hf).2 j (by omega)]
  ·exact absurd rfl hf
 ·exact absurd rfl h
theorem cont_tame {P:PlanD} (hP:PlanOk P) (hQ:RelOk P) {R:Nat -> List Int -> Int} (hR:RowsOk P R):Tame P (cont P R):=by
 refine ⟨fun i a h => ?_,fun i a => ?_⟩
 ·obtain ⟨hi,t,ht,h1,h2,_⟩:=cont_one hP hQ hR h
  have:=mvars_ok hP hi (mem_live.1 ht).1
  rw [h2] at this
  exact ⟨mem_box.1 this.1,this.2 h1⟩
 ·by_cases h:cont P R i a = 0
  ·rw [h];omega
  ·obtain ⟨hi,t,_,_,_,e⟩:=cont_one hP hQ hR h
   rw [e]
   exact hR.bnd _ (hQ.lt i hi) t
def updR (R:Nat -> List Int -> Int) (r:Nat) (t:List Int) (x:Int):Nat -> List Int -> Int:=fun q => if q = r then bump (R r) t x else R q
theorem cont_upd {P:PlanD} (hP:PlanOk P) (hQ:RelOk P) (R:Nat -> List Int -> Int) {r:Nat} (hr:r < P.rels.length) {t:List Int} (ht:t ∈ boxN 3) (x:Int):cont P (updR R r t x) = fK P (cont P R) (P.rel r).2.2 t x (P.rel r).2.2.length:=by
 funext i a
 unfold fK
 rw [List.take_length]
 by_cases hi:i < P.ms.length
 ·unfold cont
  simp only [hi,if_true]
  by_cases hm:i ∈ (P.rel r).2.2
  ·have hre:=(hQ.iff r hr i hi).1 hm
   have e1:(fun t' => if mOk (P.pat i) t' = true /\ mVars (P.pat i) t' = a then updR R r t x (P.relOf i) t' else 0) = fun t' => (if mOk (P.pat i) t' = true /\ mVars (P.pat i) t' = a then R (P.relOf i) t' else 0) + if t' = t then (if mOk (P.pat i) t = true /\ mVars (P.pat i) t = a then x else 0) else 0:=by
    funext t'
    rw [← hre]
    by_cases et:t' = t
    ·subst et
     by_cases hc:mOk (P.pat i) t' = true /\ mVars (P.pat i) t' = a
     ·simp [updR,bump,hc]
     ·simp [hc]
    ·simp [updR,bump,et]
   rw [e1,S_add,S_one (x:=t) (boxN_nodup 3) ht (f:=fun t' => if t' = t then (if mOk (P.pat i) t = true /\ mVars (P.pat i) t = a then x else 0) else 0) (fun y _ hne => if_neg hne),if_pos rfl]
   by_cases ho:mOk (P.pat i) t = true
   ·simp only [hm,ho,and_self,if_true,bump,true_and]
    congr 1
    by_cases ea:mVars (P.pat i) t = a
    ·rw [if_pos ea,if_pos ea.symm]
    ·rw [if_neg ea,if_neg (fun h => ea h.symm)]
   ·simp only [ho,Bool.false_eq_true,and_false,false_and,if_false,Int.add_zero]
  ·have hne:P.relOf i ≠ r:=fun e => hm ((hQ.iff r hr i hi).2 e.symm)
   simp only [hm,false_and,if_false,updR,hne]
 ·have hm:¬ i ∈ (P.rel r).2.2:=fun h => hi ((hP.rat r hr).2 i h).1
  simp only [hm,false_and,if_false,cont,hi]
theorem wor_few {P:PlanD} (hP:PlanOk P) (hQ:RelOk P) {R:Nat -> List Int -> Int} (hR:RowsOk P R):(live 6 (P.wor (cont P R))).length <= 20736:=by
 have h:=wor_count (U:=orL P.ms) (H:=P.H) (As:=atomsOf P.ms (cont P R)) (Ls:=(List.range P.ms.length).map fun i => (P.ms.getD i 0,(live 3 (R (P.relOf i))).map (mVars (P.pat i)))) (fun p hp => ?_) ?_ (fun p hp => ?_) (live 6 (P.wor (cont P R))) (live_nodup _ _) (fun h hh => ?_)
 ·have e:((List.range P.ms.length).map fun i => (P.ms.getD i 0,(live 3 (R (P.relOf i))).map (mVars (P.pat i)))).length = P.ms.length:=by rw [List.length_map,List.length_range]
  rw [e] at h
  have h2:12 ^ P.ms.length <= 12 ^ 4:=Nat.pow_le_pow_right (by omega) hP.n4
  have h3:(12:Nat) ^ 4 = 20736:=rfl
  rw [h3] at h2
  exact Nat.le_trans h h2
 ·obtain ⟨i,hi,hpe⟩:=List.mem_map.1 hp
  have p1:p.1 = P.ms.getD i 0:=by rw [← hpe]
  have p2:p.2 = (live 3 (R (P.relOf i))).map (mVars (P.pat i)):=by rw [← hpe]
  refine ⟨cont P R i,by rw [p1];exact List.mem_map.2 ⟨i,hi,rfl⟩,fun a ha => ?_⟩
  obtain ⟨_,t,ht,_,h2,_⟩:=cont_one hP hQ hR ha
  rw [p2,List.mem_map]
  exact ⟨t,ht,h2⟩
 ·have e:P.ms = (List.range P.ms.length).map fun k => P.ms.getD k 0:=by
   apply List.ext_getElem (by simp)
   intro k h1 h2;simp [List.getD,h1]
  have:∀ l:List Nat,cov (l.map fun i => (P.ms.getD i 0,(live 3 (R (P.relOf i))).map (mVars (P.pat i)))) = orL (l.map fun k => P.ms.getD k 0):=by
   intro l
   induction l with
   | nil => rfl
   | cons x l ih => rw [List.map_cons,List.map_cons,cov,ih];rfl
  rw [this,← e]
 ·obtain ⟨i,hi,rfl⟩:=List.mem_map.1 hp
  rw [List.length_map]
  exact hR.few _ (hQ.lt i (List.mem_range.1 hi))
 ·exact wr_ne (mem_live.1 hh).2
theorem diff_few {f g:List Int -> Int} (hf:(live 6 f).length <= 20736) (hg:(live 6 g).length <= 20736):(live 6 (fun h => f h - g h)).length <= 1000000:=by
 have:=nodup_le (m:=live 6 f ++ live 6 g) (live_nodup 6 (fun h => f h - g h)) (fun h hh => by
  obtain ⟨h1,h2⟩:=mem_live.1 hh
  rw [List.mem_append]
  by_cases e:wr (f h) = 0
  ·right
   refine mem_live.2 ⟨h1,fun e2 => h2 ?_⟩
   have e3:wr (f h - g h) = wr (wr (f h) - wr (g h)):=by rw [wr_eq (f h - g h),wr_eq (wr (f h) - wr (g h)),wr_eq (f h),wr_eq (g h)];omega
   rw [e3,e,e2];rfl
  ·exact Or.inl (mem_live.2 ⟨h1,e⟩))
 rw [List.length_append] at this
 omega
end Go.Proofs.YtondkinefmjpjaaGreat
