import Derived.Shelf.Pu.Clone
import Derived.Deep.Onto
import Derived.Test.YtondkinefmjpjaaGreatI20
import Derived.Test.YtondkinefmjpjaaGreatI22
import Derived.Test.YtondkinefmjpjaaGreatI26
import Derived.Test.YtondkinefmjpjaaGreatI38
set_option maxHeartbeats 4000000
set_option maxRecDepth 100000
namespace Go.Proofs.YtondkinefmjpjaaGreat
open Go.RowKit
def edcells (l:List (Nat × Nat)):List Value:=l.flatMap fun e => [.int .i64 (e.1:Int),.int .i64 (e.2:Int)]
theorem edcells_at (l:List (Nat × Nat)) (k:Nat) (hk:k < l.length):(edcells l)[k * 2]? = some (.int .i64 ((l.getD k (0,0)).1:Int)) /\ (edcells l)[k * 2 + 1]? = some (.int .i64 ((l.getD k (0,0)).2:Int)):=by
 induction l generalizing k with
 | nil => simp at hk
 | cons d l ih =>
  cases k with
  | zero => simp [edcells]
  | succ k =>
   have h':=ih k (by simpa using hk)
   have e:edcells (d :: l) = [.int .i64 (d.1:Int),.int .i64 (d.2:Int)] ++ edcells l:=by simp [edcells]
   rw [e]
   have e0:(k + 1) * 2 = k * 2 + 2:=by omega
   rw [e0,List.getElem?_append_right (by simp),List.getElem?_append_right (by simp)]
   simpa using h'
theorem Tryz.info163:(Tryz.prog.info? 163).map (fun i => (i.zero,i.size,i.bytes)) = some (some (.agg #[.int .i64 0,.int .i64 0,.int .u8 0,.int .u8 0]),4,24):=by kernel_rfl
theorem enter125:∀ vs u,(callFunc 125 vs).run Tryz.prog u = .ok (.enter 125 vs) u:=enters_of Tryz.func125 (by kernel_rfl) rfl
theorem eight_new (w:World) (x0 x1 x2 x3 x4 x5 x6 x7:Value) (t:TypeId):∀ j u,[x0,x1,x2,x3,x4,x5,x6,x7][j]? = some u -> (w.alloc (.cells #[x0,x1,x2,x3,x4,x5,x6,x7] t)).cell? ((⟨w.heap.size,0,none⟩:Addr).add j) = some u:=by
 intro j u hj
 match j,hj with
 | 0,hj => simp at hj;subst hj;simp [Addr.add]
 | 1,hj => simp at hj;subst hj;simp [Addr.add]
 | 2,hj => simp at hj;subst hj;simp [Addr.add]
 | 3,hj => simp at hj;subst hj;simp [Addr.add]
 | 4,hj => simp at hj;subst hj;simp [Addr.add]
 | 5,hj => simp at hj;subst hj;simp [Addr.add]
 | 6,hj => simp at hj;subst hj;simp [Addr.add]
 | 7,hj => simp at hj;subst hj;simp [Addr.add]
theorem lkE_take (es:List (Nat × Nat)) (k:Nat) (hk:k < es.length):lkE (es.take (k + 1)) = lkE (es.take k) ++ [((es.getD k (0,0)).1,(es.getD k (0,0)).2),((es.getD k (0,0)).2,(es.getD k (0,0)).1)]:=by
 rw [List.take_succ_eq_append_getElem hk]
 unfold lkE
 rw [List.flatMap_append]
 simp [List.getD,hk]
theorem lkE_len (es:List (Nat × Nat)):(lkE es).length = 2 * es.length:=by
 induction es with
 | nil => rfl
 | cons e es ih => simp only [lkE,List.flatMap_cons,List.length_append,List.length_cons,List.length_nil] at ih ⊢;omega
def LkS (ms:List Nat) (p q:Nat) (wr:World) (eb a b:Nat) (v:Value) (w1:World):Prop :=
 v = .agg #[.int .i64 p,.int .i64 q,.int .u8 ((ms.getD q 0 &&& ms.getD p 0:Nat):Int),.int .u8 ((ms.getD q 0 &&& (255 ^^^ ms.getD p 0):Nat):Int)] /\ Below wr.heap.size wr w1 /\ w1.cell? ⟨eb,0,none⟩ = some (.int .i64 a) /\ w1.cell? ⟨eb,1,none⟩ = some (.int .i64 b)
theorem makeLink_step (base p q:Nat) (ms:List Nat) (sv:Value) (wr w:World) (hb:Below wr.heap.size wr w) (hs:wr.ownsRow base 77 1 sv ms.length (u8s ms)) (hp:p < ms.length) (hq:q < ms.length) (hl:ms.length <= 100) (hm:∀ m,m ∈ ms -> m < 256) (eb a b:Nat) (h0:wr.cell? ⟨eb,0,none⟩ = some (.int .i64 a)) (h1:wr.cell? ⟨eb,1,none⟩ = some (.int .i64 b)) :
  Calls Tryz.prog 125 #[.int .i64 p,.int .i64 q,sv] w fun e w' => ∃ v,e = .returned v /\ LkS ms p q wr eb a b v w':=by
 refine (makeLink_any base p q ms sv w (vown_below hs hb) hp hq hl hm).mono ?_
 rintro e w1 ⟨rfl,b1⟩
 have b2:Below wr.heap.size wr w1:=hb.trans (b1.mono hb.size)
 exact ⟨_,rfl,rfl,b2,(b2.cell (World.block_lt_of_cell? _ _ h0)).trans h0,(b2.cell (World.block_lt_of_cell? _ _ h1)).trans h1⟩
theorem lkcells_app (ms:List Nat) (l l':List (Nat × Nat)):lkcells ms (l ++ l') = lkcells ms l ++ lkcells ms l':=by simp [lkcells]
theorem lk_below {w wa w1 w6:World} {o:Obj} {la:Option Addr} {n lcap:Nat} {xs:List Value} (h:Below w.heap.size w wa) (hz:w.heap.size <= wa.heap.size) (hr:wa.ownsRow w.heap.size 163 4 (.slice la n lcap) n xs) (hb:Below wa.heap.size wa w1) (hg:(w1.alloc o).grownBy w6 (Value.slice la n lcap).ownBlock):Below w.heap.size w w6 :=
 ((h.trans (hb.mono hz)).alloc (Nat.le_trans hz hb.size) o).grown hg (by have:=hb.size;simp;omega) (fun j hj => (hr.lt j hj).1)
theorem makeLinks_any (base base2:Nat) (es:List (Nat × Nat)) (ms:List Nat) (ev sv:Value) (w:World) (he:w.ownsRow base 218 2 ev es.length (edcells es)) (hs:w.ownsRow base2 77 1 sv ms.length (u8s ms)) (hin:∀ k,k < es.length -> (es.getD k (0,0)).1 < ms.length /\ (es.getD k (0,0)).2 < ms.length) (hle:es.length <= 100) (hl:ms.length <= 100) (hm:∀ m,m ∈ ms -> m < 256) :
  Calls Tryz.prog 87 #[ev,sv] w fun e w' => ∃ a c,e = .returned (.slice a (lkE es).length c) /\ w'.ownsRow w.heap.size 163 4 (.slice a (lkE es).length c) (lkE es).length (lkcells ms (lkE es)) /\ Below w.heap.size w w':=by
 obtain ⟨ea,ecap,rfl⟩:=vown_form he
 obtain ⟨sa,scap,rfl⟩:=vown_form hs
 obtain ⟨i0,hi,hz0,hz1,hz2⟩:=info_parts Tryz.info163
 have HI:Hid _:=hi
 have HZ0:Hid _:=hz0
 have HZ1:Hid _:=hz1
 have HZ2:Hid _:=hz2
 have HE:Hid _:=he
 have HS:Hid _:=hs
 have HIN:Hid _:=hin
 have HM:Hid _:=hm
 clear hi hz0 hz1 hz2 he hs hin hm
 go_enter Tryz.func87,Tryz.ntmps87
 go_wp2_with fail
 go_loopw [5,7,10] (fun lv _ kv wr => ∃ (k n:Nat),k <= es.length /\ kv = .int .i64 k /\ n = 2 * k /\ wr.ownsRow w.heap.size 163 4 lv n (lkcells ms (lkE (es.take k))) /\ Below w.heap.size w wr) (fun _ _ kv _ => es.length - (intOf kv).toNat)
 case atStart => exact ⟨0,0,Nat.zero_le _,rfl,rfl,World.ownsRow_nil _ _ _ _,Below.refl _ _⟩
 case round =>
  obtain ⟨k,n,hk,rfl,hn,hrow,hb⟩:=hrel
  have hws:w.heap.size <= wr.heap.size:=hb.size
  have HN:Hid (n = 2 * k):=hn
  have hn2:n <= 200:=by omega
  clear hn
  obtain ⟨la,lcap,hlv⟩:=vown_form hrow
  subst hlv
  by_cases hlt:k < es.length
  ·have heo:=vown_below HE.out hb
   obtain ⟨g,cap',hg⟩:=vown_some heo (by omega)
   simp only [Value.slice.injEq,true_and] at hg
   obtain ⟨rfl,rfl⟩:=hg
   obtain ⟨x0,x1⟩:=edcells_at es k hlt
   have c0:=(heo.cellAt (k * 2) (by omega)).trans x0
   have c1:=(heo.cellAt (k * 2 + 1) (by omega)).trans x1
   obtain ⟨i1,i2⟩:=HIN.out k hlt
   have HTK:Hid _:=congrArg (lkcells ms) (lkE_take es k hlt)
   clear x0 x1
   obtain ⟨A,hA⟩:∃ A,(es.getD k (0,0)).1 = A:=⟨_,rfl⟩
   obtain ⟨B,hB⟩:∃ B,(es.getD k (0,0)).2 = B:=⟨_,rfl⟩
   rw [hA] at c0 i1 HTK
   rw [hB] at c1 i2 HTK
   clear hA hB
   have lg:g < wr.heap.size:=World.block_lt_of_cell? _ _ c0
   obtain ⟨wa,hwa⟩:∃ wa,wr.alloc (.cells #[.int .i64 (A:Int),.int .i64 (B:Int)] 218) = wa:=⟨_,rfl⟩
   have hba:Below wr.heap.size wr wa:=by rw [← hwa];exact (Below.refl _ _).alloc (Nat.le_refl _) _
   have e0:wa.cell? ⟨wr.heap.size,0,none⟩ = some (.int .i64 (A:Int)):=by rw [← hwa];simp
   have e1:wa.cell? ⟨wr.heap.size,1,none⟩ = some (.int .i64 (B:Int)):=by rw [← hwa];simp
   have hsa:=vown_below (vown_below HS.out hb) hba
   have HV1:Hid (LkS ms A B wa wr.heap.size A B = fun v w1 => v = .agg #[.int .i64 A,.int .i64 B,.int .u8 ((ms.getD B 0 &&& ms.getD A 0:Nat):Int),.int .u8 ((ms.getD B 0 &&& (255 ^^^ ms.getD A 0):Nat):Int)] /\ Below wa.heap.size wa w1 /\ w1.cell? ⟨wr.heap.size,0,none⟩ = some (.int .i64 A) /\ w1.cell? ⟨wr.heap.size,1,none⟩ = some (.int .i64 B)):=rfl
   have HV2:Hid (LkS ms B A wa wr.heap.size A B = fun v w1 => v = .agg #[.int .i64 B,.int .i64 A,.int .u8 ((ms.getD A 0 &&& ms.getD B 0:Nat):Int),.int .u8 ((ms.getD A 0 &&& (255 ^^^ ms.getD B 0):Nat):Int)] /\ Below wa.heap.size wa w1 /\ w1.cell? ⟨wr.heap.size,0,none⟩ = some (.int .i64 A) /\ w1.cell? ⟨wr.heap.size,1,none⟩ = some (.int .i64 B)):=rfl
   have HTV:Hid (lkcells ms [(A,B),(B,A)] = [.int .i64 A,.int .i64 B,.int .u8 ((ms.getD B 0 &&& ms.getD A 0:Nat):Int),.int .u8 ((ms.getD B 0 &&& (255 ^^^ ms.getD A 0):Nat):Int),.int .i64 B,.int .i64 A,.int .u8 ((ms.getD A 0 &&& ms.getD B 0:Nat):Int),.int .u8 ((ms.getD A 0 &&& (255 ^^^ ms.getD B 0):Nat):Int)]):=rfl
   have HC1:Hid (∀ u,Below wa.heap.size wa u -> Calls Tryz.prog 125 #[.int .i64 A,.int .i64 B,.slice sa ms.length scap] u fun e w' => ∃ v,e = .returned v /\ LkS ms A B wa wr.heap.size A B v w'):=fun u hu => makeLink_step base2 A B ms _ wa u hu hsa i1 i2 hl HM.out _ _ _ e0 e1
   have HC2:Hid (∀ u,Below wa.heap.size wa u -> Calls Tryz.prog 125 #[.int .i64 B,.int .i64 A,.slice sa ms.length scap] u fun e w' => ∃ v,e = .returned v /\ LkS ms B A wa wr.heap.size A B v w'):=fun u hu => makeLink_step base2 B A ms _ wa u hu hsa i2 i1 hl HM.out _ _ _ e0 e1
   obtain ⟨X1,hX1⟩:∃ X,((ms.getD B 0 &&& ms.getD A 0:Nat):Int) = X:=⟨_,rfl⟩
   obtain ⟨X2,hX2⟩:∃ X,((ms.getD B 0 &&& (255 ^^^ ms.getD A 0):Nat):Int) = X:=⟨_,rfl⟩
   obtain ⟨Y1,hY1⟩:∃ X,((ms.getD A 0 &&& ms.getD B 0:Nat):Int) = X:=⟨_,rfl⟩
   obtain ⟨Y2,hY2⟩:∃ X,((ms.getD A 0 &&& (255 ^^^ ms.getD B 0):Nat):Int) = X:=⟨_,rfl⟩
   rw [hX1,hX2] at HV1 HTV
   rw [hY1,hY2] at HV2 HTV
   rw [HV1.out] at HC1
   rw [HV2.out] at HC2
   clear hX1 hX2 hY1 hY2 HV1 HV2
   have hdr:Below wa.heap.size wa wa.drew:=(Below.refl _ _).drew
   have hro:wa.ownsRow w.heap.size 163 4 (.slice la n lcap) n (lkcells ms (lkE (es.take k))):=vown_below hrow hba
   have hwz:w.heap.size <= wa.heap.size:=Nat.le_trans hws hba.size
   have HBA:Hid (Below w.heap.size w wa):=hb.trans (hba.mono hws)
   have HWA:Hid _:=hwa
   clear hwa heo hsa hrow hba
   go_wp2_with fail
   rw [HWA.out]
   go_region_law (first | (refine step_call rfl 125 #[.tmp 16,.tmp 18,.tmp 19] #[3,3,176] rfl enter125 #[.int .i64 A,.int .i64 B,.slice sa ms.length scap] (by kernel_rfl) _ (HC1.out _ (by first | exact hdr | exact b2)) ?_;rintro v1 w1 ⟨rfl,b1,f0,f1⟩) | (refine step_call rfl 125 #[.tmp 22,.tmp 24,.tmp 25] #[3,3,176] rfl enter125 #[.int .i64 B,.int .i64 A,.slice sa ms.length scap] (by kernel_rfl) _ (HC2.out _ (by first | exact hdr | exact b1)) ?_;rintro v2 w2 ⟨rfl,b2,g0,g1⟩) | (refine step_append_own rfl (.tmp 14) (.tmp 27) 80 rfl w.heap.size 163 i0 (.agg #[.int .i64 0,.int .i64 0,.int .u8 0,.int .u8 0]) 4 24 Tryz.underlying80 HI.out HZ0.out HZ1.out HZ2.out rfl (by decide) (.slice la n lcap) _ _ rfl ((vown_below hro b2).alloc _) ⟨w2.heap.size,0,none⟩ 2 2 [.int .i64 A,.int .i64 B,.int .u8 X1,.int .u8 X2,.int .i64 B,.int .i64 A,.int .u8 Y1,.int .u8 Y2] rfl rfl (eight_new _ _ _ _ _ _ _ _ _ _) (by intro u hu;simp at hu;rcases hu with rfl | rfl | rfl | rfl | rfl | rfl | rfl | rfl <;> rfl) (by unfold maxLen;omega) (by omega) (by have:=b2.size;simp;omega) ?_;intro v6 w6 hown6 hgrow6;have hb6:=lk_below HBA.out hwz hro b2 hgrow6) | (refine step_append_own rfl (.tmp 14) (.tmp 27) 80 rfl w.heap.size 163 i0 (.agg #[.int .i64 0,.int .i64 0,.int .u8 0,.int .u8 0]) 4 24 Tryz.underlying80 HI.out HZ0.out HZ1.out HZ2.out rfl (by decide) (.slice la n lcap) _ _ rfl ((vown_below hro b1).alloc _) ⟨w1.heap.size,0,none⟩ 2 2 [.int .i64 A,.int .i64 B,.int .u8 X1,.int .u8 X2,.int .i64 B,.int .i64 A,.int .u8 Y1,.int .u8 Y2] rfl rfl (eight_new _ _ _ _ _ _ _ _ _ _) (by intro u hu;simp at hu;rcases hu with rfl | rfl | rfl | rfl | rfl | rfl | rfl | rfl <;> rfl) (by unfold maxLen;omega) (by omega) (by have:=b1.size;simp;omega) ?_;intro v6 w6 hown6 hgrow6;have hb6:=lk_below HBA.out hwz hro b1 hgrow6))
   all_goals obtain ⟨la6,lcap6,rfl⟩:=vown_form hown6
   all_goals go_wp2_with fail
   all_goals go_roundw
   all_goals first
    | (simp [intOf];omega)
    | exact ⟨k + 1,n + 2,by omega,by go_num,by have:=HN.out;omega,by rw [HTK.out,lkcells_app,HTV.out];exact hown6,hb6⟩
  ·have hkl:k = es.length:=by omega
   have HLN:Hid (n = (lkE es).length):=by unfold Hid;rw [lkE_len];have:=HN.out;omega
   rw [hkl,List.take_length,HLN.out] at hrow
   clear hkl HN
   have HRW:Hid _:=hrow
   go_wp2_with fail
   rw [HLN.out]
   go_ret
   exact ⟨_,_,rfl,HRW.out,hb⟩
end Go.Proofs.YtondkinefmjpjaaGreat
namespace Go.Proofs.YtondkinefmjpjaaGreat
open Go.RowKit Go.Shelf
def Tryz.laysClone_ren:Go.Shelf.Ren:=⟨fun | 25 => 161 | n => n,fun | 0 => 0 | 3 => 3 | 4 => 4 | 5 => 5 | 9 => 9 | 37 => 261 | 47 => 262 | n => n,fun | n => n⟩
theorem Tryz.laysClone:Go.Proofs.LaysPu.n25 Tryz.prog Tryz.laysClone_ren:={
 mixed:=by kernel_rfl
 f25:=Tryz.func161.trans (congrArg some (by kernel_rfl))
 t0:=Tryz.underlying0
 a0:=Tryz.isAgg0
 z0:=Tryz.sizeOf0
 v0:=Tryz.zeroValue0
 i0:=by kernel_rfl
 t3:=Tryz.underlying3
 a3:=Tryz.isAgg3
 z3:=Tryz.sizeOf3
 v3:=Tryz.zeroValue3
 i3:=by kernel_rfl
 t4:=Tryz.underlying4
 a4:=Tryz.isAgg4
 z4:=Tryz.sizeOf4
 v4:=Tryz.zeroValue4
 i4:=by kernel_rfl
 t5:=Tryz.underlying5
 a5:=Tryz.isAgg5
 z5:=Tryz.sizeOf5
 v5:=Tryz.zeroValue5
 i5:=by kernel_rfl
 t9:=Tryz.underlying9
 a9:=Tryz.isAgg9
 z9:=Tryz.sizeOf9
 v9:=Tryz.zeroValue9
 i9:=by kernel_rfl
 t37:=Tryz.underlying261
 a37:=Tryz.isAgg261
 z37:=Tryz.sizeOf261
 v37:=Tryz.zeroValue261
 i37:=by kernel_rfl
 t47:=Tryz.underlying262
 a47:=Tryz.isAgg262
 z47:=Tryz.sizeOf262
 v47:=Tryz.zeroValue262
 i47:=by kernel_rfl }
theorem clone_any (s:ByteArray) (w:World) (hlim:s.size <= 281474976710656) :
  Calls Tryz.prog 126 #[.string s] w fun e w' => e = .returned (.string s) /\ Below w.heap.size w w':=by
 have hc:Calls Tryz.prog 161 #[.string s] w fun e w' => e = .returned (.string s) /\ Below w.heap.size w w':=AnyPu.stringslite_Clone Tryz.laysClone s w hlim
 go_enter Tryz.func126,Tryz.ntmps126
 go_wp2_with fail
 refine hc.mono ?_
 rintro e w1 ⟨rfl,hb⟩
 go_wp2
 go_ret
 exact ⟨rfl,hb⟩
end Go.Proofs.YtondkinefmjpjaaGreat
namespace Go.Proofs.YtondkinefmjpjaaGreat
open Go.RowKit
theorem Tryz.info130:(Tryz.prog.info? 130).map (fun i => (i.zero,i.size,i.bytes)) = some (some (.map none),1,8):=by kernel_rfl
theorem Tryz.info166:(Tryz.prog.info? 166).map (fun i => (i.zero,i.size,i.bytes)) = some (some (.map none),1,8):=by kernel_rfl
structure Ems (w:World) (B:Nat) (l:List Nat):Prop where
 nd:l.Nodup
 el:∀ b,b ∈ l -> B <= b /\ w.heap[b]? = some (.map #[] 0)
theorem Ems.block {w w':World} {B:Nat} {l:List Nat} (h:Ems w B l) (he:∀ b,b ∈ l -> w'.heap[b]? = w.heap[b]?):Ems w' B l:=⟨h.nd,fun b hb => ⟨(h.el b hb).1,(he b hb).trans (h.el b hb).2⟩⟩
theorem Ems.lt {w:World} {B:Nat} {l:List Nat} (h:Ems w B l) {b:Nat} (hb:b ∈ l):b < w.heap.size:=vlt_of_block (h.el b hb).2
theorem Ems.snoc {w:World} {B:Nat} {l:List Nat} (h:Ems w B l) {b:Nat} (hb:B <= b) (hn:b ∉ l) (he:w.heap[b]? = some (.map #[] 0)):Ems w B (l ++ [b]):=by
 refine ⟨List.nodup_append.2 ⟨h.nd,by simp,fun a ha c hc e => ?_⟩,fun c hc => ?_⟩
 ·simp at hc;subst hc;subst e;exact hn ha
 ·rcases List.mem_append.1 hc with hc | hc
  ·exact h.el c hc
  ·simp at hc;subst hc;exact ⟨hb,he⟩
theorem mapVs_snoc (l:List Nat) (b:Nat):mapVs (l ++ [b]) = mapVs l ++ [.map (some b)]:=by simp [mapVs]
theorem row_map {w:World} {base e size:Nat} {v:Value} {n:Nat} {xs:List Value} (h:w.ownsRow base e size v n xs) {k:Nat} (hk:v.ownBlock = some k):∃ c,w.heap[k]? = some (.cells c e (0,0)):=by
 rcases h.2 with ⟨rfl,_⟩ | ⟨g,cap,cur,rfl,_,h1,_⟩
 ·cases hk
 ·cases hk;exact ⟨_,by assumption⟩
theorem vown_of_block {w w':World} {base e size:Nat} {v:Value} {n:Nat} {xs:List Value} (h:w.ownsRow base e size v n xs) (hb:∀ k,v.ownBlock = some k -> w'.heap[k]? = w.heap[k]?):w'.ownsRow base e size v n xs:=by
 refine ⟨h.1,?_⟩
 rcases h.2 with hn | ⟨g,cap,cur,rfl,h1,h2,rest⟩
 ·exact .inl hn
 ·exact .inr ⟨g,cap,cur,rfl,h1,(hb g rfl).trans h2,rest⟩
structure MkS (w:World) (B:Nat) (rv iv:Value) (rb ib:List Nat):Prop where
 z:w.heap[B]? = some (.cells #[.slice none 0 0,.slice none 0 0,.map none] 88 (0,0))
 s:w.heap[B + 2]? = some (.cells #[rv,iv,.map (some (B + 1))] 88 (0,0))
 r:w.ownsRow (B + 3) 130 1 rv rb.length (mapVs rb)
 i:w.ownsRow (B + 3) 166 1 iv ib.length (mapVs ib)
 m:Ems w (B + 1) ((B + 1) :: (rb ++ ib))
theorem MkS.rows {w w1:World} {B n:Nat} {rv iv rv':Value} {rb ib:List Nat} (h:MkS w B rv iv rb ib) (hg:((w.alloc (.map #[] 0)).alloc (.cells #[.map (some w.heap.size)] 130)).grownBy w1 rv.ownBlock) (ho:w1.ownsRow (B + 3) 130 1 rv' n (mapVs rb ++ [.map (some w.heap.size)])) (hn:n = rb.length + 1) :
  MkS (w1.setCell ⟨B + 2,0,none⟩ rv') B rv' iv (rb ++ [w.heap.size]) ib /\ w1.heap[B + 2]? = some (.cells #[rv,iv,.map (some (B + 1))] 88 (0,0)):=by
 have hne:∀ {k:Nat} {o:Obj},w.heap[k]? = some o -> (∀ c,o ≠ .cells c 130 (0,0)) -> w1.heap[k]? = some o:=by
  intro k o hk ho
  have hlt:=vlt_of_block hk
  rw [hg.block k (by simp;omega) (fun e => by obtain ⟨c,hc⟩:=row_map h.r e.symm;rw [hk] at hc;exact ho c (Option.some.inj hc))]
  exact (Below.heap_alloc _ _ _ (by simp;omega)).trans ((Below.heap_alloc _ _ _ hlt).trans hk)
 have z1:=hne h.z (fun c e => by simp at e)
 have s1:=hne h.s (fun c e => by simp at e)
 have lB:=vlt_of_block h.s
 have hnew:w1.heap[w.heap.size]? = some (.map #[] 0):=by
  rw [hg.block w.heap.size (by simp;omega) (fun e => by have:=(h.r.lt _ e.symm).2;omega)]
  exact (Below.heap_alloc _ _ _ (by simp)).trans (vheap_alloc_new w _)
 have hsz:w.heap.size < w1.heap.size:=vlt_of_block hnew
 have row:∀ {b e size n:Nat} {v:Value} {xs:List Value},e ≠ 88 -> w1.ownsRow b e size v n xs -> (w1.setCell ⟨B + 2,0,none⟩ rv').ownsRow b e size v n xs:=by
  intro b e size n v xs he hx
  refine vown_of_block hx (fun k hk => ?_)
  obtain ⟨c,hc⟩:=row_map hx hk
  rw [Below.heap_setCell]
  rintro rfl
  rw [s1] at hc
  simp at hc;exact he hc.2.symm
 have other:∀ k,k ≠ B + 2 -> (w1.setCell ⟨B + 2,0,none⟩ rv').heap[k]? = w1.heap[k]?:=fun k hk => Below.heap_setCell _ _ _ _ hk
 refine ⟨⟨(other _ (by omega)).trans z1,?_,?_,?_,?_⟩,s1⟩
 ·rw [blk_setCell s1 0 rv'];simp [Array.setIfInBounds]
 ·rw [mapVs_snoc,List.length_append,show rb.length + [w.heap.size].length = n by simp;omega];exact row (by decide) ho
 ·refine row (by decide) (vown_of_block h.i (fun k hk => ?_))
  obtain ⟨c,hc⟩:=row_map h.i hk
  rw [hne hc (fun c e => by simp at e),hc]
 ·have hm:Ems (w1.setCell ⟨B + 2,0,none⟩ rv') (B + 1) ((B + 1) :: (rb ++ ib)):=h.m.block (fun b hb => by
   have hb':=h.m.el b hb
   have hb1:=hne hb'.2 (fun c e => by simp at e)
   rw [other b (fun e => by rw [e,h.s] at hb';simp at hb'),hb1,hb'.2])
  have hin:w.heap.size ∉ (B + 1) :: (rb ++ ib):=fun hb => by have:=h.m.lt hb;omega
  have he:(w1.setCell ⟨B + 2,0,none⟩ rv').heap[w.heap.size]? = some (.map #[] 0):=(other _ (by omega)).trans hnew
  have hs:=hm.snoc (b:=w.heap.size) (by omega) hin he
  have hp:((B + 1) :: (rb ++ ib) ++ [w.heap.size]).Perm ((B + 1) :: (rb ++ [w.heap.size] ++ ib)):=by
   rw [List.cons_append]
   refine List.Perm.cons _ ?_
   rw [List.append_assoc,List.append_assoc]
   exact List.Perm.append_left _ List.perm_append_comm
  exact ⟨hp.nodup_iff.1 hs.nd,fun b hb => hs.el b (hp.mem_iff.2 hb)⟩
theorem MkS.ixs {w w1:World} {B n:Nat} {rv iv rv':Value} {rb ib:List Nat} (h:MkS w B rv iv rb ib) (hg:((w.alloc (.map #[] 0)).alloc (.cells #[.map (some w.heap.size)] 166)).grownBy w1 iv.ownBlock) (ho:w1.ownsRow (B + 3) 166 1 rv' n (mapVs ib ++ [.map (some w.heap.size)])) (hn:n = ib.length + 1) :
  MkS (w1.setCell ⟨B + 2,1,none⟩ rv') B rv rv' rb (ib ++ [w.heap.size]) /\ w1.heap[B + 2]? = some (.cells #[rv,iv,.map (some (B + 1))] 88 (0,0)):=by
 have hne:∀ {k:Nat} {o:Obj},w.heap[k]? = some o -> (∀ c,o ≠ .cells c 166 (0,0)) -> w1.heap[k]? = some o:=by
  intro k o hk ho
  have hlt:=vlt_of_block hk
  rw [hg.block k (by simp;omega) (fun e => by obtain ⟨c,hc⟩:=row_map h.i e.symm;rw [hk] at hc;exact ho c (Option.some.inj hc))]
  exact (Below.heap_alloc _ _ _ (by simp;omega)).trans ((Below.heap_alloc _ _ _ hlt).trans hk)
 have z1:=hne h.z (fun c e => by simp at e)
 have s1:=hne h.s (fun c e => by simp at e)
 have lB:=vlt_of_block h.s
 have hnew:w1.heap[w.heap.size]? = some (.map #[] 0):=by
  rw [hg.block w.heap.size (by simp;omega) (fun e => by have:=(h.i.lt _ e.symm).2;omega)]
  exact (Below.heap_alloc _ _ _ (by simp)).trans (vheap_alloc_new w _)
 have hsz:w.heap.size < w1.heap.size:=vlt_of_block hnew
 have row:∀ {b e size n:Nat} {v:Value} {xs:List Value},e ≠ 88 -> w1.ownsRow b e size v n xs -> (w1.setCell ⟨B + 2,1,none⟩ rv').ownsRow b e size v n xs:=by
  intro b e size n v xs he hx
  refine vown_of_block hx (fun k hk => ?_)
  obtain ⟨c,hc⟩:=row_map hx hk
  rw [Below.heap_setCell]
  rintro rfl
  rw [s1] at hc
  simp at hc;exact he hc.2.symm
 have other:∀ k,k ≠ B + 2 -> (w1.setCell ⟨B + 2,1,none⟩ rv').heap[k]? = w1.heap[k]?:=fun k hk => Below.heap_setCell _ _ _ _ hk
 refine ⟨⟨(other _ (by omega)).trans z1,?_,?_,?_,?_⟩,s1⟩
 ·rw [blk_setCell s1 1 rv'];simp [Array.setIfInBounds]
 ·refine row (by decide) (vown_of_block h.r (fun k hk => ?_))
  obtain ⟨c,hc⟩:=row_map h.r hk
  rw [hne hc (fun c e => by simp at e),hc]
 ·rw [mapVs_snoc,List.length_append,show ib.length + [w.heap.size].length = n by simp;omega];exact row (by decide) ho
 ·have hm:Ems (w1.setCell ⟨B + 2,1,none⟩ rv') (B + 1) ((B + 1) :: (rb ++ ib)):=h.m.block (fun b hb => by
   have hb':=h.m.el b hb
   have hb1:=hne hb'.2 (fun c e => by simp at e)
   rw [other b (fun e => by rw [e,h.s] at hb';simp at hb'),hb1,hb'.2])
  have hin:w.heap.size ∉ (B + 1) :: (rb ++ ib):=fun hb => by have:=h.m.lt hb;omega
  have he:(w1.setCell ⟨B + 2,1,none⟩ rv').heap[w.heap.size]? = some (.map #[] 0):=(other _ (by omega)).trans hnew
  have hs:=hm.snoc (b:=w.heap.size) (by omega) hin he
  have hp:((B + 1) :: (rb ++ ib) ++ [w.heap.size]).Perm ((B + 1) :: (rb ++ (ib ++ [w.heap.size]))):=by
   rw [List.cons_append,List.append_assoc]
  exact ⟨hp.nodup_iff.1 hs.nd,fun b hb => hs.el b (hp.mem_iff.2 hb)⟩
structure StV (w:World) (B:Nat) (rv iv:Value) (wb:Nat) (rb ib:List Nat):Prop where
 r:w.ownsRow B 130 1 rv rb.length (mapVs rb)
 i:w.ownsRow B 166 1 iv ib.length (mapVs ib)
 m:Ems w B (wb :: (rb ++ ib))
theorem MkS.start (w:World):MkS (((w.alloc (.cells #[.slice none 0 0,.slice none 0 0,.map none] 88)).alloc (.map #[] 0)).alloc (.cells #[.slice none 0 0,.slice none 0 0,.map (some (w.heap.size + 1))] 88)) w.heap.size (.slice none 0 0) (.slice none 0 0) [] [] /\ Below w.heap.size w (((w.alloc (.cells #[.slice none 0 0,.slice none 0 0,.map none] 88)).alloc (.map #[] 0)).alloc (.cells #[.slice none 0 0,.slice none 0 0,.map (some (w.heap.size + 1))] 88)):=by
 have e1:(((w.alloc (.cells #[.slice none 0 0,.slice none 0 0,.map none] 88)).alloc (.map #[] 0)).alloc (.cells #[.slice none 0 0,.slice none 0 0,.map (some (w.heap.size + 1))] 88)).heap[w.heap.size + 1]? = some (.map #[] 0):=by
  rw [Below.heap_alloc _ _ _ (by simp)]
  have:=vheap_alloc_new (w.alloc (.cells #[.slice none 0 0,.slice none 0 0,.map none] 88)) (.map #[] 0)
  simpa using this
 have e2:(((w.alloc (.cells #[.slice none 0 0,.slice none 0 0,.map none] 88)).alloc (.map #[] 0)).alloc (.cells #[.slice none 0 0,.slice none 0 0,.map (some (w.heap.size + 1))] 88)).heap[w.heap.size + 2]? = some (.cells #[.slice none 0 0,.slice none 0 0,.map (some (w.heap.size + 1))] 88 (0,0)):=by
  have:=vheap_alloc_new ((w.alloc (.cells #[.slice none 0 0,.slice none 0 0,.map none] 88)).alloc (.map #[] 0)) (.cells #[.slice none 0 0,.slice none 0 0,.map (some (w.heap.size + 1))] 88)
  simpa using this
 refine ⟨⟨?_,e2,World.ownsRow_nil _ _ _ _,World.ownsRow_nil _ _ _ _,⟨by simp,fun b hb => ?_⟩⟩,?_⟩
 ·rw [Below.heap_alloc _ _ _ (by simp;omega),Below.heap_alloc _ _ _ (by simp),vheap_alloc_new]
 ·simp at hb;subst hb;exact ⟨Nat.le_refl _,e1⟩
 ·exact (((Below.refl _ _).alloc (Nat.le_refl _) _).alloc (by simp) _).alloc (by simp;omega) _
theorem vone_new' (w:World) (o:Obj) (x:Value) (t:TypeId):∀ j u,[x][j]? = some u -> ((w.alloc o).alloc (.cells #[x] t)).cell? ((⟨w.heap.size + 1,0,none⟩:Addr).add j) = some u:=by
 intro j u hj
 match j,hj with
 | 0,hj =>
  simp at hj;subst hj
  have:=vheap_alloc_new (w.alloc o) (.cells #[x] t)
  simp at this
  simp [Addr.add,World.cell?,this]
theorem MkS.done {w w':World} {B:Nat} {rv iv:Value} {rb ib:List Nat} {n m:Nat} (h:MkS w B rv iv rb ib) (_hn:n = rb.length) (_hm:m = ib.length) (hk:∀ x,x ≠ B -> w'.heap[x]? = w.heap[x]?):StV w' B rv iv (B + 1) rb ib :=
 ⟨(vown_of_block h.r (fun k e => hk k (by have:=(h.r.lt k e).1;omega))).mono (by omega),(vown_of_block h.i (fun k e => hk k (by have:=(h.i.lt k e).1;omega))).mono (by omega),h.m.nd,fun b hb => ⟨by have:=(h.m.el b hb).1;omega,(hk b (by have:=(h.m.el b hb).1;omega)).trans (h.m.el b hb).2⟩⟩
theorem makeStore_any (nr nl:Nat) (w:World) (h1:nr <= 100) (h2:nl <= 100) :
  Calls Tryz.prog 56 #[.int .i64 nr,.int .i64 nl] w fun e w' => ∃ ra rc ia ic wb rb ib,e = .returned (.agg #[.slice ra nr rc,.slice ia nl ic,.map (some wb)]) /\ rb.length = nr /\ ib.length = nl /\ StV w' w.heap.size (.slice ra nr rc) (.slice ia nl ic) wb rb ib /\ Below w.heap.size w w':=by
 obtain ⟨i0,hi,hz0,hz1,hz2⟩:=info_parts Tryz.info130
 have HI:Hid _:=hi
 have HZ0:Hid _:=hz0
 have HZ1:Hid _:=hz1
 have HZ2:Hid _:=hz2
 clear hi hz0 hz1 hz2
 obtain ⟨i1,hi,hz0,hz1,hz2⟩:=info_parts Tryz.info166
 have HJ:Hid _:=hi
 have HY0:Hid _:=hz0
 have HY1:Hid _:=hz1
 have HY2:Hid _:=hz2
 clear hi hz0 hz1 hz2
 have hmm:=@run_makeMap Tryz.prog
 go_enter Tryz.func56,Tryz.ntmps56
 go_wp2_with fail
 go_loopw [9] (fun kv wr => ∃ (k:Nat) (ra:Option Addr) (rc:Nat) (rb:List Nat),k <= nr /\ kv = .int .i64 k /\ k = rb.length /\ MkS wr w.heap.size (.slice ra k rc) (.slice none 0 0) rb [] /\ Below w.heap.size w wr) (fun kv _ => nr - (intOf kv).toNat)
 case atStart => exact ⟨0,none,0,[],Nat.zero_le _,rfl,rfl,(MkS.start w).1,(MkS.start w).2⟩
 case round =>
  obtain ⟨k,ra,rc,rb,hk,rfl,hkl,hM,hb⟩:=hrel
  by_cases hlt:k < nr
  ·have HKL:Hid (k = rb.length):=hkl
   clear hkl
   have c0:wr.cell? ⟨w.heap.size + 2,0,none⟩ = some (.slice ra k rc):=by simp [World.cell?,hM.s]
   have l0:=vlt_of_block hM.s
   have hr:wr.ownsRow (w.heap.size + 3) 130 1 (.slice ra k rc) k (mapVs rb):=by have:=hM.r;rw [← HKL.out] at this;exact this
   have HM:Hid _:=hM
   have hws:w.heap.size <= wr.heap.size:=hb.size
   clear hM
   go_wp2_with (at_builtin;refine wpList_append_own _ rfl (.tmp 12) (.tmp 14) 84 rfl (w.heap.size + 3) 130 i0 (.map none) 1 8 Tryz.underlying84 HI.out HZ0.out HZ1.out HZ2.out rfl (by decide) (.slice ra k rc) _ _ rfl ((hr.alloc _).alloc _) ⟨wr.heap.size + 1,0,none⟩ 1 1 [.map (some wr.heap.size)] rfl rfl (vone_new' _ _ _ _) (by intro u hu;simp at hu;subst hu;rfl) (by unfold maxLen;omega) (by omega) (by first | (simp;omega) | simp) ?_;intro v6 w6 hown6 hgrow6 _;obtain ⟨xa,xc,rfl⟩:=vown_form hown6;have FIN:=HM.out.rows hgrow6 hown6 (by rw [← HKL.out]);have e2:w6.cell? ⟨w.heap.size + 2,0,none⟩ = some (.slice ra k rc):=(by simp [World.cell?,FIN.2]);have e3:w6.frozen? ⟨w.heap.size + 2,0,none⟩ = false:=(by simp [World.frozen?,FIN.2]))
   have hb6:Below w.heap.size w (w6.setCell ⟨w.heap.size + 2,0,none⟩ (.slice xa (k + 1) xc)):=((((hb.alloc hws _).alloc (by simp;omega) _)).grown hgrow6 (by simp;omega) (fun j hj => by have:=(hr.lt j hj).1;omega)).setCell (p:=⟨w.heap.size + 2,0,none⟩) (by simp) _
   go_roundw
   case rel => exact ⟨k + 1,xa,xc,rb ++ [wr.heap.size],by omega,by go_num,by simp [← HKL.out],FIN.1,hb6⟩
   case measure => simp [intOf];omega
  ·have hkn:k = nr:=by omega
   subst hkn
   have HRB:Hid (k = rb.length):=hkl
   clear hkl hlt hk
   go_wp2_with fail
   go_loopw [19] (fun kv wr => ∃ (k2:Nat) (ia:Option Addr) (ic:Nat) (ib:List Nat),k2 <= nl /\ kv = .int .i64 k2 /\ k2 = ib.length /\ MkS wr w.heap.size (.slice ra k rc) (.slice ia k2 ic) rb ib /\ Below w.heap.size w wr) (fun kv _ => nl - (intOf kv).toNat)
   case atStart => exact ⟨0,none,0,[],Nat.zero_le _,rfl,rfl,hM,hb⟩
   case round =>
    clear hM hb
    obtain ⟨k2,ia,ic,ib,hk,rfl,hkl,hM,hb⟩:=hrel
    by_cases hlt:k2 < nl
    ·have HKL:Hid (k2 = ib.length):=hkl
     clear hkl
     have c0:wr.cell? ⟨w.heap.size + 2,1,none⟩ = some (.slice ia k2 ic):=by simp [World.cell?,hM.s]
     have l0:=vlt_of_block hM.s
     have hr:wr.ownsRow (w.heap.size + 3) 166 1 (.slice ia k2 ic) k2 (mapVs ib):=by have:=hM.i;rw [← HKL.out] at this;exact this
     have HM:Hid _:=hM
     have hws:w.heap.size <= wr.heap.size:=hb.size
     clear hM
     go_wp2_with (at_builtin;refine wpList_append_own _ rfl (.tmp 22) (.tmp 24) 85 rfl (w.heap.size + 3) 166 i1 (.map none) 1 8 Tryz.underlying85 HJ.out HY0.out HY1.out HY2.out rfl (by decide) (.slice ia k2 ic) _ _ rfl ((hr.alloc _).alloc _) ⟨wr.heap.size + 1,0,none⟩ 1 1 [.map (some wr.heap.size)] rfl rfl (vone_new' _ _ _ _) (by intro u hu;simp at hu;subst hu;rfl) (by unfold maxLen;omega) (by omega) (by first | (simp;omega) | simp) ?_;intro v6 w6 hown6 hgrow6 _;obtain ⟨xa,xc,rfl⟩:=vown_form hown6;have FIN:=HM.out.ixs hgrow6 hown6 (by rw [← HKL.out]);have e2:w6.cell? ⟨w.heap.size + 2,1,none⟩ = some (.slice ia k2 ic):=(by simp [World.cell?,FIN.2]);have e3:w6.frozen? ⟨w.heap.size + 2,1,none⟩ = false:=(by simp [World.frozen?,FIN.2]))
     have hb6:Below w.heap.size w (w6.setCell ⟨w.heap.size + 2,1,none⟩ (.slice xa (k2 + 1) xc)):=((((hb.alloc hws _).alloc (by simp;omega) _)).grown hgrow6 (by simp;omega) (fun j hj => by have:=(hr.lt j hj).1;omega)).setCell (p:=⟨w.heap.size + 2,1,none⟩) (by simp) _
     go_roundw
     case rel => exact ⟨k2 + 1,xa,xc,ib ++ [wr.heap.size],by omega,by go_num,by simp [← HKL.out],FIN.1,hb6⟩
     case measure => simp [intOf];omega
    ·have hkn:k2 = nl:=by omega
     subst hkn
     have HIB:Hid (k2 = ib.length):=hkl
     have c0:wr.cell? ⟨w.heap.size + 2,0,none⟩ = some (.slice ra k rc):=by simp [World.cell?,hM.s]
     have c1:wr.cell? ⟨w.heap.size + 2,1,none⟩ = some (.slice ia k2 ic):=by simp [World.cell?,hM.s]
     have c2:wr.cell? ⟨w.heap.size + 2,2,none⟩ = some (.map (some (w.heap.size + 1))):=by simp [World.cell?,hM.s]
     have z0:wr.cell? ⟨w.heap.size,0,none⟩ = some (.slice none 0 0):=by simp [World.cell?,hM.z]
     have z1:wr.cell? ⟨w.heap.size,1,none⟩ = some (.slice none 0 0):=by simp [World.cell?,hM.z]
     have z2:wr.cell? ⟨w.heap.size,2,none⟩ = some (.map none):=by simp [World.cell?,hM.z]
     have f0:wr.frozen? ⟨w.heap.size,0,none⟩ = false:=by simp [World.frozen?,hM.z]
     have f1:wr.frozen? ⟨w.heap.size,1,none⟩ = false:=by simp [World.frozen?,hM.z]
     have f2:wr.frozen? ⟨w.heap.size,2,none⟩ = false:=by simp [World.frozen?,hM.z]
     have HM:Hid _:=hM
     clear hM hkl hlt
     go_wp2_with fail
     refine bodyPost_ret (v:=.agg #[.slice ra k rc,.slice ia k2 ic,.map (some (w.heap.size + 1))]) (by simp [results,Tryz.results56,go_sem,z0,z1,z2]) rfl ⟨ra,rc,ia,ic,w.heap.size + 1,rb,ib,rfl,HRB.out.symm,HIB.out.symm,?_,?_⟩
     ·have hK:∀ x,x ≠ w.heap.size -> ((((wr.setCell ⟨w.heap.size,0,none⟩ (.slice ra k rc)).setCell ⟨w.heap.size,1,none⟩ (.slice ia k2 ic)).setCell ⟨w.heap.size,2,none⟩ (.map (some (w.heap.size + 1))))).heap[x]? = wr.heap[x]?:=fun x hx => by
       rw [Below.heap_setCell _ _ _ _ hx,Below.heap_setCell _ _ _ _ hx,Below.heap_setCell _ _ _ _ hx]
      exact HM.out.done HRB.out HIB.out hK
     ·repeat (refine Below.setCell ?_ (by simp) _)
      exact hb
end Go.Proofs.YtondkinefmjpjaaGreat
