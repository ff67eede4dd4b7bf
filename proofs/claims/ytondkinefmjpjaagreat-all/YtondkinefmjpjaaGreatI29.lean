import Derived.Test.YtondkinefmjpjaaGreatI28
set_option maxHeartbeats 8000000
set_option maxRecDepth 100000
namespace Go.Proofs.YtondkinefmjpjaaGreat
open Go.RowKit Go.WideMaps Go.WideElems Go.Maps Go.Shelf
theorem OwnUp.trans {w w1 w2:World} {own own1 own2:Nat -> Option (Nat × List Int)} (h:OwnUp w w1 own own1) (h':OwnUp w1 w2 own1 own2):OwnUp w w2 own own2:=by
 refine ⟨h.fr.trans h'.fr (fun i hi hM => ?_),fun i hi => (h'.old i (by have:=h.fr.size;omega)).trans (h.old i hi),fun i r hi hr => ?_,fun i es c hi => ?_⟩
 ·obtain ⟨r,hr,hk⟩:=hM
  exact ⟨r,by rw [← h.old i hi];exact hr,hk⟩
 ·by_cases hl:i < w1.heap.size
  ·rw [h'.old i hl] at hr;exact h.new i r hi hr
  ·rcases h'.new i r (by omega) hr with e | e
   ·exact h.new i r hi e
   ·exact Or.inr e
 ·obtain ⟨es',c',e⟩:=h.maps i es c hi
  exact h'.maps i es' c' e
theorem OwnUp.of_fr {w w1:World} (own:Nat -> Option (Nat × List Int)) (h:Fr (fun _ => False) w w1):OwnUp w w1 own own :=
 ⟨h.mono (fun _ _ h => h.elim),fun _ _ => rfl,fun _ _ _ h => Or.inl h,fun i es c hi => ⟨es,c,(h.block i (vlt_of_block hi) (fun h => h)).trans hi⟩⟩
theorem Own.fr {w w1:World} {ib:List Nat} {n:Nat} {g:Nat -> List Int -> Option Nat} {own:Nat -> Option (Nat × List Int)} (h:Own w ib n g own) (hf:Fr (fun _ => False) w w1):Own w1 ib n g own :=
 ⟨h.o,h.i,fun i r hr => by obtain ⟨es,c,e⟩:=h.m i r hr;exact ⟨es,c,(hf.block i (vlt_of_block e) (fun h => h)).trans e⟩⟩
theorem IxAll.fr {w w1:World} {ms:List Nat} {lk:List (Nat × Nat)} {ib:List Nat} {cf:Nat -> List Int -> Int} {g:Nat -> List Int -> Option Nat} (h:IxAll w ms lk ib cf g) (hf:Fr (fun _ => False) w w1):IxAll w1 ms lk ib cf g :=
 fun l hl => (h l hl).block (hf.block _ (h l hl).o.lt (fun h => h)) (fun k hk c hc => hf.block _ ((h l hl).i k hk c hc).1.lt (fun h => h))
theorem IxAll.congr {w:World} {ms:List Nat} {lk:List (Nat × Nat)} {ib:List Nat} {cf cf':Nat -> List Int -> Int} {g:Nat -> List Int -> Option Nat} (h:IxAll w ms lk ib cf g) (e:∀ l,l < lk.length -> cf l = cf' l):IxAll w ms lk ib cf' g :=
 fun l hl => by rw [← e l hl];exact h l hl
theorem mps_own {w:World} {ib:List Nat} {n:Nat} {g:Nat -> List Int -> Option Nat} {own:Nat -> Option (Nat × List Int)} (h:Own w ib n g own):Mps w (IxB own):=fun i _ hM => by
 obtain ⟨r,hr,_⟩:=hM;exact h.m i r hr
def cfK (lk:List (Nat × Nat)) (cf:Nat -> List Int -> Int) (atom:Nat) (a:List Int) (x:Int) (k:Nat):Nat -> List Int -> Int:=fun m => if m < k /\ (lk.getD m (0,0)).2 = atom then bump (cf m) a x else cf m
theorem cfK_zero (lk:List (Nat × Nat)) (cf:Nat -> List Int -> Int) (atom:Nat) (a:List Int) (x:Int):cfK lk cf atom a x 0 = cf:=by funext m;simp [cfK]
theorem cfK_yes {lk:List (Nat × Nat)} {cf:Nat -> List Int -> Int} {atom:Nat} {a:List Int} {x:Int} {k:Nat} (h:(lk.getD k (0,0)).2 = atom):(fun m => if m = k then bump (cfK lk cf atom a x k k) a x else cfK lk cf atom a x k m) = cfK lk cf atom a x (k + 1):=by
 funext m
 by_cases e:m = k
 ·subst e;simp only [cfK,h,if_true];simp
 ·have:m < k + 1 ↔ m < k:=by omega
  simp [cfK,e,this]
theorem cfK_no {lk:List (Nat × Nat)} {cf:Nat -> List Int -> Int} {atom:Nat} {a:List Int} {x:Int} {k:Nat} (h:(lk.getD k (0,0)).2 ≠ atom):cfK lk cf atom a x k = cfK lk cf atom a x (k + 1):=by
 funext m
 by_cases e:m = k
 ·subst e;simp only [cfK,h,and_false,if_false]
 ·have:m < k + 1 ↔ m < k:=by omega
  simp [cfK,this]
theorem enter112:∀ vs u,(callFunc 112 vs).run Tryz.prog u = .ok (.enter 112 vs) u:=enters_of Tryz.func112 (by kernel_rfl) rfl
theorem ixadd_step (b s:Nat) (f:List Int -> Int) (g:List Int -> Option Nat) (a:List Int) (x:Int) (u:World) (h:Ixs u b s f g) (ha:a ∈ box) (hb:∀ k,k ∈ box -> g k ≠ some b) (hinj:∀ k k' c,k ∈ box -> k' ∈ box -> g k = some c -> g k' = some c -> k = k') :
  Calls Tryz.prog 112 #[.map (some b),.agg (i64s (rst s a)).toArray,.agg (i64s a).toArray,.int .i64 (wr x)] u fun e w' => ∃ v,e = .returned v /\ (v = .tuple #[] /\ ∃ g',IxA u w' b s f g a x g'):=by
 refine (indexAdd_any b s f g a x u h ha hb hinj).mono ?_
 rintro e w' ⟨rfl,h⟩
 exact ⟨_,rfl,rfl,h⟩
def AIx (w wr:World) (ms:List Nat) (lk:List (Nat × Nat)) (ib:List Nat) (cf:Nat -> List Int -> Int) (own:Nat -> Option (Nat × List Int)) (atom:Nat) (a:List Int) (x:Int) (A:Array Value) (k:Nat):Prop :=
 ∃ g' own',IxAll wr ms lk ib (cfK lk cf atom a x k) g' /\ Own wr ib lk.length g' own' /\ OwnUp w wr own own' /\ wr.heap[w.heap.size]? = some (.cells A 93 (0,0))
theorem addIx_any (vb:Nat) (ms:List Nat) (lk:List (Nat × Nat)) (ib:List Nat) (cf:Nat -> List Int -> Int) (g:Nat -> List Int -> Option Nat) (own:Nat -> Option (Nat × List Int)) (atom:Nat) (a:List Int) (x:Int) (w:World)
  (hlks:∃ lv base,w.cell? ⟨vb,6,none⟩ = some lv /\ w.ownsRow base 163 4 lv lk.length (lkcells ms lk)) (hixs:∃ iv base,w.cell? ⟨vb,9,none⟩ = some iv /\ w.ownsRow base 166 1 iv ib.length (mapVs ib)) (hil:ib.length = lk.length) (hms:∀ m,m ∈ ms -> m < 256) (hlk:lk.length < 100)
  (hA:IxAll w ms lk ib cf g) (hW:Own w ib lk.length g own) (ha:a ∈ box) :
  Calls Tryz.prog 79 #[.pointer (some ⟨vb,0,none⟩),.int .i64 atom,.agg (i64s a).toArray,.int .i64 (wr x)] w fun e w' => e = .returned (.tuple #[]) /\ ∃ g' own',IxAll w' ms lk ib (cfK lk cf atom a x lk.length) g' /\ Own w' ib lk.length g' own' /\ OwnUp w w' own own':=by
 obtain ⟨lv,lb,j1,j2⟩:=hlks
 obtain ⟨iv,ibb,j3,j4⟩:=hixs
 obtain ⟨a0,a1,a2,a3,a4,a5,hae⟩:=six a (box_length ha)
 have hAA:(i64s a).toArray = #[.int .i64 a0,.int .i64 a1,.int .i64 a2,.int .i64 a3,.int .i64 a4,.int .i64 a5]:=by rw [hae];rfl
 obtain ⟨C,hC⟩:∃ C,wr x = C:=⟨_,rfl⟩
 rw [hAA,hC]
 have HAA:Hid _:=hAA
 have HC:Hid _:=hC
 have hm:=mps_own hW
 obtain ⟨lva,lcap,rfl⟩:=vown_form j2
 obtain ⟨iva,icap,rfl⟩:=vown_form j4
 have HJ2:Hid (w.ownsRow lb 163 4 (.slice lva lk.length lcap) lk.length (lkcells ms lk)):=j2
 have HJ4:Hid (w.ownsRow ibb 166 1 (.slice iva ib.length icap) ib.length (mapVs ib)):=j4
 have l1:=World.block_lt_of_cell? _ _ j1
 have S0:Hid (AIx w (w.alloc (.cells #[.int .i64 a0,.int .i64 a1,.int .i64 a2,.int .i64 a3,.int .i64 a4,.int .i64 a5] 93)) ms lk ib cf own atom a x #[.int .i64 a0,.int .i64 a1,.int .i64 a2,.int .i64 a3,.int .i64 a4,.int .i64 a5] 0) :=
  ⟨g,own,by rw [cfK_zero];exact hA.fr (Fr.alloc _ _),hW.fr (Fr.alloc _ _),OwnUp.of_fr own (Fr.alloc _ _),vheap_alloc_new _ _⟩
 have HM:Hid _:=hm
 clear j2 j4 hAA hC hae hA hW hm
 go_enter Tryz.func79,Tryz.ntmps79
 go_wp2_with fail
 go_loopw [8,9,16] (fun _ _ iv wr => ∃ k:Nat,k <= lk.length /\ iv = .int .i64 k /\ AIx w wr ms lk ib cf own atom a x #[.int .i64 a0,.int .i64 a1,.int .i64 a2,.int .i64 a3,.int .i64 a4,.int .i64 a5] k) (fun _ _ iv _ => lk.length - (intOf iv).toNat)
 case atStart => exact ⟨0,Nat.zero_le _,rfl,S0.out⟩
 case round =>
  obtain ⟨k,hk,rfl,g1,own1,hA,hW,hU,hbx⟩:=hrel
  by_cases hlt:k < lk.length
  ·have bk:(k:Int) < (lk.length:Int):=by omega
   obtain ⟨lg,lcap',he⟩:=vown_some HJ2.out (by omega)
   simp only [Value.slice.injEq,true_and] at he
   obtain ⟨rfl,rfl⟩:=he
   obtain ⟨ig,icap',he⟩:=vown_some HJ4.out (by omega)
   simp only [Value.slice.injEq,true_and] at he
   obtain ⟨rfl,rfl⟩:=he
   obtain ⟨x0,x1,x2,x3⟩:=lkcells_at ms lk k hlt
   have y0:=hU.fr.cell HM.out ((HJ2.out.cellAt (k * 4) (by omega)).trans x0)
   have y1:=hU.fr.cell HM.out ((HJ2.out.cellAt (k * 4 + 1) (by omega)).trans x1)
   have y2:=hU.fr.cell HM.out ((HJ2.out.cellAt (k * 4 + 2) (by omega)).trans x2)
   have y3:=hU.fr.cell HM.out ((HJ2.out.cellAt (k * 4 + 3) (by omega)).trans x3)
   have y4:=hU.fr.cell HM.out ((HJ4.out.cellAt k (by omega)).trans (mapVs_at ib k (by omega)))
   have y5:=hU.fr.cell HM.out j3
   rw [hil] at y5
   have l2:=World.block_lt_of_cell? _ _ y0
   have l3:=World.block_lt_of_cell? _ _ y4
   have l4:=World.block_lt_of_cell? _ _ y5
   obtain ⟨s,hsE⟩:∃ s,ms.getD (lk.getD k (0,0)).2 0 &&& ms.getD (lk.getD k (0,0)).1 0 = s:=⟨_,rfl⟩
   obtain ⟨fr,hfE⟩:∃ fr,ms.getD (lk.getD k (0,0)).2 0 &&& (255 ^^^ ms.getD (lk.getD k (0,0)).1 0) = fr:=⟨_,rfl⟩
   obtain ⟨p,hp⟩:∃ p,(lk.getD k (0,0)).1 = p:=⟨_,rfl⟩
   obtain ⟨q,hq⟩:∃ q,(lk.getD k (0,0)).2 = q:=⟨_,rfl⟩
   obtain ⟨b,hb⟩:∃ b,ib.getD k 0 = b:=⟨_,rfl⟩
   rw [hsE] at y2
   rw [hfE] at y3
   rw [hp] at y0
   rw [hq] at y1
   rw [hb] at y4
   have HB0:Hid _:=hbx
   have lbx:=vlt_of_block hbx
   clear x0 x1 x2 x3 hbx
   by_cases hqa:q = atom
   ·subst hqa
    have hs256:s < 256:=by rw [← hsE];exact Nat.lt_of_le_of_lt Nat.and_le_left (getD_lt hms _)
    have ONLY:=fun (u:World) => only_step s a u hs256 (box_length ha)
    have hkb:=rst_mem ha s
    have IX:=hA k hlt
    rw [hsE,hb] at IX
    have ADD:=fun (u:World) (hf:Fr (fun _ => False) wr u) => ixadd_step b s (cfK lk cf q a x k k) (g1 k) a x u (IX.block (hf.block _ IX.o.lt (fun h => h)) (fun k' hk' c hc => hf.block _ (IX.i k' hk' c hc).1.lt (fun h => h))) ha (fun k' hk' e => own_ne_i hW hlt hlt hk' e hb.symm) (fun k1 k2 c h1 h2 e1 e2 => (own_ne_ii hW hlt hlt h1 h2 e1 e2).2)
    rw [HAA.out] at ONLY ADD
    rw [HC.out] at ADD
    obtain ⟨K,hK⟩:∃ K,(i64s (rst s a)).toArray = K:=⟨_,rfl⟩
    rw [hK] at ONLY ADD
    have NX:∀ w1 w2,Below ((wr.alloc (.cells #[.int .i64 p,.int .i64 q,.int .u8 s,.int .u8 fr] 163)).drew).heap.size ((wr.alloc (.cells #[.int .i64 p,.int .i64 q,.int .u8 s,.int .u8 fr] 163)).drew) w1 -> (∃ g',IxA w1 w2 b s (cfK lk cf q a x k k) (g1 k) a x g') -> AIx w w2 ms lk ib cf own q a x #[.int .i64 a0,.int .i64 a1,.int .i64 a2,.int .i64 a3,.int .i64 a4,.int .i64 a5] (k + 1):=by
     rintro w1 w2 hb1 ⟨g',hI⟩
     have hf:Fr (fun _ => False) wr w1:=((Fr.alloc _ _).trans (Fr.drew _) (fun _ _ h => h)).trans (Fr.of_below hb1) (fun _ _ h => h)
     have hW1:=hW.fr hf
     rw [← hb] at hI
     obtain ⟨r1,r2,r3⟩:=ixall_step (hA.fr hf) hW1 hlt ha hsE hI
     refine ⟨_,_,by rw [← cfK_yes hq];exact r1,r2,(hU.trans (OwnUp.of_fr own1 hf)).trans r3,?_⟩
     have e1:=(hf.block _ lbx (fun h => h)).trans HB0.out
     obtain ⟨c1,t1,z1,e2⟩:∃ c t z,w1.heap[w.heap.size]? = some (.cells c t z):=⟨_,_,_,e1⟩
     refine (r3.fr.block _ (vlt_of_block e1) (fun hM => ?_)).trans e1
     obtain ⟨r,hr,_⟩:=hM
     obtain ⟨es,c,e⟩:=hW1.m _ r hr
     rw [e1] at e;cases e
    have HNX:Hid _:=NX
    have HF1:Hid (∀ w1,Below ((wr.alloc (.cells #[.int .i64 p,.int .i64 q,.int .u8 s,.int .u8 fr] 163)).drew).heap.size ((wr.alloc (.cells #[.int .i64 p,.int .i64 q,.int .u8 s,.int .u8 fr] 163)).drew) w1 -> Fr (fun _ => False) wr w1):=fun w1 hb1 => ((Fr.alloc _ _).trans (Fr.drew _) (fun _ _ h => h)).trans (Fr.of_below hb1) (fun _ _ h => h)
    have z0:wr.cell? ⟨w.heap.size,0,none⟩ = some (.int .i64 a0):=by simp [World.cell?,HB0.out]
    have z1:wr.cell? ⟨w.heap.size,1,none⟩ = some (.int .i64 a1):=by simp [World.cell?,HB0.out]
    have z2:wr.cell? ⟨w.heap.size,2,none⟩ = some (.int .i64 a2):=by simp [World.cell?,HB0.out]
    have z3:wr.cell? ⟨w.heap.size,3,none⟩ = some (.int .i64 a3):=by simp [World.cell?,HB0.out]
    have z4:wr.cell? ⟨w.heap.size,4,none⟩ = some (.int .i64 a4):=by simp [World.cell?,HB0.out]
    have z5:wr.cell? ⟨w.heap.size,5,none⟩ = some (.int .i64 a5):=by simp [World.cell?,HB0.out]
    clear NX hA hW hU IX hK
    go_wp2_with fail
    go_region_law (first | (refine step_call rfl 78 #[.tmp 33,.tmp 35] #[93,77] rfl enter78 #[.agg #[.int .i64 a0,.int .i64 a1,.int .i64 a2,.int .i64 a3,.int .i64 a4,.int .i64 a5],.int .u8 s] (by kernel_rfl) _ (ONLY _) ?_;rintro v1 w1 ⟨rfl,hb1⟩;have hf1:=HF1.out w1 hb1;have y4':=hf1.cell (mps_none _) y4;have y5':=hf1.cell (mps_none _) y5;have z0':=hf1.cell (mps_none _) z0;have z1':=hf1.cell (mps_none _) z1;have z2':=hf1.cell (mps_none _) z2;have z3':=hf1.cell (mps_none _) z3;have z4':=hf1.cell (mps_none _) z4;have z5':=hf1.cell (mps_none _) z5) | (refine step_call rfl 112 #[.tmp 32,.tmp 36,.tmp 37,.tmp 38] #[166,93,93,3] rfl enter112 #[.map (some b),.agg K,.agg #[.int .i64 a0,.int .i64 a1,.int .i64 a2,.int .i64 a3,.int .i64 a4,.int .i64 a5],.int .i64 C] (by kernel_rfl) _ (ADD w1 hf1) ?_;rintro v3 w3 ⟨rfl,hI3⟩))
    all_goals go_wp2_with fail
    all_goals go_roundw
    all_goals first | exact ⟨k + 1,by omega,by go_num,HNX.out w1 w3 hb1 hI3⟩ | (simp [intOf];omega)
   ·have hqi:((q:Int) == (atom:Int)) = false:=by simp;omega
    have NX:Hid (AIx w (wr.alloc (.cells #[.int .i64 p,.int .i64 q,.int .u8 s,.int .u8 fr] 163)) ms lk ib cf own atom a x #[.int .i64 a0,.int .i64 a1,.int .i64 a2,.int .i64 a3,.int .i64 a4,.int .i64 a5] (k + 1)) :=
     ⟨g1,own1,by rw [← cfK_no (by rw [hq];exact hqa)];exact hA.fr (Fr.alloc _ _),hW.fr (Fr.alloc _ _),hU.trans (OwnUp.of_fr own1 (Fr.alloc _ _)),(Below.heap_alloc _ _ _ lbx).trans HB0.out⟩
    clear hA hW hU
    go_wp2_with fail
    go_roundw
    case rel => exact ⟨k + 1,by omega,by go_num,NX.out⟩
    case measure => simp [intOf];omega
  ·have hkk:k = lk.length:=by omega
   subst hkk
   have HE:Hid (∃ g' own',IxAll wr ms lk ib (cfK lk cf atom a x lk.length) g' /\ Own wr ib lk.length g' own' /\ OwnUp w wr own own'):=⟨g1,own1,hA,hW,hU⟩
   clear hA hW hU hbx
   go_wp2_with fail
   go_end0
   exact ⟨rfl,HE.out⟩
end Go.Proofs.YtondkinefmjpjaaGreat
