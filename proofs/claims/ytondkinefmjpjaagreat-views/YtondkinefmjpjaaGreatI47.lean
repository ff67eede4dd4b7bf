import Derived.Test.YtondkinefmjpjaaGreatRows
import Derived.ProofKit
import Derived.SizedLaws
import Derived.ChangeSlices
import Derived.ChangeMaps5
import Derived.Deep.Slices
import Derived.Test.YtondkinefmjpjaaGreatI37
import Derived.Test.YtondkinefmjpjaaGreatI39
import Derived.Test.YtondkinefmjpjaaGreatI45
set_option maxHeartbeats 4000000
set_option maxRecDepth 100000
namespace Go.Proofs.YtondkinefmjpjaaGreat
open Go.RowKit Go.WideMaps Go.WideElems Go.Maps Go.Shelf
theorem started_no (s:ByteArray) (w:World) (hs:s.size <= maxLen) (hE:K.pE s ≠ 0) :
  Calls Tryz.prog 10 #[.string s] w fun e w' => e = .returned (.tuple #[.pointer none,.pointer none,.bool true]) /\ Below w.heap.size w w':=by
 obtain ⟨a1,a2⟩:=K.answers K.cyc_said s
 have C1:=Start_no s w hs hE
 have C2:=fun (u:World) => RefStart_no s u hs (by rw [← a1];omega)
 rw [← a1,← a2] at C2
 obtain ⟨E,hEE⟩:∃ E:Int,(K.pE s:Int) = E:=⟨_,rfl⟩
 obtain ⟨A,hAA⟩:∃ A:Int,(K.pA s:Int) = A:=⟨_,rfl⟩
 have hE0:(E == 0) = false:=beq_eq_false_iff_ne.2 (by omega)
 rw [hEE,hAA] at C1 C2
 have HC2:Hid _:=C2
 clear a1 a2 hEE hAA C2 hE
 go_enter Tryz.func10,Tryz.ntmps10
 go_wp2_with fail
 refine C1.mono ?_
 rintro x w1 ⟨rfl,hb1⟩
 have C3:=HC2.out w1
 go_wp2_with fail
 refine C3.mono ?_
 rintro x w2 ⟨rfl,hb2⟩
 have hb:Below w.heap.size w w2:=hb1.trans (hb2.mono hb1.size)
 clear C1 C3 HC2 hb1 hb2
 go_wp2_with (go_at_call 27;refine (num_any _ _).mono ?_;rintro x w3 ⟨rfl,hw3⟩;subst hw3)
 refine bodyPost_ret (v:=.tuple #[.pointer none,.pointer none,.bool true]) (by simp [results,Tryz.results10,go_sem]) rfl ⟨rfl,hb⟩
theorem started_full (s:ByteArray) (w:World) (hs:s.size <= maxLen) (hG:K.pG s = true) :
  Calls Tryz.prog 10 #[.string s] w fun e w' => ∃ vb q rb ib wb,e = .returned (.tuple #[.pointer (some ⟨vb,0,none⟩),.pointer (some ⟨q,0,none⟩),.bool true]) /\ VSt w' vb (K.planOf (K.rq s (K.c0 s)).2) rb ib wb noR (fun _ _ => none) (own0 wb rb ib) /\ Below w.heap.size w w' /\ w.heap.size <= vb /\ (∀ b,own0 wb rb ib b ≠ none -> w.heap.size <= b) /\ RfS s w' q /\ w.heap.size <= q:=by
 obtain ⟨a1,a2⟩:=K.answers K.cyc_said s
 have C1:=Start_ok s w hs hG
 have C2:=fun (u:World) => RefStart_ok s u hs (by rw [← a1,(K.pG_E hG).1];rfl)
 have HC2:Hid _:=C2
 clear a1 a2 C2
 go_enter Tryz.func10,Tryz.ntmps10
 go_wp2_with fail
 refine C1.mono ?_
 rintro x w1 ⟨vb,rb,ib,wb,rfl,hV,hb1,hvb,hown⟩
 have C3:=HC2.out w1
 have HV:Hid _:=hV
 have HO:Hid _:=hown
 clear hV hown
 go_wp2_with fail
 refine C3.mono ?_
 rintro x w2 ⟨q,rfl,hb2,hfs,hqs⟩
 have HFS:Hid _:=hfs
 have hqs':w.heap.size <= q:=Nat.le_trans hb1.size hqs
 clear hfs hqs
 have hb:Below w.heap.size w w2:=hb1.trans (hb2.mono hb1.size)
 have HV2:Hid _:=VSt.fr HV.out (fr_below hb2)
 clear C1 C3 HC2 hb1 hb2 HV
 go_wp2_with (go_at_call 27;refine (num_any _ _).mono ?_;rintro x w3 ⟨rfl,hw3⟩;subst hw3)
 refine bodyPost_ret (v:=.tuple #[.pointer (some ⟨vb,0,none⟩),.pointer (some ⟨q,0,none⟩),.bool true]) (by simp [results,Tryz.results10,go_sem]) rfl ⟨vb,q,rb,ib,wb,rfl,HV2.out,hb,hvb,HO.out,HFS.out,hqs'⟩
theorem VUp.below {w w':World} {own own':Nat -> Option (Nat × List Int)} {B:Nat} (h:VUp w w' own own') (hB:B <= w.heap.size) (ho:∀ b,own b ≠ none -> B <= b):Below B w w' /\ ∀ b,own' b ≠ none -> B <= b:=by
 refine ⟨⟨h.fr.os,h.fr.tape,h.fr.output,h.fr.size,fun i hi => h.fr.block i (by omega) (fun ⟨r,hr⟩ => ?_)⟩,fun b hb => ?_⟩
 ·have:=ho i (by rw [hr];simp);omega
 ·by_cases hl:b < w.heap.size
  ·rw [h.old b hl] at hb;exact ho b hb
  ·omega
def Scr (w:World) (va:Option Addr) (n:Nat) (Kd Am:Nat -> Int) (S:Nat -> ByteArray) (LV:Nat -> Value) (L:Nat -> List Int):Prop :=
 0 < n -> ∃ b off,va = some ⟨b,off,none⟩ /\ ∀ i,i < n -> w.cell? ⟨b,off + i * 5,none⟩ = some (.int .i64 (Kd i)) /\ w.cell? ⟨b,off + i * 5 + 1,none⟩ = some (.int .i64 (Am i)) /\ w.cell? ⟨b,off + i * 5 + 2,none⟩ = some (.string (S i)) /\ w.cell? ⟨b,off + i * 5 + 4,none⟩ = some (LV i) /\ Reads w (LV i) (L i) /\ (L i).length * 8 <= 140737488355328
theorem Scr.at {w w':World} {va:Option Addr} {n:Nat} {Kd Am:Nat -> Int} {S:Nat -> ByteArray} {LV:Nat -> Value} {L:Nat -> List Int} (h:Scr w va n Kd Am S LV L) (hb:Below w.heap.size w w') {i:Nat} (hi:i < n) :
  ∃ b off la lc,va = some ⟨b,off,none⟩ /\ w'.cell? ⟨b,off + i * 5,none⟩ = some (.int .i64 (Kd i)) /\ w'.cell? ⟨b,off + i * 5 + 1,none⟩ = some (.int .i64 (Am i)) /\ w'.cell? ⟨b,off + i * 5 + 2,none⟩ = some (.string (S i)) /\ w'.cell? ⟨b,off + i * 5 + 4,none⟩ = some (.slice la (L i).length lc) /\ Reads w' (.slice la (L i).length lc) (L i) /\ (L i).length * 8 <= 140737488355328:=by
 obtain ⟨b,off,e,hh⟩:=h (by omega)
 obtain ⟨c0,c1,c2,c4,hr,hl⟩:=hh i hi
 have hr':=hr.below hb
 obtain ⟨la,lc,e4,_⟩:=id hr
 rw [e4] at c4 hr'
 exact ⟨b,off,la,lc,e,(hb.cell (World.block_lt_of_cell? _ _ c0)).trans c0,(hb.cell (World.block_lt_of_cell? _ _ c1)).trans c1,(hb.cell (World.block_lt_of_cell? _ _ c2)).trans c2,(hb.cell (World.block_lt_of_cell? _ _ c4)).trans c4,hr',hl⟩
theorem rows_len {l:Rws} {head:List Nat} {f:List Int -> Int} (hp:l.Perm (rowsL (hvals head) f (live 6 f))) (j:Nat) (hj:j < l.length):(rAt l j).1.length = head.length:=by
 have hm:rAt l j ∈ l:=by unfold rAt;rw [List.getD_eq_getElem?_getD,List.getElem?_eq_getElem hj];exact List.getElem_mem hj
 obtain ⟨a,_,e⟩:=List.mem_map.1 (hp.mem_iff.1 hm)
 rw [← e];simp [hvals]
end Go.Proofs.YtondkinefmjpjaaGreat
namespace Go.Proofs.YtondkinefmjpjaaGreat
open Go.ChangeShapes Go.WideShapes Go.ChangeAt Go.RowKit Go.Deep
theorem Tryz.own:ownKnob Tryz.prog.godebug = none:=by kernel_rfl
theorem Tryz.laidOut:laidOutB Tryz.prog = true:=by kernel_rfl
theorem Tryz.cells30:Tryz.prog.cellsOf 30 = 5:=by kernel_rfl
theorem Tryz.cells3:Tryz.prog.cellsOf 3 = 1:=by kernel_rfl
theorem Tryz.cells9:Tryz.prog.cellsOf 9 = 1:=by kernel_rfl
theorem Tryz.cells28:Tryz.prog.cellsOf 28 = 1:=by kernel_rfl
theorem Tryz.bytes3:Tryz.prog.bytesOf 3 = 8:=by kernel_rfl
theorem weightsAll_mem {H:Type} {P:Program} {e:TypeId} {l:List (DataW H)} {d:DataW H} (hd:d ∈ l) {n:Nat} (hn:n ∈ d.weights P e):n ∈ DataW.weightsAll P e l:=by
 induction l with
 | nil => cases hd
 | cons a l ih =>
  unfold DataW.weightsAll
  rcases List.mem_cons.1 hd with rfl | hd
  ·exact List.mem_append_left _ hn
  ·exact List.mem_append_right _ (ih hd)
theorem ints_read {H:Type} {enc:TypeId × Value -> H} {w:World} {n:Nat} {v:Value} {x:DataW H × List MemPlace} (h:DataW.trod enc Tryz.prog w 0 (fun _ => true) true n 28 [v] = some x) :
  ∃ L,Reads w v L /\ (L = [] ∨ ∃ N,L.length <= N /\ N * 8 ∈ x.1.weights Tryz.prog 28):=by
 rcases open_ints Tryz.underlying28 Tryz.underlying3 Tryz.cells3 h with ⟨hc,rfl⟩ | ⟨a,len,cap,zs,hc,_,hl,_,hz,rfl,hcell,_⟩
 ·simp at hc;subst hc
  exact ⟨[],⟨none,0,rfl,fun h => absurd h (by simp)⟩,Or.inl rfl⟩
 ·simp at hc;subst hc
  simp only [if_true] at hz
  have hlen:(zs.take len).length = len:=by rw [List.length_take];omega
  refine ⟨zs.take len,⟨some a,cap,by rw [hlen],fun h0 => ?_⟩,Or.inr ⟨zs.length,by rw [hlen];omega,?_⟩⟩
  ·rw [hlen] at h0
   obtain ⟨b,off,spot⟩:=a
   have c0:=hcell 0 (by omega)
   have hspot:spot = none:=by simpa [Addr.add] using World.cell?_spot c0
   subst hspot
   refine ⟨b,off,rfl,fun j hj => ?_⟩
   rw [hlen] at hj
   have:=hcell j (by omega)
   rw [add_plain] at this
   rw [this]
   congr 2
   rw [List.getD_eq_getElem?_getD,List.getD_eq_getElem?_getD,List.getElem?_take_of_lt hj]
  ·simp only [DataW.weights,Tryz.underlying28,Tryz.bytes3]
   refine List.mem_cons.2 (Or.inl ?_)
   have:(lits (H:=H) .i64 (zs.take len)).length + (lits (H:=H) .i64 (zs.drop len)).length = zs.length:=by simp [lits];omega
   rw [this]
end Go.Proofs.YtondkinefmjpjaaGreat
