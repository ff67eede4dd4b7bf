import Derived.Test.YtondkinefmjpjaaGreatI47
import Derived.Test.YtondkinefmjpjaaGreatI50
set_option maxRecDepth 100000
namespace Go.Proofs.YtondkinefmjpjaaGreat
open Go.RowKit Go.WideMaps Go.WideElems Go.Maps Go.Shelf
def ScrT (w:World) (va:Option Addr) (n:Nat) (Kd Am:Nat -> Int) (S T:Nat -> ByteArray) (LV:Nat -> Value) (L:Nat -> List Int):Prop :=
 Scr w va n Kd Am S LV L /\ ∀ b off,va = some ⟨b,off,none⟩ -> ∀ i,i < n -> w.cell? ⟨b,off + i * 5 + 3,none⟩ = some (.string (T i))
end Go.Proofs.YtondkinefmjpjaaGreat
namespace Go.Proofs.YtondkinefmjpjaaGreat
open Go.ChangeShapes Go.WideShapes Go.ChangeAt Go.RowKit Go.Deep
theorem op_readsT {H:Type} {enc:TypeId × Value -> H} {w:World} {n:Nat} {a:Addr} {cs:List Value} {x:DataW H × List MemPlace} (hc:w.cells? 0 a 5 = some cs) (h:DataW.trod enc Tryz.prog w 0 (fun _ => true) true n 30 cs = some x) :
  ∃ q:Int × Int × ByteArray × ByteArray × Value × List Int,w.cell? a = some (.int .i64 q.1) /\ w.cell? (a.add 1) = some (.int .i64 q.2.1) /\ w.cell? (a.add 2) = some (.string q.2.2.1) /\ w.cell? (a.add 3) = some (.string q.2.2.2.1) /\ w.cell? (a.add 4) = some q.2.2.2.2.1 /\ Reads w q.2.2.2.2.1 q.2.2.2.2.2 /\ (q.2.2.2.2.2 = [] ∨ ∃ N,q.2.2.2.2.2.length <= N /\ N * 8 ∈ x.1.weights Tryz.prog 30):=by
 obtain ⟨_,hlen,hcell⟩:=World.cells?_some hc
 obtain ⟨xs,m,_,hx,_,hxl,hf⟩:=DataW.trod_struct Tryz.underlying30 h
 match xs,hxl,cs,hlen with
 | [y0,y1,y2,y3,y4],_,[v0,v1,v2,v3,v4],_ =>
  have g0:=hf 0 _ rfl
  have g1:=hf 1 _ rfl
  have g2:=hf 2 _ rfl
  have g3:=hf 3 _ rfl
  have g4:=hf 4 _ rfl
  simp [Tryz.cells3,Tryz.cells9,Tryz.cells28] at g0 g1 g2 g3 g4
  obtain ⟨k,e0,_,_⟩:=DataW.trod_int Tryz.underlying3 g0
  obtain ⟨am,e1,_,_⟩:=DataW.trod_int Tryz.underlying3 g1
  obtain ⟨s,e2,_,hs⟩:=DataW.trod_string Tryz.underlying9 g2
  obtain ⟨s3,e3,_,_⟩:=DataW.trod_string Tryz.underlying9 g3
  obtain ⟨L,hL,hN⟩:=ints_read g4
  have c0:=hcell 0 (by omega)
  have c1:=hcell 1 (by omega)
  have c2:=hcell 2 (by omega)
  have c3:=hcell 3 (by omega)
  have c4:=hcell 4 (by omega)
  simp at e0 e1 e2 e3 c0 c1 c2 c3 c4
  subst e0 e1 e2 e3
  refine ⟨(k,am,s,s3,v4,L),by simpa [Addr.add] using c0,c1,c2,c3,c4,hL,?_⟩
  rcases hN with e | ⟨N,hN1,hN2⟩
  ·exact Or.inl e
  ·refine Or.inr ⟨N,hN1,?_⟩
   rw [hx]
   simp only [DataW.weights,Tryz.underlying30]
   exact DataW.weights_mem_each (j:=4) (t:=28) (d:=y4.1) rfl rfl _ hN2
theorem script_readsT {H:Type} {enc:TypeId × Value -> H} {W:World} {fuel:Nat} {a0:Option Addr} {len cap:Nat} {x:DataW H × List MemPlace} (hf:DataW.trod enc Tryz.prog W 0 (fun _ => true) true fuel 22 [.slice a0 len cap] = some x) (hw:∀ n,n ∈ x.1.weights Tryz.prog 22 -> n <= reachBytes) :
  ∃ Kd Am S T LV L,ScrT W a0 len Kd Am S T LV L:=by
 rcases open_slice Tryz.underlying22 hf with ⟨hcs,_⟩ | ⟨a,len',cap',m,n,D,Pl,hcs,_,hl,hm,hmm,hx,hel⟩
 ·obtain ⟨rfl,rfl,rfl⟩:a0 = none /\ len = 0 /\ cap = 0:=by simpa using hcs
  exact ⟨fun _ => 0,fun _ => 0,fun _ => ByteArray.empty,fun _ => ByteArray.empty,fun _ => .slice none 0 0,fun _ => [],fun h => absurd h (by decide),fun _ _ h => by cases h⟩
 ·obtain ⟨rfl,rfl,rfl⟩:a0 = some a /\ len = len' /\ cap = cap':=by simpa using hcs
  simp only [if_true] at hmm
  have each:∀ i,i < len -> ∃ q:Int × Int × ByteArray × ByteArray × Value × List Int,W.cell? (a.add (i * 5)) = some (.int .i64 q.1) /\ W.cell? ((a.add (i * 5)).add 1) = some (.int .i64 q.2.1) /\ W.cell? ((a.add (i * 5)).add 2) = some (.string q.2.2.1) /\ W.cell? ((a.add (i * 5)).add 3) = some (.string q.2.2.2.1) /\ W.cell? ((a.add (i * 5)).add 4) = some q.2.2.2.2.1 /\ Reads W q.2.2.2.2.1 q.2.2.2.2.2 /\ q.2.2.2.2.2.length * 8 <= 140737488355328:=by
   intro i hi
   obtain ⟨cs',g1,g2⟩:=hel i (by omega)
   rw [Tryz.cells30] at g1
   obtain ⟨q,e0,e1,e2,e3,e4,hr,hN⟩:=op_readsT g1 g2
   refine ⟨q,e0,e1,e2,e3,e4,hr,?_⟩
   rcases hN with e | ⟨N,h1,h2⟩
   ·rw [e];simp
   ·have hin:N * 8 ∈ x.1.weights Tryz.prog 22:=by
     rw [hx]
     simp only [DataW.weights,Tryz.underlying22]
     refine List.mem_cons_of_mem _ (List.mem_append_left _ (weightsAll_mem (d:=D i) (List.mem_map.2 ⟨i,List.mem_range.2 hi,rfl⟩) h2))
    have:=hw _ hin
    have hr47:=reachBytes_lt
    omega
  haveI:Inhabited (Int × Int × ByteArray × ByteArray × Value × List Int):=⟨(0,0,ByteArray.empty,ByteArray.empty,.slice none 0 0,[])⟩
  obtain ⟨f,hfn⟩:=choose_lt each
  refine ⟨fun i => (f i).1,fun i => (f i).2.1,fun i => (f i).2.2.1,fun i => (f i).2.2.2.1,fun i => (f i).2.2.2.2.1,fun i => (f i).2.2.2.2.2,fun h0 => ?_,fun b off e i hi => ?_⟩
  ·obtain ⟨b,off,spot⟩:=a
   have hspot:spot = none:=by simpa [Addr.add] using World.cell?_spot (hfn 0 h0).1
   subst hspot
   refine ⟨b,off,rfl,fun i hi => ?_⟩
   have:=hfn i hi
   simp only [add_plain] at this
   exact ⟨this.1,this.2.1,this.2.2.1,this.2.2.2.2⟩
  ·have:=(hfn i hi).2.2.2.1
   simp only [Option.some.injEq] at e
   rw [e] at this
   simp only [add_plain] at this
   exact this
end Go.Proofs.YtondkinefmjpjaaGreat
