import Derived.Deep.CutBlock
import Derived.Deep.AppendLies
import Derived.Test.YtondkinefmjpjaaGreatI22
import Derived.Test.YtondkinefmjpjaaGreatI25
import Derived.Test.YtondkinefmjpjaaGreatI37
import Derived.Test.YtondkinefmjpjaaGreatI39
import Derived.Test.YtondkinefmjpjaaGreatI47
namespace Go.Proofs.YtondkinefmjpjaaGreat
open Go.RowKit
theorem Tryz.info103:(Tryz.prog.info? 103).map (fun i => (i.zero,i.size,i.bytes)) = some (some (.agg #[.slice none 0 0,.int .i64 0]),2,32):=by kernel_rfl
theorem enter35:∀ vs u,(callFunc 35 vs).run Tryz.prog u = .ok (.enter 35 vs) u:=enters_of Tryz.func35 (by kernel_rfl) rfl
theorem rAt_get (l:Rws) (k:Nat) (hk:k < l.length):rAt l k = l[k]:=by
 unfold rAt;rw [List.getD_eq_getElem?_getD,List.getElem?_eq_getElem hk];rfl
def SmallV (l:Rws):Prop:=∀ j,j < l.length -> (rAt l j).1.length * 8 <= 140737488355328
end Go.Proofs.YtondkinefmjpjaaGreat
namespace Go.Proofs.YtondkinefmjpjaaGreat
open Go.RowKit Go.WideMaps Go.WideElems Go.Maps Go.Shelf
def Fit (N:Nat) (l:Rws):Prop:=l.length <= N /\ SmallV l
theorem rows_fit {l:Rws} {head:List Nat} {f:List Int -> Int} (hp:l.Perm (rowsL (hvals head) f (live 6 f))) (hh:head.length <= 6) {N:Nat} (hf:(live 6 f).length <= N):Fit N l:=by
 refine ⟨?_,fun j hj => ?_⟩
 ·have h1:=hp.length_eq
  rw [rowsL,List.length_map] at h1
  omega
 ·rw [rows_len hp j hj];omega
theorem fit_neg {N:Nat} {l:Rws} (h:Fit N l):Fit N (l.map negR):=by
 refine ⟨by rw [List.length_map];exact h.1,fun j hj => ?_⟩
 rw [List.length_map] at hj
 have:(rAt (l.map negR) j).1 = (rAt l j).1:=by
  rw [rAt_get _ _ (by rw [List.length_map];exact hj),rAt_get _ _ hj,List.getElem_map];rfl
 rw [this];exact h.2 j hj
end Go.Proofs.YtondkinefmjpjaaGreat
