import Derived.Test.YtondkinefmjpjaaGreatProg
import Derived.Conc.RwLib
import Derived.Conc.MuLone
import Derived.KernelRfl
import Derived.Test.YtondkinefmjpjaaGreatI30
import Derived.Test.YtondkinefmjpjaaGreatI32
set_option maxHeartbeats 4000000
set_option maxRecDepth 100000
namespace Go.Proofs
abbrev Tryz.muLink:Go.Conc.Locks.MuLink:={ lock:=39,unlock:=40,ilock:=66,iunlock:=67,lockSlow:=103,unlockSlow:=106,disable:=99,enable:=101,acquire:=102,relMerge:=104,cas32:=100,add32:=105,tMutex:=76,tIMutex:=74,tPMutex:=143,tPIMutex:=191,tPI32:=193,tUP:=195,tNoCopy:=71,tU32:=72 }
theorem Tryz.muLib:Go.Conc.Locks.MuLib Tryz.prog Tryz.muLink :=
 ⟨Tryz.func39,Tryz.func40,Tryz.func66,Tryz.func67,Tryz.func99,Tryz.func101,Tryz.func102,Tryz.func104,Tryz.func100,Tryz.func105,Tryz.underlying74,Tryz.runUnderlying74,Tryz.sizeOf74,Tryz.isAgg74,Tryz.zeroValue74,Tryz.underlying76,Tryz.runUnderlying76,Tryz.sizeOf76,Tryz.isAgg76,Tryz.zeroValue76,Tryz.underlying143,Tryz.runUnderlying143,Tryz.sizeOf143,Tryz.isAgg143,Tryz.zeroValue143,Tryz.underlying191,Tryz.runUnderlying191,Tryz.sizeOf191,Tryz.isAgg191,Tryz.zeroValue191,Tryz.underlying193,Tryz.runUnderlying193,Tryz.sizeOf193,Tryz.isAgg193,Tryz.zeroValue193,Tryz.underlying195,Tryz.runUnderlying195,Tryz.sizeOf195,Tryz.isAgg195,Tryz.zeroValue195,Tryz.underlying71,Tryz.runUnderlying71,Tryz.sizeOf71,Tryz.isAgg71,Tryz.zeroValue71,Tryz.underlying21,Tryz.runUnderlying21,Tryz.sizeOf21,Tryz.isAgg21,Tryz.zeroValue21,(by kernel_rfl)⟩
end Go.Proofs
namespace Go.Proofs.YtondkinefmjpjaaGreat
open Go.RowKit Go.WideMaps Go.WideElems Go.Maps Go.Shelf Go.MuLone
theorem lock_cell {w:World} {vb:Nat} {L:Value} {p:Addr} (h:p.block ≠ vb ∨ p.off ≠ 0):(w.setCell ⟨vb,0,none⟩ L).cell? p = w.cell? p :=
 World.cell?_setCell_other w ⟨vb,0,none⟩ p L (fun e => by subst e;simp at h)
theorem lock_own {w:World} {vb:Nat} {L:Value} {c:Array Value} (hb:w.heap[vb]? = some (.cells c 90 (0,0))) {base:Nat} {e:TypeId} {size:Nat} {v:Value} {n:Nat} {xs:List Value} (h:w.ownsRow base e size v n xs) (he:e ≠ 90):(w.setCell ⟨vb,0,none⟩ L).ownsRow base e size v n xs:=by
 refine ⟨h.1,?_⟩
 rcases h.2 with hn | ⟨g,cap,cur,rfl,h1,h2,rest⟩
 ·exact .inl hn
 ·refine .inr ⟨g,cap,cur,rfl,h1,?_,rest⟩
  rw [Below.heap_setCell _ _ _ _ (show g ≠ vb from fun e' => ?_)]
  ·exact h2
  ·subst e';rw [hb] at h2;simp at h2;exact he h2.2.symm
theorem PlanSt.lock {w:World} {vb:Nat} {P:PlanD} (h:PlanSt w vb P) {c:Array Value} (hb:w.heap[vb]? = some (.cells c 90 (0,0))) (L:Value):PlanSt (w.setCell ⟨vb,0,none⟩ L) vb P:=by
 have hc:∀ j v,j ≠ 0 -> w.cell? ⟨vb,j,none⟩ = some v -> (w.setCell ⟨vb,0,none⟩ L).cell? ⟨vb,j,none⟩ = some v:=fun j v hj h => (lock_cell (Or.inr hj)).trans h
 obtain ⟨⟨hv,b1,h1,h2⟩,h3,⟨rv,b2,rvs,h4,h5,h6,h7⟩,⟨av,b3,pvs,h8,h9,h10,h11⟩,⟨lv,b4,h12,h13⟩,⟨wv,b5,wvs,h14,h15,h16,h17⟩⟩:=h
 exact ⟨⟨hv,b1,hc _ _ (by decide) h1,lock_own hb h2 (by decide)⟩,hc _ _ (by decide) h3,⟨rv,b2,rvs,hc _ _ (by decide) h4,lock_own hb h5 (by decide),h6,fun k hk => let ⟨b',h⟩:=h7 k hk;⟨b',lock_own hb h (by decide)⟩⟩,⟨av,b3,pvs,hc _ _ (by decide) h8,lock_own hb h9 (by decide),h10,fun k hk => let ⟨b',h⟩:=h11 k hk;⟨b',lock_own hb h (by decide)⟩⟩,⟨lv,b4,hc _ _ (by decide) h12,lock_own hb h13 (by decide)⟩,⟨wv,b5,wvs,hc _ _ (by decide) h14,lock_own hb h15 (by decide),h16,fun k hk => let ⟨b',h⟩:=h17 k hk;⟨b',lock_own hb h (by decide)⟩⟩⟩
theorem lock_back {w w1 w2:World} {vb:Nat} {c:Array Value} (hb:w.heap[vb]? = some (.cells c 90 (0,0))) (h0:w.cell? ⟨vb,0,none⟩ = some (.int .i32 0)) (h1:w1 = w.setCell ⟨vb,0,none⟩ (.int .i32 1)) (h2:w2.heap[vb]? = w1.heap[vb]?):(w2.setCell ⟨vb,0,none⟩ (.int .i32 0)).heap[vb]? = w.heap[vb]?:=by
 subst h1
 rw [blk_setCell hb 0 (.int .i32 1)] at h2
 rw [blk_setCell h2 0 (.int .i32 0),hb]
 congr 2
 have hc0:c[0]? = some (.int .i32 0):=by simpa [World.cell?,hb] using h0
 obtain ⟨hlt,he⟩:=Array.getElem?_eq_some_iff.1 hc0
 apply Array.ext
 ·simp
 ·intro i h1 h2
  by_cases e:i = 0
  ·subst e;simp [he]
  ·have e':¬ 0 = i:=fun h => e h.symm
   rw [Array.getElem_setIfInBounds_ne (by simpa using h2) e',Array.getElem_setIfInBounds_ne h2 e']
theorem lock_held {w w2:World} {vb:Nat} {c:Array Value} (hb:w.heap[vb]? = some (.cells c 90 (0,0))) (h0:w.cell? ⟨vb,0,none⟩ = some (.int .i32 0)) (h2:w2.heap[vb]? = (w.setCell ⟨vb,0,none⟩ (.int .i32 1)).heap[vb]?):w2.cell? ⟨vb,0,none⟩ = some (.int .i32 1) /\ w2.frozen? ⟨vb,0,none⟩ = false:=by
 have hc0:c[0]? = some (.int .i32 0):=by simpa [World.cell?,hb] using h0
 obtain ⟨hlt,_⟩:=Array.getElem?_eq_some_iff.1 hc0
 rw [blk_setCell hb 0 (.int .i32 1)] at h2
 exact ⟨by simp [World.cell?,h2,hlt],blk_free h2 0⟩
theorem lock_below {w w2:World} {vb:Nat} {c:Array Value} (hb:w.heap[vb]? = some (.cells c 90 (0,0))) (h0:w.cell? ⟨vb,0,none⟩ = some (.int .i32 0)) (hf:Below w.heap.size (w.setCell ⟨vb,0,none⟩ (.int .i32 1)) w2):Below w.heap.size w (w2.setCell ⟨vb,0,none⟩ (.int .i32 0)):=by
 have hlt:=vlt_of_block hb
 refine ⟨hf.os,hf.tape,hf.output,by have:=hf.size;simpa using this,fun i hi => ?_⟩
 by_cases e:i = vb
 ·subst e;exact lock_back hb h0 rfl (hf.block i hi)
 ·rw [Below.heap_setCell _ _ _ _ e,hf.block i hi,Below.heap_setCell _ _ _ _ e]
theorem own_set {w:World} {B:Nat} {e:TypeId} {size:Nat} {v:Value} {n:Nat} {xs:List Value} (h:w.ownsRow B e size v n xs) {p:Addr} (hp:p.block < B) (u:Value):(w.setCell p u).ownsRow B e size v n xs:=by
 refine ⟨h.1,?_⟩
 rcases h.2 with hn | ⟨g,cap,cur,rfl,h1,h2,rest⟩
 ·exact .inl hn
 ·exact .inr ⟨g,cap,cur,rfl,h1,(Below.heap_setCell _ _ _ _ (by omega)).trans h2,rest⟩
theorem RNew.set {e:TypeId} {B:Nat} {w:World} {v:Value} {us:List Value} {l:Rws} (h:RNew e B w v us l) {p:Addr} (hp:p.block < B) (u:Value):RNew e B (w.setCell p u) v us l :=
 ⟨h.1,own_set h.2.1 hp u,fun j hj => own_set (h.2.2 j hj) hp u⟩
theorem rows_fin {w w2:World} {vb:Nat} {c:Array Value} {v:Value} {us:List Value} {l:Rws} (hb:w.heap[vb]? = some (.cells c 90 (0,0))) (h0:w.cell? ⟨vb,0,none⟩ = some (.int .i32 0)) (r1:RNew 55 (w.setCell ⟨vb,0,none⟩ (.int .i32 1)).drew.heap.size w2 v us l) (r4:Below (w.setCell ⟨vb,0,none⟩ (.int .i32 1)).drew.heap.size (w.setCell ⟨vb,0,none⟩ (.int .i32 1)).drew w2) :
  RNew 55 w.heap.size (w2.setCell ⟨vb,0,none⟩ (.int .i32 0)) v us l /\ Below w.heap.size w (w2.setCell ⟨vb,0,none⟩ (.int .i32 0)):=by
 have e:(w.setCell ⟨vb,0,none⟩ (.int .i32 1)).drew.heap.size = w.heap.size:=by simp
 rw [e] at r1 r4
 exact ⟨r1.set (p:=⟨vb,0,none⟩) (vlt_of_block hb) _,lock_below hb h0 ⟨r4.os,r4.tape,r4.output,r4.size,r4.block⟩⟩
theorem enter41:∀ vs u,(callFunc 41 vs).run Tryz.prog u = .ok (.enter 41 vs) u:=enters_of Tryz.func41 (by kernel_rfl) rfl
theorem tell_step (pb po base:Nat) (head:List Nat) (hv:Value) (b:Nat) (f:List Int -> Int) (w:World) (hc:w.cell? ⟨pb,po,none⟩ = some hv) (hrow:w.ownsRow base 3 1 hv head.length (nats head)) (hlen:head.length <= 6) (hhl:∀ n,n ∈ head -> n < 6) (hCF:CF 93 6 w b f) (hsm:(live 6 f).length <= 1000000) :
  Calls Tryz.prog 41 #[.map (some b),.func (.func 42) #[.pointer (some ⟨pb,po,none⟩)] #[]] w fun e w' => ∃ v,e = .returned v /\ ∃ us l,RNew 55 w.heap.size w' v us l /\ l.Perm (rowsL (hvals head) f (live 6 f)) /\ RiseL l /\ Below w.heap.size w w':=by
 refine (tellA_any pb po base head hv b f w hc hrow hlen hhl hCF hsm).mono ?_
 rintro e w' ⟨v,us,l,rfl,h⟩
 exact ⟨v,rfl,us,l,h⟩
theorem Rows_any (vb wb:Nat) (P:PlanD) (hP:PlanOk P) (f:List Int -> Int) (w:World) (c:Array Value) (hb:w.heap[vb]? = some (.cells c 90 (0,0))) (h0:w.cell? ⟨vb,0,none⟩ = some (.int .i32 0)) (hpl:PlanSt w vb P) (hwo:w.cell? ⟨vb,10,none⟩ = some (.map (some wb))) (hcw:CF 93 6 w wb f) (hsm:(live 6 f).length <= 1000000) :
  Calls Tryz.prog 12 #[.pointer (some ⟨vb,0,none⟩)] w fun e w' => ∃ v us l,e = .returned v /\ RNew 55 w.heap.size w' v us l /\ l.Perm (rowsL (hvals P.head) f (live 6 f)) /\ RiseL l /\ Below w.heap.size w w':=by
 obtain ⟨hv,b1,q1,q2⟩:=(hpl.lock hb (.int .i32 1)).head
 obtain ⟨es,k,hm⟩:=hcw.isMap
 have hne:wb ≠ vb:=fun e => by rw [e,hb] at hm;cases hm
 have hcw1:CF 93 6 (w.setCell ⟨vb,0,none⟩ (.int .i32 1)) wb f:=hcw.block (Below.heap_setCell _ _ _ _ hne)
 have q10:=(lock_cell (w:=w) (vb:=vb) (L:=.int .i32 1) (p:=⟨vb,10,none⟩) (Or.inr (by simp))).trans hwo
 have TELL:=tell_step vb 2 b1 P.head hv wb f (w.setCell ⟨vb,0,none⟩ (.int .i32 1)).drew q1 q2 hP.head6 hP.headlt (hcw1.block rfl) hsm
 have f0:=blk_free hb 0
 have lv:=vlt_of_block hb
 have HB:Hid _:=hb
 have H0:Hid _:=h0
 clear hb q1 q2 hpl hwo hcw hcw1 hm
 go_enter_defers Tryz.func12,Tryz.ntmps12
 go_wp2_with (go_at_call 39;refine (lock_free Tryz.muLib ⟨vb,0,none⟩ _ h0 f0).mono ?_;rintro e w' ⟨rfl,rfl⟩)
 first | go_region_law (refine step_call rfl 41 #[.tmp 14,.tmp 18] #[86,94] rfl enter41 #[.map (some wb),.func (.func 42) #[.pointer (some ⟨vb,2,none⟩)] #[]] (by kernel_rfl) _ TELL ?_;rintro v1 w2 ⟨us,l,r1,r2,r3,r4⟩;obtain ⟨va,vc,rfl⟩:=vown_form r1.2.1) | fail
 all_goals go_wp2_with fail
 all_goals refine leaves_cons (f:=40) (args:=#[.pointer (some ⟨vb,0,none⟩)]) (by simp) (by simp [go_sem]) ?_
 all_goals obtain ⟨k1,k2⟩:=lock_held HB.out H0.out (r4.block vb (by simpa using lv))
 all_goals refine (unlock_deferred Tryz.muLib ⟨vb,0,none⟩ .returning _ k1 k2).mono ?_
 all_goals rintro e u' w3 ⟨rfl,rfl,rfl⟩
 all_goals exact ⟨_,results_tmp rfl _ _ _,.slice va l.length vc,us,l,rfl,(rows_fin HB.out H0.out r1 r4).1,r2,r3,(rows_fin HB.out H0.out r1 r4).2⟩
end Go.Proofs.YtondkinefmjpjaaGreat
