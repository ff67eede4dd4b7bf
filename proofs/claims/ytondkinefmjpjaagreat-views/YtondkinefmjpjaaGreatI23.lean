import Derived.Shelf.SlSortCmp.InsertionK
import Derived.Shelf.SlSortCmp.WholeK
import Derived.Test.YtondkinefmjpjaaGreatI20
import Derived.Test.YtondkinefmjpjaaGreatI22
set_option maxHeartbeats 1000000
namespace Go.Proofs.YtondkinefmjpjaaGreat
open Go.RowKit Go.Shelf Go.Lib Go.Sort
theorem tell1_any (v1 v2:Value) (b1 b2:Int) (xs ys:List Int) (W:World) (h1:Reads W v1 xs) (h2:Reads W v2 ys) (l1:xs.length <= 6) (l2:ys.length <= 6) :
  Calls Tryz.prog 69 #[.agg #[v1,.int .i64 b1],.agg #[v2,.int .i64 b2]] W fun e w' => e = .returned (.int .i64 (cmpL xs ys)) /\ ∃ q os',w' = grow (W.drewN q) os':=by
 obtain ⟨C,hC⟩:∃ C,cmpL xs ys = C:=⟨_,rfl⟩
 have HC:Hid (cmpL xs ys = C):=hC
 rw [hC]
 clear hC
 have h1':=h1
 have h2':=h2
 obtain ⟨a1,c1,rfl,_⟩:=h1
 obtain ⟨a2,c2,rfl,_⟩:=h2
 have hb:Below W.heap.size W ((W.alloc (.cells #[.slice a1 xs.length c1,.int .i64 b1] 55)).alloc (.cells #[.slice a2 ys.length c2,.int .i64 b2] 55)):=((Below.refl _ _).alloc (Nat.le_refl _) _).alloc (by simp) _
 go_enter Tryz.func69,Tryz.ntmps69
 go_wp2_with (go_at_call 70;refine (Compare_any _ _ xs ys _ (h1'.below hb) (h2'.below hb) (by omega) (by omega)).mono ?_;rintro e w' ⟨rfl,rfl⟩)
 rw [HC.out]
 go_wp2
 go_ret
 exact ⟨rfl,0,_,by rw [alloc_eq_grow,alloc_eq_grow,grow_grow];rfl⟩
theorem tell1T_any (v1 v2:Value) (b1 b2:Int) (xs ys:List Int) (W:World) (h1:Reads W v1 xs) (h2:Reads W v2 ys) (l1:xs.length <= 6) (l2:ys.length <= 6) :
  Calls Tryz.prog 91 #[.agg #[v1,.int .i64 b1],.agg #[v2,.int .i64 b2]] W fun e w' => e = .returned (.int .i64 (cmpL xs ys)) /\ ∃ q os',w' = grow (W.drewN q) os':=by
 obtain ⟨C,hC⟩:∃ C,cmpL xs ys = C:=⟨_,rfl⟩
 have HC:Hid (cmpL xs ys = C):=hC
 rw [hC]
 clear hC
 have h1':=h1
 have h2':=h2
 obtain ⟨a1,c1,rfl,_⟩:=h1
 obtain ⟨a2,c2,rfl,_⟩:=h2
 have hb:Below W.heap.size W ((W.alloc (.cells #[.slice a1 xs.length c1,.int .i64 b1] 55)).alloc (.cells #[.slice a2 ys.length c2,.int .i64 b2] 55)):=((Below.refl _ _).alloc (Nat.le_refl _) _).alloc (by simp) _
 go_enter Tryz.func91,Tryz.ntmps91
 go_wp2_with (go_at_call 70;refine (Compare_any _ _ xs ys _ (h1'.below hb) (h2'.below hb) (by omega) (by omega)).mono ?_;rintro e w' ⟨rfl,rfl⟩)
 rw [HC.out]
 go_wp2
 go_ret
 exact ⟨rfl,0,_,by rw [alloc_eq_grow,alloc_eq_grow,grow_grow];rfl⟩
theorem cmpI_lt {x y:Int}:cmpI x y < 0 ↔ x < y:=by
 unfold cmpI;split
 ·constructor <;> intro <;> omega
 ·split <;> constructor <;> intro <;> omega
theorem cmpI_zero {x y:Int}:cmpI x y = 0 ↔ x = y:=by
 unfold cmpI;split
 ·constructor <;> intro h <;> omega
 ·split
  ·constructor <;> intro h <;> omega
  ·constructor <;> intro h <;> omega
theorem cmpL_cons {x y:Int} {xs ys:List Int}:cmpL (x :: xs) (y :: ys) < 0 ↔ x < y ∨ (x = y /\ cmpL xs ys < 0):=by
 rw [cmpL];split
 ·rename_i h
  have:=cmpI_zero.1 h
  subst this
  constructor
  ·intro h';exact Or.inr ⟨rfl,h'⟩
  ·rintro (h' | ⟨_,h'⟩)
   ·omega
   ·exact h'
 ·rename_i h
  rw [cmpI_lt]
  have hne:¬ x = y:=fun e => h (cmpI_zero.2 e)
  constructor
  ·exact Or.inl
  ·rintro (h' | ⟨h',_⟩)
   ·exact h'
   ·exact absurd h' hne
theorem cmpL_irr (xs:List Int):¬ cmpL xs xs < 0:=by
 induction xs with
 | nil => simp [cmpL]
 | cons x xs ih => rw [cmpL_cons];rintro (h | ⟨_,h⟩);omega;exact ih h
theorem cmpL_trans (xs ys zs:List Int) (h1:cmpL xs ys < 0) (h2:cmpL ys zs < 0):cmpL xs zs < 0:=by
 induction xs generalizing ys zs with
 | nil =>
  cases zs with
  | nil => cases ys <;> simp [cmpL] at h1 h2
  | cons z zs => simp [cmpL]
 | cons x xs ih =>
  cases ys with
  | nil => simp [cmpL] at h1
  | cons y ys =>
   cases zs with
   | nil => simp [cmpL] at h2
   | cons z zs =>
    rw [cmpL_cons] at h1 h2 ⊢
    rcases h1 with h1 | ⟨rfl,h1⟩
    ·rcases h2 with h2 | ⟨rfl,h2⟩
     ·left;omega
     ·left;exact h1
    ·rcases h2 with h2 | ⟨rfl,h2⟩
     ·left;exact h2
     ·right;exact ⟨rfl,ih ys zs h1 h2⟩
theorem cmpL_ntrans (xs ys zs:List Int) (h1:¬ cmpL xs ys < 0) (h2:¬ cmpL ys zs < 0):¬ cmpL xs zs < 0:=by
 induction xs generalizing ys zs with
 | nil =>
  cases ys with
  | nil => exact h2
  | cons y ys => simp [cmpL] at h1
 | cons x xs ih =>
  cases ys with
  | nil =>
   cases zs with
   | nil => simp [cmpL]
   | cons z zs => simp [cmpL] at h2
  | cons y ys =>
   cases zs with
   | nil => simp [cmpL]
   | cons z zs =>
    rw [cmpL_cons] at h1 h2 ⊢
    rintro (h | ⟨rfl,h⟩)
    ·by_cases e:x = y
     ·subst e;exact h2 (Or.inl h)
     ·have:¬ x < y:=fun h' => h1 (Or.inl h')
      exact h2 (Or.inl (by omega))
    ·by_cases e:x = y
     ·subst e
      exact ih ys zs (fun h' => h1 (Or.inr ⟨rfl,h'⟩)) (fun h' => h2 (Or.inr ⟨rfl,h'⟩)) h
     ·have:¬ x < y:=fun h' => h1 (Or.inl h')
      exact h2 (Or.inl (by omega))
def Tryz.laysSort_ren:Go.Shelf.Ren:=⟨fun | 6 => 68 | 15 => 108 | 14 => 107 | 28 => 145 | 29 => 146 | 20 => 137 | 21 => 138 | 22 => 139 | 23 => 140 | 24 => 141 | 25 => 142 | 26 => 143 | 27 => 144 | 46 => 168 | 47 => 169 | 48 => 170 | 49 => 171 | 50 => 172 | 57 => 176 | n => n,fun | 22 => 31 | 24 => 55 | 25 => 146 | 3 => 3 | 39 => 200 | 0 => 0 | 53 => 72 | 55 => 244 | 4 => 4 | 46 => 236 | 45 => 235 | 50 => 240 | 5 => 5 | 9 => 9 | 66 => 252 | 70 => 256 | 76 => 263 | 77 => 66 | n => n,fun | n => n⟩
theorem Tryz.laysSort:Go.Proofs.SlLaysF0.n6 Tryz.prog Tryz.laysSort_ren:={
 mixed:=by kernel_rfl
 f6:=⟨Tryz.f68.name,by decide,Tryz.func68.trans (congrArg some (by kernel_rfl))⟩
 f14:=⟨Tryz.f107.name,by decide,Tryz.func107.trans (congrArg some (by kernel_rfl))⟩
 f15:=Tryz.func108.trans (congrArg some (by kernel_rfl))
 f20:=⟨Tryz.f137.name,by decide,Tryz.func137.trans (congrArg some (by kernel_rfl))⟩
 f21:=⟨Tryz.f138.name,by decide,Tryz.func138.trans (congrArg some (by kernel_rfl))⟩
 f22:=⟨Tryz.f139.name,by decide,Tryz.func139.trans (congrArg some (by kernel_rfl))⟩
 f23:=⟨Tryz.f140.name,by decide,Tryz.func140.trans (congrArg some (by kernel_rfl))⟩
 f24:=⟨Tryz.f141.name,by decide,Tryz.func141.trans (congrArg some (by kernel_rfl))⟩
 f25:=⟨Tryz.f142.name,by decide,Tryz.func142.trans (congrArg some (by kernel_rfl))⟩
 f26:=⟨Tryz.f143.name,by decide,Tryz.func143.trans (congrArg some (by kernel_rfl))⟩
 f27:=⟨Tryz.f144.name,by decide,Tryz.func144.trans (congrArg some (by kernel_rfl))⟩
 f28:=Tryz.func145.trans (congrArg some (by kernel_rfl))
 f29:=Tryz.func146.trans (congrArg some (by kernel_rfl))
 f46:=⟨Tryz.f168.name,by decide,Tryz.func168.trans (congrArg some (by kernel_rfl))⟩
 f47:=Tryz.func169.trans (congrArg some (by kernel_rfl))
 f48:=Tryz.func170.trans (congrArg some (by kernel_rfl))
 f49:=⟨Tryz.f171.name,by decide,Tryz.func171.trans (congrArg some (by kernel_rfl))⟩
 f50:=⟨Tryz.f172.name,by decide,Tryz.func172.trans (congrArg some (by kernel_rfl))⟩
 f57:=⟨Tryz.f176.name,by decide,Tryz.func176.trans (congrArg some (by kernel_rfl))⟩
 t0:=Tryz.underlying0
 a0:=Tryz.isAgg0
 z0:=Tryz.sizeOf0
 v0:=Tryz.zeroValue0
 t3:=Tryz.underlying3
 a3:=Tryz.isAgg3
 z3:=Tryz.sizeOf3
 v3:=Tryz.zeroValue3
 t4:=Tryz.underlying4
 a4:=Tryz.isAgg4
 z4:=Tryz.sizeOf4
 v4:=Tryz.zeroValue4
 t5:=Tryz.underlying5
 a5:=Tryz.isAgg5
 z5:=Tryz.sizeOf5
 v5:=Tryz.zeroValue5
 t9:=Tryz.underlying9
 a9:=Tryz.isAgg9
 z9:=Tryz.sizeOf9
 v9:=Tryz.zeroValue9
 t22:=Tryz.underlying31
 a22:=Tryz.isAgg31
 z22:=Tryz.sizeOf31
 v22:=Tryz.zeroValue31
 t25:=Tryz.underlying146
 a25:=Tryz.isAgg146
 z25:=Tryz.sizeOf146
 v25:=Tryz.zeroValue146
 t39:=Tryz.underlying200
 a39:=Tryz.isAgg200
 z39:=Tryz.sizeOf200
 v39:=Tryz.zeroValue200
 t45:=Tryz.underlying235
 a45:=Tryz.isAgg235
 z45:=Tryz.sizeOf235
 v45:=Tryz.zeroValue235
 t46:=Tryz.underlying236
 a46:=Tryz.isAgg236
 z46:=Tryz.sizeOf236
 v46:=Tryz.zeroValue236
 t50:=Tryz.underlying240
 a50:=Tryz.isAgg240
 z50:=Tryz.sizeOf240
 v50:=Tryz.zeroValue240
 t53:=Tryz.underlying72
 a53:=Tryz.isAgg72
 z53:=Tryz.sizeOf72
 v53:=Tryz.zeroValue72
 t55:=Tryz.underlying244
 a55:=Tryz.isAgg244
 z55:=Tryz.sizeOf244
 v55:=Tryz.zeroValue244
 t66:=Tryz.underlying252
 a66:=Tryz.isAgg252
 z66:=Tryz.sizeOf252
 v66:=Tryz.zeroValue252
 t70:=Tryz.underlying256
 a70:=Tryz.isAgg256
 z70:=Tryz.sizeOf256
 v70:=Tryz.zeroValue256
 t76:=Tryz.underlying263
 a76:=Tryz.isAgg263
 z76:=Tryz.sizeOf263
 v76:=Tryz.zeroValue263
 t77:=Tryz.underlying66
 a77:=Tryz.isAgg66
 z77:=Tryz.sizeOf66
 v77:=Tryz.zeroValue66 }
structure RV (w:World) (blk:Nat) where
 v:Value
 n:Int
 xs:List Int
 reads:Reads w v xs
 len:xs.length <= 6
 out:∀ g off c,v = .slice (some ⟨g,off,none⟩) xs.length c -> g ≠ blk
def encR {w:World} {blk:Nat} (r:RV w blk):List Value:=[r.v,.int .i64 r.n]
def cfR {w:World} {blk:Nat} (x y:RV w blk):Int:=cmpL x.xs y.xs
theorem swoR (w:World) (blk:Nat):SWO (ltOf (cfR (w:=w) (blk:=blk))) where
 irrefl x:=by unfold ltOf cfR;exact decide_eq_false (cmpL_irr _)
 trans x y z h1 h2:=by unfold ltOf cfR at *;exact decide_eq_true (cmpL_trans _ _ _ (of_decide_eq_true h1) (of_decide_eq_true h2))
 ntrans x y z h1 h2:=by unfold ltOf cfR at *;exact decide_eq_false (cmpL_ntrans _ _ _ (of_decide_eq_false h1) (of_decide_eq_false h2))
@[reducible] def rvDef (w:World) (blk:Nat):Inhabited (RV w blk):=⟨⟨.slice none 0 0,0,[],⟨none,0,rfl,fun h => absurd h (by simp)⟩,by simp,fun g off c h => by simp at h⟩⟩
theorem cmpLaysR (w:World) (blk off size:Nat) [Inhabited (RV w blk)]:CmpLays Tryz.prog 69 #[] encR 2 (cfR (w:=w) (blk:=blk)) blk off size w:=by
 intro m os dk hdk x y
 have rd:∀ r:RV w blk,Reads (sortWorldK encR 2 w blk off m dk os) r.v r.xs:=by
  intro r
  obtain ⟨a,c,hv,h2⟩:=r.reads
  refine ⟨a,c,hv,fun hl => ?_⟩
  obtain ⟨g,o,rfl,h3⟩:=h2 hl
  refine ⟨g,o,rfl,fun j hj => ?_⟩
  have hlt:=World.block_lt_of_cell? _ _ (h3 j hj)
  have hne:=r.out g o c hv
  unfold sortWorldK putRowK
  rw [cell?_grow _ _ _ (by show g < (putRow _ _ _ _ _).heap.size;rw [size_putRow];exact hlt),cell?_putRow_other _ _ blk off _ _ (Or.inl hne)]
  exact h3 j hj
 exact tell1_any x.v y.v x.n y.n x.xs y.xs _ (rd x) (rd y) x.len y.len
theorem sort_any (w:World) (blk cap:Nat) [Inhabited (RV w blk)] (d:Array (RV w blk)) (hH:HoldsK encR 2 w blk 0 d) (hblk:blk < w.heap.size) (hsz:d.size < 4611686018427387904) :
  Calls Tryz.prog 68 #[.slice (some ⟨blk,0,none⟩) d.size cap,.func (.func 69) #[] #[]] w fun e w' => e = .returned (.tuple #[]) /\ ∃ d' n os,PermIn 0 d.size d d' /\ SortedIn (ltOf cfR) 0 d.size d' /\ w' = sortWorldK encR 2 w blk 0 n d' os:=by
 have eg:∀ args w,(callFunc 69 args).run Tryz.prog w = .ok (.enter 69 args) w:=enters_of Tryz.func69 (by kernel_rfl) rfl
 exact AnyQ.slices_SortFunc Tryz.laysSort 2 Tryz.isAgg55 Tryz.sizeOf55 encR (fun _ => rfl) (fun x v hv => by
  simp [encR] at hv
  rcases hv with rfl | rfl
  ·obtain ⟨a,c,h,_⟩:=x.reads;rw [h];rfl
  ·rfl) cfR (swoR w blk) 69 #[] blk 0 cap d w eg (cmpLaysR w blk 0 d.size) hH hblk hsz
theorem cmpLaysRT (w:World) (blk off size:Nat) [Inhabited (RV w blk)]:CmpLays Tryz.prog 91 #[] encR 2 (cfR (w:=w) (blk:=blk)) blk off size w:=by
 intro m os dk hdk x y
 have rd:∀ r:RV w blk,Reads (sortWorldK encR 2 w blk off m dk os) r.v r.xs:=by
  intro r
  obtain ⟨a,c,hv,h2⟩:=r.reads
  refine ⟨a,c,hv,fun hl => ?_⟩
  obtain ⟨g,o,rfl,h3⟩:=h2 hl
  refine ⟨g,o,rfl,fun j hj => ?_⟩
  have hlt:=World.block_lt_of_cell? _ _ (h3 j hj)
  have hne:=r.out g o c hv
  unfold sortWorldK putRowK
  rw [cell?_grow _ _ _ (by show g < (putRow _ _ _ _ _).heap.size;rw [size_putRow];exact hlt),cell?_putRow_other _ _ blk off _ _ (Or.inl hne)]
  exact h3 j hj
 exact tell1T_any x.v y.v x.n y.n x.xs y.xs _ (rd x) (rd y) x.len y.len
theorem sortT_any (w:World) (blk cap:Nat) [Inhabited (RV w blk)] (d:Array (RV w blk)) (hH:HoldsK encR 2 w blk 0 d) (hblk:blk < w.heap.size) (hsz:d.size < 4611686018427387904) :
  Calls Tryz.prog 68 #[.slice (some ⟨blk,0,none⟩) d.size cap,.func (.func 91) #[] #[]] w fun e w' => e = .returned (.tuple #[]) /\ ∃ d' n os,PermIn 0 d.size d d' /\ SortedIn (ltOf cfR) 0 d.size d' /\ w' = sortWorldK encR 2 w blk 0 n d' os:=by
 have eg:∀ args w,(callFunc 91 args).run Tryz.prog w = .ok (.enter 91 args) w:=enters_of Tryz.func91 (by kernel_rfl) rfl
 exact AnyQ.slices_SortFunc Tryz.laysSort 2 Tryz.isAgg55 Tryz.sizeOf55 encR (fun _ => rfl) (fun x v hv => by
  simp [encR] at hv
  rcases hv with rfl | rfl
  ·obtain ⟨a,c,h,_⟩:=x.reads;rw [h];rfl
  ·rfl) cfR (swoR w blk) 91 #[] blk 0 cap d w eg (cmpLaysRT w blk 0 d.size) hH hblk hsz
end Go.Proofs.YtondkinefmjpjaaGreat
