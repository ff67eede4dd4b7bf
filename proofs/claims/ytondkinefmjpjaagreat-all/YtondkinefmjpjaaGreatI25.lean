import Derived.Test.YtondkinefmjpjaaGreatI21
import Derived.Test.YtondkinefmjpjaaGreatI24
set_option maxHeartbeats 4000000
set_option maxRecDepth 100000
namespace Go.Proofs.YtondkinefmjpjaaGreat
open Go.RowKit Go.WideMaps Go.WideElems Go.Maps
def wr (x:Int):Int:=IntKind.i64.wrap x
theorem wr_eq (x:Int):wr x = (x + 9223372036854775808) % 18446744073709551616 - 9223372036854775808:=by unfold wr;rw [IntKind.wrap_i64]
theorem wr_self (x:Int):wr (wr x) = wr x:=by rw [wr_eq (wr x),wr_eq x];omega
theorem wr_add_l (a b:Int):wr (wr a + b) = wr (a + b):=by rw [wr_eq (wr a + b),wr_eq a,wr_eq (a + b)];omega
theorem wr_add_r (a b:Int):wr (a + wr b) = wr (a + b):=by rw [wr_eq (a + wr b),wr_eq b,wr_eq (a + b)];omega
theorem wr_add (a b:Int):wr (wr a + wr b) = wr (a + b):=by rw [wr_add_l,wr_add_r]
theorem wr_cases (a:Int):∃ k:Int,wr a = a + 18446744073709551616 * k:=⟨-((a + 9223372036854775808) / 18446744073709551616),by rw [wr_eq];omega⟩
theorem wr_shift (a k:Int):wr (a + 18446744073709551616 * k) = wr a:=by rw [wr_eq,wr_eq];omega
theorem wr_mul (a b:Int):wr (wr a * wr b) = wr (a * b):=by
 obtain ⟨k,hk⟩:=wr_cases a
 obtain ⟨l,hl⟩:=wr_cases b
 have:wr a * wr b = a * b + 18446744073709551616 * (a * l + k * b + k * 18446744073709551616 * l):=by
  rw [hk,hl]
  simp only [Int.add_mul,Int.mul_add,Int.mul_assoc]
  rw [Int.mul_left_comm a 18446744073709551616 l]
  omega
 rw [this,wr_shift]
theorem wr_neg (a:Int):wr (-(wr a)) = wr (-a):=by rw [wr_eq (-(wr a)),wr_eq a,wr_eq (-a)];omega
theorem wr_small {a:Int} (h1:-9223372036854775808 <= a) (h2:a < 9223372036854775808):wr a = a:=by rw [wr_eq];omega
theorem wr_zero:wr 0 = 0:=rfl
theorem wr_ne {a:Int} (h:wr a ≠ 0):a ≠ 0:=fun e => h (by rw [e];rfl)
theorem box_wf {N:Nat} {a:List Int} (h:a ∈ boxN N):wfA a:=fun x hx => by
 have:=(mem_boxN.1 h).2 x hx
 exact WalkArith.wf_i64 (by omega)
theorem box_length {N:Nat} {a:List Int} (h:a ∈ boxN N):a.length = N:=(mem_boxN.1 h).1
theorem klT_inj {a b:List Int} (ha:a.length = 3) (hb:b.length = 3) (wa:wfA a) (wb:wfA b) (h:klOf a = klOf b):a = b:=by
 have h1:=keyT a ha wa
 have h2:=keyT b hb wb
 rw [← h] at h2
 have:=lawT.inj h1 h2
 obtain ⟨a0,a1,a2,rfl⟩:=three a ha
 obtain ⟨b0,b1,b2,rfl⟩:=three b hb
 simpa [i64s] using this
theorem kl_inj {N:Nat} (hN:N = 6 ∨ N = 3) {a b:List Int} (ha:a ∈ boxN N) (hb:b ∈ boxN N) (h:klOf a = klOf b):a = b:=by
 rcases hN with rfl | rfl
 ·exact klOf_inj (box_length ha) (box_length hb) (box_wf ha) (box_wf hb) h
 ·exact klT_inj (box_length ha) (box_length hb) (box_wf ha) (box_wf hb) h
theorem kl_isKey (a:List Int):WideAt.IsKeyLit (klOf a):=trivial
def Rep (N:Nat) (D:DataW Unit) (f:List Int -> Int):Prop :=
 (∀ kl,has D kl = true -> ∃ a,a ∈ boxN N /\ kl = klOf a) /\ (∀ a,a ∈ boxN N -> has D (klOf a) = (wr (f a) != 0)) /\ ∀ a,a ∈ boxN N -> D.atKey (klOf a) (i64d 0) = i64d (wr (f a))
theorem rep_empty (N:Nat):Rep N (.map []) (fun _ => 0) :=
 ⟨fun kl h => by simp [has] at h,fun a _ => by simp [has,wr_zero],fun a _ => rfl⟩
theorem Rep.add {N:Nat} (hN:N = 6 ∨ N = 3) {D:DataW Unit} {f:List Int -> Int} (h:Rep N D f) (hD:IsMap D) {a:List Int} (ha:a ∈ boxN N) (c:Int):Rep N (addD D (klOf a) (wr (f a + c))) (bump f a c):=by
 obtain ⟨h1,h2,h3⟩:=h
 have hb:∀ b,b ∈ boxN N -> b ≠ a -> klOf b ≠ klOf a:=fun b hb hne e => hne (kl_inj hN hb ha e)
 have hba:bump f a c a = f a + c:=by simp [bump]
 have hbo:∀ b,b ≠ a -> bump f a c b = f b:=fun b hne => by simp [bump,hne]
 unfold addD
 by_cases hz:wr (f a + c) = 0
 ·rw [if_pos hz]
  refine ⟨fun kl hk => ?_,fun b hbx => ?_,fun b hbx => ?_⟩
  ·by_cases e:kl = klOf a
   ·exact ⟨a,ha,e⟩
   ·rw [has_del_other e,has_put_other e] at hk;exact h1 kl hk
  ·by_cases e:b = a
   ·subst e;rw [has_del_same,hba,hz];rfl
   ·rw [has_del_other (hb b hbx e),has_put_other (hb b hbx e),hbo b e];exact h2 b hbx
  ·by_cases e:b = a
   ·subst e;rw [atKey_del_same,hba,hz]
   ·rw [atKey_del_other (hb b hbx e),atKey_put_other (hb b hbx e),hbo b e];exact h3 b hbx
 ·rw [if_neg hz]
  refine ⟨fun kl hk => ?_,fun b hbx => ?_,fun b hbx => ?_⟩
  ·by_cases e:kl = klOf a
   ·exact ⟨a,ha,e⟩
   ·rw [has_put_other e] at hk;exact h1 kl hk
  ·by_cases e:b = a
   ·subst e;rw [has_put_same hD (kl_isKey _),hba];simp [hz]
   ·rw [has_put_other (hb b hbx e),hbo b e];exact h2 b hbx
  ·by_cases e:b = a
   ·subst e;rw [atKey_put_same hD (kl_isKey _),hba]
   ·rw [atKey_put_other (hb b hbx e),hbo b e];exact h3 b hbx
theorem Rep.congr {N:Nat} {D:DataW Unit} {f g:List Int -> Int} (h:Rep N D f) (e:∀ a,a ∈ boxN N -> wr (f a) = wr (g a)):Rep N D g :=
 ⟨h.1,fun a ha => by rw [h.2.1 a ha,e a ha],fun a ha => by rw [h.2.2 a ha,e a ha]⟩
theorem sameKey_self (a:List Int):(klOf a).sameKey (klOf a) = true:=by simp [klOf,Lit.sameKey]
theorem has_mem {es:List (Lit × DataW Unit)} {p:Lit × DataW Unit} (h:p ∈ es) (hk:p.1.sameKey p.1 = true):has (.map es) p.1 = true:=List.any_eq_true.2 ⟨p,h,hk⟩
def live (N:Nat) (f:List Int -> Int):List (List Int):=(boxN N).filter fun a => wr (f a) != 0
theorem mem_live {N:Nat} {f:List Int -> Int} {a:List Int}:a ∈ live N f ↔ a ∈ boxN N /\ wr (f a) ≠ 0:=by simp [live]
theorem live_nodup (N:Nat) (f:List Int -> Int):(live N f).Nodup:=(boxN_nodup N).filter _
theorem Rep.size {N:Nat} (hN:N = 6 ∨ N = 3) {D:DataW Unit} {f:List Int -> Int} (h:Rep N D f) (hT:Tidy D) (hK:∀ es p,D = .map es -> p ∈ es -> p.1.sameKey p.1 = true):size D = (live N f).length:=by
 obtain ⟨es,rfl,hp⟩:=hT
 rw [size_eq]
 have hkeys:∀ p,p ∈ es -> ∃ a,a ∈ live N f /\ p.1 = klOf a:=fun p hm => by
  have hh:=has_mem hm (hK es p rfl hm)
  obtain ⟨a,ha,e⟩:=h.1 _ hh
  refine ⟨a,mem_live.2 ⟨ha,?_⟩,e⟩
  rw [e,h.2.1 a ha] at hh
  simpa using hh
 have hnd:(es.map Prod.fst).Nodup:=by
  unfold List.Nodup;rw [List.pairwise_map];exact hp
 apply Nat.le_antisymm
 ·have hle:=@nodup_le _ (fun a b => Classical.propDecidable (a = b)) _ ((live N f).map klOf) hnd (fun kl hm => by
   obtain ⟨p,hp,rfl⟩:=List.mem_map.1 hm
   obtain ⟨a,ha,e⟩:=hkeys p hp
   exact List.mem_map.2 ⟨a,ha,e.symm⟩)
  simpa using hle
 ·have hnl:((live N f).map klOf).Nodup:=by
   have:=live_nodup N f
   unfold List.Nodup at this ⊢
   rw [List.pairwise_map]
   exact this.imp_of_mem (fun {a b} ha hb hne e => hne (kl_inj hN (mem_live.1 ha).1 (mem_live.1 hb).1 e))
  have hle:=@nodup_le _ (fun a b => Classical.propDecidable (a = b)) _ (es.map Prod.fst) hnl (fun kl hm => by
   obtain ⟨a,ha,rfl⟩:=List.mem_map.1 hm
   have hh:=h.2.1 a (mem_live.1 ha).1
   have:has (.map es) (klOf a) = true:=by rw [hh];simpa using (mem_live.1 ha).2
   obtain ⟨p,hp,hs⟩:=List.any_eq_true.1 this
   exact List.mem_map.2 ⟨p,hp,WideAt.sameKey_eq hs⟩)
  simpa using hle
def CF (k N:Nat) (w:World) (b:Nat) (f:List Int -> Int):Prop:=∃ n D,w.ownsMap (H:=Unit) Tryz.prog k (plainElem Tryz.prog 3) b n D /\ Rep N D f
theorem CF.lt {k N:Nat} {w:World} {b:Nat} {f:List Int -> Int} (h:CF k N w b f):b < w.heap.size:=by obtain ⟨_,_,h,_⟩:=h;exact h.lt
theorem CF.isMap {k N:Nat} {w:World} {b:Nat} {f:List Int -> Int} (h:CF k N w b f):∃ es c,w.heap[b]? = some (.map es c):=by obtain ⟨_,_,⟨es,c,h,_⟩,_⟩:=h;exact ⟨es,c,h⟩
theorem CF.congr {k N:Nat} {w:World} {b:Nat} {f g:List Int -> Int} (h:CF k N w b f) (e:∀ a,a ∈ boxN N -> wr (f a) = wr (g a)):CF k N w b g:=by
 obtain ⟨n,D,h,hr⟩:=h;exact ⟨n,D,h,hr.congr e⟩
theorem own_block {k:TypeId} {w w':World} {b n:Nat} {R:Value -> Option (DataW Unit × List MemPlace)} {D:DataW Unit} (h:w.ownsMap Tryz.prog k R b n D) (e:w'.heap[b]? = w.heap[b]?):w'.ownsMap Tryz.prog k R b n D:=by
 obtain ⟨es,c,h1,h2⟩:=h
 exact ⟨es,c,e.trans h1,h2⟩
theorem CF.block {k N:Nat} {w w':World} {b:Nat} {f:List Int -> Int} (h:CF k N w b f) (e:w'.heap[b]? = w.heap[b]?):CF k N w' b f:=by
 obtain ⟨n,D,h,hr⟩:=h;exact ⟨n,D,own_block h e,hr⟩
theorem own_tight {k:TypeId} {w:World} {b n:Nat} {R:Value -> Option (DataW Unit × List MemPlace)} {D:DataW Unit} (h:w.ownsMap Tryz.prog k R b n D):w.ownsMap Tryz.prog k R b (size D) D:=by
 obtain ⟨es,c,h1,h2,_,h4⟩:=h
 refine ⟨es,c,h1,h2,?_,h4⟩
 rw [h4,size_eq,length_sorted];simp
theorem own_keys {k:TypeId} {w:World} {b n:Nat} {R:Value -> Option (DataW Unit × List MemPlace)} {D:DataW Unit} (K:Keyed Tryz.prog k) (h:w.ownsMap Tryz.prog k R b n D):∀ es p,D = .map es -> p ∈ es -> p.1.sameKey p.1 = true:=by
 intro es p hD hp
 obtain ⟨es',hD',_,hk⟩:=h.entries K
 rw [hD] at hD'
 simp only [DataW.map.injEq] at hD'
 subst hD'
 exact WideAt.sameKey_self (hk p hp)
theorem keyedOf {k N:Nat} (h:(k = 93 /\ N = 6) ∨ (k = 110 /\ N = 3)):Keyed Tryz.prog k:=by
 rcases h with ⟨rfl,_⟩ | ⟨rfl,_⟩
 ·exact Keyed.of_law lawA
 ·exact Keyed.of_law lawT
theorem CF.tight {k N:Nat} (hk:(k = 93 /\ N = 6) ∨ (k = 110 /\ N = 3)) {w:World} {b:Nat} {f:List Int -> Int} (h:CF k N w b f):∃ D,w.ownsMap (H:=Unit) Tryz.prog k (plainElem Tryz.prog 3) b (live N f).length D /\ Rep N D f /\ size D = (live N f).length:=by
 obtain ⟨n,D,h,hr⟩:=h
 have hs:=hr.size (by rcases hk with h | h;exact Or.inl h.2;exact Or.inr h.2) (h.tidy (keyedOf hk)) (own_keys (keyedOf hk) h)
 exact ⟨D,by rw [← hs];exact own_tight h,hr,hs⟩
theorem live_lt {N:Nat} (hN:N = 6 ∨ N = 3) (f:List Int -> Int):(live N f).length < maxLen:=by
 have h1:(live N f).length <= 1000 ^ N:=by rw [← boxN_len];exact List.length_filter_le _ _
 unfold maxLen
 rcases hN with rfl | rfl <;> omega
theorem addA_cf (b:Nat) (f:List Int -> Int) (a:List Int) (x:Int) (w:World) (h:CF 93 6 w b f) (ha:a ∈ box) :
  Calls Tryz.prog 50 #[.map (some b),.agg (i64s a).toArray,.int .i64 (wr x)] w fun e w' => e = .returned (.tuple #[]) /\ CF 93 6 w' b (bump f a x) /\ w.grownBy w' (some b):=by
 obtain ⟨D,ho,hr,_⟩:=h.tight (Or.inl ⟨rfl,rfl⟩)
 refine (addA_any b _ D a (wr (f a)) (wr x) w ho (live_lt (Or.inl rfl) f) (box_length ha) (box_wf ha) (hr.2.2 a ha) (wr (f a + x)) (wr_add _ _)).mono ?_
 rintro e w' ⟨rfl,h2,h3⟩
 exact ⟨rfl,⟨_,_,h2,hr.add (Or.inl rfl) ho.isMap ha x⟩,h3⟩
theorem addT_cf (b:Nat) (f:List Int -> Int) (a:List Int) (x:Int) (w:World) (h:CF 110 3 w b f) (ha:a ∈ boxN 3) :
  Calls Tryz.prog 74 #[.map (some b),.agg (i64s a).toArray,.int .i64 (wr x)] w fun e w' => e = .returned (.tuple #[]) /\ CF 110 3 w' b (bump f a x) /\ w.grownBy w' (some b):=by
 obtain ⟨D,ho,hr,_⟩:=h.tight (Or.inr ⟨rfl,rfl⟩)
 refine (addT_any b _ D a (wr (f a)) (wr x) w ho (live_lt (Or.inr rfl) f) (box_length ha) (box_wf ha) (hr.2.2 a ha) (wr (f a + x)) (wr_add _ _)).mono ?_
 rintro e w' ⟨rfl,h2,h3⟩
 exact ⟨rfl,⟨_,_,h2,hr.add (Or.inr rfl) ho.isMap ha x⟩,h3⟩
def gd:Option Nat -> DataW Unit
 | some c => refD c
 | none => .nil
def RepI (D:DataW Unit) (g:List Int -> Option Nat):Prop :=
 (∀ kl,has D kl = true -> ∃ k,k ∈ box /\ kl = klOf k) /\ (∀ k,k ∈ box -> has D (klOf k) = (g k).isSome) /\ ∀ k,k ∈ box -> D.atKey (klOf k) .nil = gd (g k)
def putG (g:List Int -> Option Nat) (k:List Int) (c:Option Nat):List Int -> Option Nat:=fun k' => if k' = k then c else g k'
theorem putG_same (g:List Int -> Option Nat) (k:List Int) (c:Option Nat):putG g k c k = c:=by simp [putG]
theorem putG_other (g:List Int -> Option Nat) {k k':List Int} (c:Option Nat) (h:k' ≠ k):putG g k c k' = g k':=by simp [putG,h]
theorem repI_empty:RepI (.map []) (fun _ => none):=⟨fun kl h => by simp [has] at h,fun a _ => by simp [has],fun a _ => rfl⟩
theorem RepI.del {D:DataW Unit} {g:List Int -> Option Nat} (h:RepI D g) {k:List Int} (hk:k ∈ box):RepI (D.del (klOf k)) (putG g k none):=by
 obtain ⟨h1,h2,h3⟩:=h
 have hb:∀ b,b ∈ box -> b ≠ k -> klOf b ≠ klOf k:=fun b hb hne e => hne (kl_inj (Or.inl rfl) hb hk e)
 refine ⟨fun kl hh => ?_,fun b hbx => ?_,fun b hbx => ?_⟩
 ·by_cases e:kl = klOf k
  ·exact ⟨k,hk,e⟩
  ·rw [has_del_other e] at hh;exact h1 kl hh
 ·by_cases e:b = k
  ·subst e;rw [has_del_same,putG_same];rfl
  ·rw [has_del_other (hb b hbx e),putG_other _ _ e];exact h2 b hbx
 ·by_cases e:b = k
  ·subst e;rw [atKey_del_same,putG_same];rfl
  ·rw [atKey_del_other (hb b hbx e),putG_other _ _ e];exact h3 b hbx
theorem RepI.put {D:DataW Unit} {g:List Int -> Option Nat} (h:RepI D g) (hD:IsMap D) {k:List Int} (hk:k ∈ box) (c:Nat):RepI (D.put (klOf k) (refD c)) (putG g k (some c)):=by
 obtain ⟨h1,h2,h3⟩:=h
 have hb:∀ b,b ∈ box -> b ≠ k -> klOf b ≠ klOf k:=fun b hb hne e => hne (kl_inj (Or.inl rfl) hb hk e)
 refine ⟨fun kl hh => ?_,fun b hbx => ?_,fun b hbx => ?_⟩
 ·by_cases e:kl = klOf k
  ·exact ⟨k,hk,e⟩
  ·rw [has_put_other e] at hh;exact h1 kl hh
 ·by_cases e:b = k
  ·subst e;rw [has_put_same hD (kl_isKey _),putG_same];rfl
  ·rw [has_put_other (hb b hbx e),putG_other _ _ e];exact h2 b hbx
 ·by_cases e:b = k
  ·subst e;rw [atKey_put_same hD (kl_isKey _),putG_same];rfl
  ·rw [atKey_put_other (hb b hbx e),putG_other _ _ e];exact h3 b hbx
theorem RepI.size {D:DataW Unit} {g:List Int -> Option Nat} (h:RepI D g) (hT:Tidy D) (hK:∀ es p,D = .map es -> p ∈ es -> p.1.sameKey p.1 = true):size D < maxLen:=by
 obtain ⟨es,rfl,hp⟩:=hT
 rw [size_eq]
 have hnd:(es.map Prod.fst).Nodup:=by
  unfold List.Nodup;rw [List.pairwise_map];exact hp
 have hle:=@nodup_le _ (fun a b => Classical.propDecidable (a = b)) _ (box.map klOf) hnd (fun kl hm => by
  obtain ⟨p,hp,rfl⟩:=List.mem_map.1 hm
  obtain ⟨a,ha,e⟩:=h.1 _ (has_mem hp (hK es p rfl hp))
  exact List.mem_map.2 ⟨a,ha,e.symm⟩)
 rw [List.length_map,List.length_map,box_len] at hle
 unfold maxLen;omega
def IF (w:World) (b:Nat) (g:List Int -> Option Nat):Prop:=∃ n D,IMap w b n D /\ RepI D g
theorem IF.lt {w:World} {b:Nat} {g:List Int -> Option Nat} (h:IF w b g):b < w.heap.size:=by obtain ⟨_,_,h,_⟩:=h;exact h.lt
theorem IF.block {w w':World} {b:Nat} {g:List Int -> Option Nat} (h:IF w b g) (e:w'.heap[b]? = w.heap[b]?):IF w' b g:=by
 obtain ⟨n,D,h,hr⟩:=h;exact ⟨n,D,own_block h e,hr⟩
theorem IF.tight {w:World} {b:Nat} {g:List Int -> Option Nat} (h:IF w b g):∃ n D,IMap w b n D /\ RepI D g /\ n < maxLen:=by
 obtain ⟨n,D,h,hr⟩:=h
 exact ⟨_,D,own_tight h,hr,hr.size (h.tidy (Keyed.of_law lawA)) (own_keys (Keyed.of_law lawA) h)⟩
def part (s:Nat) (f:List Int -> Int) (k a:List Int):Int:=if rst s a = k then f a else 0
structure Ixs (w:World) (b s:Nat) (f:List Int -> Int) (g:List Int -> Option Nat):Prop where
 o:IF w b g
 i:∀ k,k ∈ box -> ∀ c,g k = some c -> CF 93 6 w c (part s f k) /\ ∃ a,a ∈ box /\ rst s a = k /\ wr (f a) ≠ 0
 n:∀ k,k ∈ box -> g k = none -> ∀ a,a ∈ box -> rst s a = k -> wr (f a) = 0
theorem Ixs.block {w w':World} {b s:Nat} {f:List Int -> Int} {g:List Int -> Option Nat} (h:Ixs w b s f g) (eb:w'.heap[b]? = w.heap[b]?) (ei:∀ k,k ∈ box -> ∀ c,g k = some c -> w'.heap[c]? = w.heap[c]?):Ixs w' b s f g :=
 ⟨h.o.block eb,fun k hk c hc => ⟨(h.i k hk c hc).1.block (ei k hk c hc),(h.i k hk c hc).2⟩,h.n⟩
theorem part_bump (s:Nat) (f:List Int -> Int) (k a:List Int) (x:Int):part s (bump f a x) k = if rst s a = k then bump (part s f k) a x else part s f k:=by
 funext b
 by_cases e:b = a
 ·subst e
  by_cases hk:rst s b = k
  ·simp [part,bump,hk]
  ·simp [part,hk]
 ·by_cases hk:rst s a = k <;> simp [part,bump,e,hk]
theorem live_nil {N:Nat} {f:List Int -> Int}:(live N f).length = 0 ↔ ∀ a,a ∈ boxN N -> wr (f a) = 0:=by
 rw [List.length_eq_zero_iff,List.eq_nil_iff_forall_not_mem]
 constructor
 ·intro h a ha
  refine Classical.byContradiction fun hne => h a (mem_live.2 ⟨ha,hne⟩)
 ·intro h a ha
  exact (mem_live.1 ha).2 (h a (mem_live.1 ha).1)
theorem rst_mem {a:List Int} (h:a ∈ box) (s:Nat):rst s a ∈ box:=mem_box.2 ((mem_box.1 h).rst s)
structure Fr (M:Nat -> Prop) (w w':World):Prop where
 size:w.heap.size <= w'.heap.size
 os:w'.os = w.os
 tape:w'.tape = w.tape
 output:w'.output = w.output
 block:∀ i,i < w.heap.size -> ¬ M i -> w'.heap[i]? = w.heap[i]?
theorem Fr.refl (M:Nat -> Prop) (w:World):Fr M w w:=⟨Nat.le_refl _,rfl,rfl,rfl,fun _ _ _ => rfl⟩
theorem Fr.trans {M M':Nat -> Prop} {w w1 w2:World} (h:Fr M w w1) (h':Fr M' w1 w2) (hm:∀ i,i < w.heap.size -> M' i -> M i):Fr M w w2 :=
 ⟨Nat.le_trans h.size h'.size,h'.os.trans h.os,h'.tape.trans h.tape,h'.output.trans h.output,fun i hi hn => (h'.block i (by have:=h.size;omega) (fun hx => hn (hm i hi hx))).trans (h.block i hi hn)⟩
theorem Fr.mono {M M':Nat -> Prop} {w w1:World} (h:Fr M w w1) (hm:∀ i,i < w.heap.size -> M i -> M' i):Fr M' w w1 :=
 ⟨h.size,h.os,h.tape,h.output,fun i hi hn => h.block i hi (fun hx => hn (hm i hi hx))⟩
theorem Fr.of_grown {M:Nat -> Prop} {w w':World} {row:Option Nat} (h:w.grownBy w' row) (hm:∀ j,j < w.heap.size -> row = some j -> M j):Fr M w w' :=
 ⟨h.size,h.os,h.tape,h.output,fun i hi hn => h.block i hi (fun e => hn (hm i hi e.symm))⟩
theorem Fr.of_below {M:Nat -> Prop} {w w':World} (h:Below w.heap.size w w'):Fr M w w':=⟨h.size,h.os,h.tape,h.output,fun i hi _ => h.block i hi⟩
theorem Fr.alloc {M:Nat -> Prop} (w:World) (o:Obj):Fr M w (w.alloc o):=Fr.of_below ((Below.refl _ _).alloc (Nat.le_refl _) _)
theorem Fr.drew {M:Nat -> Prop} (w:World):Fr M w w.drew:=⟨Nat.le_refl _,rfl,rfl,rfl,fun _ _ _ => rfl⟩
theorem Fr.setCell {M:Nat -> Prop} {w:World} (p:Addr) (v:Value) (hp:p.block < w.heap.size -> M p.block):Fr M w (w.setCell p v) :=
 ⟨by simp,rfl,rfl,rfl,fun i hi hn => Below.heap_setCell _ _ _ _ (fun e => hn (by rw [e] at hi ⊢;exact hp hi))⟩
theorem cell_block {w:World} {p:Addr} {v:Value} (h:w.cell? p = some v):∃ c t z,w.heap[p.block]? = some (.cells c t z):=by
 unfold World.cell? at h
 split at h
 ·rename_i e;exact ⟨_,_,_,e⟩
 ·cases h
theorem cell_of_block {w w':World} {p:Addr} {v:Value} (h:w.cell? p = some v) (e:w'.heap[p.block]? = w.heap[p.block]?):w'.cell? p = some v:=(World.cell?_of_block e).trans h
def Mps (w:World) (M:Nat -> Prop):Prop:=∀ i,i < w.heap.size -> M i -> ∃ es c,w.heap[i]? = some (.map es c)
theorem Fr.cell {M:Nat -> Prop} {w w':World} (h:Fr M w w') (hm:Mps w M) {p:Addr} {v:Value} (hc:w.cell? p = some v):w'.cell? p = some v:=by
 have hlt:=World.block_lt_of_cell? _ _ hc
 refine cell_of_block hc (h.block _ hlt (fun hM => ?_))
 obtain ⟨es,c,e⟩:=hm _ hlt hM
 obtain ⟨c',t,z,e'⟩:=cell_block hc
 rw [e] at e';cases e'
theorem Fr.own {M:Nat -> Prop} {w w':World} (h:Fr M w w') (hm:Mps w M) {base:Nat} {e:TypeId} {size:Nat} {v:Value} {n:Nat} {xs:List Value} (ho:w.ownsRow base e size v n xs):w'.ownsRow base e size v n xs:=by
 refine ⟨ho.1,?_⟩
 rcases ho.2 with hn | ⟨g,cap,cur,rfl,h1,h2,rest⟩
 ·exact .inl hn
 ·refine .inr ⟨g,cap,cur,rfl,h1,(h.block g (vlt_of_block h2) (fun hM => ?_)).trans h2,rest⟩
  obtain ⟨es,c,e⟩:=hm _ (vlt_of_block h2) hM
  rw [e] at h2;cases h2
theorem cell_ne {w:World} {p:Addr} {v:Value} {b:Nat} {es:Array MapEntry} {c:Nat} (h:w.cell? p = some v) (hb:w.heap[b]? = some (.map es c)):p.block ≠ b:=by
 intro e
 obtain ⟨c',t,z,e'⟩:=cell_block h
 rw [e,hb] at e';cases e'
theorem onlyL_rst (s:Nat) (a:List Int):onlyL s a = rst s a:=by
 refine ext6 (onlyL_len _ _) (rst_len _ _) fun j hj => ?_
 rw [rst_at _ _ hj]
 have h:j < zeros6.length:=hj
 simp only [onlyL,mixL,List.getD_eq_getElem?_getD,List.getElem?_map,List.getElem?_range h,Option.map_some,Option.getD_some,hj,true_and]
 have h0:zeros6[j]?.getD 0 = 0:=by
  match j,hj with
  | 0,_ => rfl
  | 1,_ => rfl
  | 2,_ => rfl
  | 3,_ => rfl
  | 4,_ => rfl
  | 5,_ => rfl
 rw [h0]
theorem mixL_mix (s:Nat) (a o:List Int) (ha:a.length = 6):mixL s a o 6 = mix s a o:=by
 refine ext6 (by rw [mixL_len];exact ha) (mix_len _ _ _) fun j hj => ?_
 rw [mix_at _ _ _ hj]
 simp [mixL,List.getD,ha,hj]
theorem CF.fr {M:Nat -> Prop} {k N:Nat} {w w':World} {b:Nat} {f:List Int -> Int} (h:CF k N w b f) (hf:Fr M w w') (hb:¬ M b):CF k N w' b f:=h.block (hf.block b h.lt hb)
theorem upd1_any (ob wb vb OB VB:Nat) (O W:List Int -> Int) (a:List Int) (c:Int) (w:World) (c1:w.cell? ⟨OB,0,none⟩ = some (.map (some ob))) (c2:w.cell? ⟨VB,0,none⟩ = some (.pointer (some ⟨vb,0,none⟩)))
  (c3:w.cell? ⟨vb,10,none⟩ = some (.map (some wb))) (hO:CF 93 6 w ob O) (hW:CF 93 6 w wb W) (hne:ob ≠ wb) (ha:a ∈ box) :
  Calls Tryz.prog 49 #[.agg (i64s a).toArray,.int .i64 (wr c),.pointer (some ⟨OB,0,none⟩),.pointer (some ⟨VB,0,none⟩)] w fun e w' => e = .returned (.tuple #[]) /\ CF 93 6 w' ob (bump O a c) /\ CF 93 6 w' wb (bump W a c) /\ Fr (fun i => i = ob ∨ i = wb) w w':=by
 have l1:=World.block_lt_of_cell? _ _ c1
 have l2:=World.block_lt_of_cell? _ _ c2
 have l3:=World.block_lt_of_cell? _ _ c3
 have lo:=hO.lt
 have lw:=hW.lt
 obtain ⟨es1,k1,m1⟩:=hO.isMap
 have n1:=cell_ne c1 m1
 have n2:=cell_ne c2 m1
 have n3:=cell_ne c3 m1
 have ADD:=fun (b:Nat) (f:List Int -> Int) (u:World) (h:CF 93 6 u b f) => addA_cf b f a c u h ha
 obtain ⟨a0,a1,a2,a3,a4,a5,hae⟩:=six a (box_length ha)
 have hA:(i64s a).toArray = #[.int .i64 a0,.int .i64 a1,.int .i64 a2,.int .i64 a3,.int .i64 a4,.int .i64 a5]:=by rw [hae];rfl
 obtain ⟨C,hC⟩:∃ C,wr c = C:=⟨_,rfl⟩
 rw [hA] at ADD ⊢
 rw [hC] at ADD ⊢
 obtain ⟨W0,hW0⟩:∃ W0,w.alloc (.cells #[.int .i64 a0,.int .i64 a1,.int .i64 a2,.int .i64 a3,.int .i64 a4,.int .i64 a5] 93) = W0:=⟨_,rfl⟩
 have s0:W0.heap.size = w.heap.size + 1:=by rw [← hW0];simp
 have hO0:CF 93 6 W0 ob O:=hO.block (by rw [← hW0];exact Below.heap_alloc _ _ _ lo)
 have hW0':CF 93 6 W0 wb W:=hW.block (by rw [← hW0];exact Below.heap_alloc _ _ _ lw)
 have B0:W0.heap[w.heap.size]? = some (.cells #[.int .i64 a0,.int .i64 a1,.int .i64 a2,.int .i64 a3,.int .i64 a4,.int .i64 a5] 93 (0,0)):=by rw [← hW0];exact vheap_alloc_new _ _
 have F0:Fr (fun i => i = ob ∨ i = wb) w W0:=by rw [← hW0];exact Fr.alloc _ _
 have NEXT:∀ w1,CF 93 6 w1 ob (bump O a c) -> W0.grownBy w1 (some ob) -> CF 93 6 w1 wb W /\ (w1.cell? ⟨VB,0,none⟩ = some (.pointer (some ⟨vb,0,none⟩)) /\ w1.cell? ⟨vb,10,none⟩ = some (.map (some wb))) /\ (w1.cell? ⟨w.heap.size,0,none⟩ = some (.int .i64 a0) /\ w1.cell? ⟨w.heap.size,1,none⟩ = some (.int .i64 a1) /\ w1.cell? ⟨w.heap.size,2,none⟩ = some (.int .i64 a2) /\ w1.cell? ⟨w.heap.size,3,none⟩ = some (.int .i64 a3) /\ w1.cell? ⟨w.heap.size,4,none⟩ = some (.int .i64 a4) /\ w1.cell? ⟨w.heap.size,5,none⟩ = some (.int .i64 a5)) /\ Fr (fun i => i = ob ∨ i = wb) w w1 /\ w.heap.size < w1.heap.size:=by
  intro w1 _ hg
  have hF1:Fr (fun i => i = ob ∨ i = wb) w w1:=F0.trans (M':=fun i => i = ob) (Fr.of_grown hg (fun j _ e => (Option.some.inj e).symm)) (fun i _ e => Or.inl e)
  have hb1:w1.heap[w.heap.size]? = some (.cells #[.int .i64 a0,.int .i64 a1,.int .i64 a2,.int .i64 a3,.int .i64 a4,.int .i64 a5] 93 (0,0)):=(hg.block _ (by omega) (by simp;omega)).trans B0
  have keep:∀ i,i < w.heap.size -> i ≠ ob -> w1.heap[i]? = w.heap[i]?:=fun i hi hx => (hg.block i (by omega) (by simp [hx])).trans (by rw [← hW0];exact Below.heap_alloc _ _ _ hi)
  refine ⟨hW.block (keep wb lw (Ne.symm hne)),⟨cell_of_block c2 (keep _ l2 n2),cell_of_block c3 (keep _ l3 n3)⟩,⟨by simp [World.cell?,hb1],by simp [World.cell?,hb1],by simp [World.cell?,hb1],by simp [World.cell?,hb1],by simp [World.cell?,hb1],by simp [World.cell?,hb1]⟩,hF1,by have:=hg.size;omega⟩
 have LAST:∀ w1 w2:World,Fr (fun i => i = ob ∨ i = wb) w w1 -> CF 93 6 w1 ob (bump O a c) -> w1.drew.grownBy w2 (some wb) -> CF 93 6 w2 ob (bump O a c) /\ Fr (fun i => i = ob ∨ i = wb) w w2:=by
  intro w1 w2 hf hc hg
  exact ⟨hc.block (hg.block ob hc.lt (by simp [hne])),(hf.trans (Fr.drew (M:=fun _ => False) w1) (fun _ _ h => h.elim)).trans (M':=fun i => i = wb) (Fr.of_grown hg (fun j _ e => (Option.some.inj e).symm)) (fun i _ e => Or.inr e)⟩
 have HN:Hid _:=NEXT
 have HLst:Hid _:=LAST
 have HW0:Hid (w.alloc (.cells #[.int .i64 a0,.int .i64 a1,.int .i64 a2,.int .i64 a3,.int .i64 a4,.int .i64 a5] 93) = W0):=hW0
 clear NEXT LAST m1 B0 F0 hA hae hC hW0' hW0 s0
 go_enter Tryz.func49,Tryz.ntmps49
 go_wp2_with (go_at_call 50;refine (ADD ob O _ (by rw [HW0.out];exact hO0)).mono ?_;rintro e w1 ⟨rfl,hC1,hg1⟩;rw [HW0.out] at hg1;obtain ⟨hW1,⟨e2,e3⟩,⟨d0,d1,d2,d3,d4,d5⟩,hf1,hl1⟩:=HN.out w1 hC1 hg1)
 have HF1:Hid _:=hf1
 have hW1d:CF 93 6 w1.drew wb W:=hW1.block rfl
 clear hg1 hf1
 go_region_with (go_at_call 50;refine (ADD wb W _ hW1d).mono ?_;rintro e w2 ⟨rfl,hC2,hg2⟩)
 all_goals go_end0
 all_goals exact ⟨rfl,(HLst.out w1 w2 HF1.out hC1 hg2).1,hC2,(HLst.out w1 w2 HF1.out hC1 hg2).2⟩
end Go.Proofs.YtondkinefmjpjaaGreat
