import Derived.Test.YtondkinefmjpjaaGreatI27
namespace Go.Proofs.YtondkinefmjpjaaGreat
open Go.RowKit Go.WideMaps Go.WideElems Go.Maps
theorem join_some (ob wb vb OB VB HB VB2 H:Nat) (ms:List Nat) (lk:List (Nat × Nat)) (f:Nat -> List Int -> Int) (ib:List Nat) (g:Nat -> List Int -> Option Nat) (hH:H < 256) (hms:∀ m,m ∈ ms -> m < 256) (hT:∀ k x,wr (f k x) = f k x) (hlk:lk.length < 100) (hne:ob ≠ wb)
  (ho1:∀ k,k < lk.length -> ib.getD k 0 ≠ ob /\ ib.getD k 0 ≠ wb) (ho2:∀ k,k < lk.length -> ∀ x,x ∈ box -> ∀ d,g k x = some d -> d ≠ ob /\ d ≠ wb) (sg:Nat) (ws:List Nat) (hws:∀ l,l ∈ ws -> l < lk.length) (hlen:ws.length < 100)
  (O W:List Int -> Int) (so cap:Nat) (hcap:ws.length <= cap) (a:List Int) (c:Int) (w:World) (E:HEnv w ob wb vb OB VB HB VB2 H) (J:JEnv w vb ms lk f ib g) (hs:∀ j,j < ws.length -> w.cell? ⟨sg,so + j,none⟩ = some (.int .i64 (ws.getD j 0:Nat)))
  (hO:CF 93 6 w ob O) (hW:CF 93 6 w wb W) (ha:a ∈ box) :
  Calls Tryz.prog 76 #[.pointer (some ⟨vb,0,none⟩),.slice (some ⟨sg,so,none⟩) ws.length cap,.agg (i64s a).toArray,.int .i64 (wr c),.func (.func 77) #[] #[.pointer (some ⟨HB,0,none⟩),.pointer (some ⟨VB,0,none⟩)]] w (JP ob wb O W (jn H (ws.map (stpOf ms lk f)) a c) w):=by
 induction ws generalizing O W so cap a c w with
 | nil => exact join_nil ob wb vb OB VB HB VB2 H O W _ cap a c w E hH hO hW hne ha
 | cons l ws ih =>
  simp only [List.length_cons] at hcap hlen
  obtain ⟨so',hso'⟩:∃ so',(if cap = 1 then so else so + 1) = so':=⟨_,rfl⟩
  refine join_cons ob wb vb OB VB HB VB2 H ms lk f ib g l ws O W sg so so' cap ?_ ?_ a c w (fun u O' W' a' c' ha' E' J' hO' hW' hs' => ih (fun k hk => hws k (by simp [hk])) (by omega) O' W' so' (cap - 1) (by omega) a' c' u E' J' hs' hO' hW' ha') E J hms hT (hws l (by simp)) hcap (by omega) hlk hs hO hW hne ha ho1 ho2
  ·rw [← hso'];split <;> rfl
  ·intro hc;rw [← hso',if_neg hc]
theorem join_any (ob wb vb OB VB HB VB2 H:Nat) (ms:List Nat) (lk:List (Nat × Nat)) (f:Nat -> List Int -> Int) (ib:List Nat) (g:Nat -> List Int -> Option Nat) (hH:H < 256) (hms:∀ m,m ∈ ms -> m < 256) (hT:∀ k x,wr (f k x) = f k x) (hlk:lk.length < 100) (hne:ob ≠ wb)
  (ho1:∀ k,k < lk.length -> ib.getD k 0 ≠ ob /\ ib.getD k 0 ≠ wb) (ho2:∀ k,k < lk.length -> ∀ x,x ∈ box -> ∀ d,g k x = some d -> d ≠ ob /\ d ≠ wb) (ws:List Nat) (hws:∀ l,l ∈ ws -> l < lk.length) (hlen:ws.length < 100)
  (O W:List Int -> Int) (base:Nat) (sv:Value) (a:List Int) (c:Int) (w:World) (E:HEnv w ob wb vb OB VB HB VB2 H) (J:JEnv w vb ms lk f ib g) (hs:w.ownsRow base 3 1 sv ws.length (nats ws))
  (hO:CF 93 6 w ob O) (hW:CF 93 6 w wb W) (ha:a ∈ box) :
  Calls Tryz.prog 76 #[.pointer (some ⟨vb,0,none⟩),sv,.agg (i64s a).toArray,.int .i64 (wr c),.func (.func 77) #[] #[.pointer (some ⟨HB,0,none⟩),.pointer (some ⟨VB,0,none⟩)]] w (JP ob wb O W (jn H (ws.map (stpOf ms lk f)) a c) w):=by
 cases ws with
 | nil =>
  obtain ⟨sa,cap,rfl⟩:=vown_form hs
  exact join_nil ob wb vb OB VB HB VB2 H O W _ cap a c w E hH hO hW hne ha
 | cons l ws =>
  have hcell:=hs
  rcases hs.2 with ⟨_,h0⟩ | ⟨sg,cap,cur,rfl,_,_,hcap,_⟩
  ·simp at h0
  ·refine join_some ob wb vb OB VB HB VB2 H ms lk f ib g hH hms hT hlk hne ho1 ho2 sg (l :: ws) hws hlen O W 0 cap hcap a c w E J (fun j hj => ?_) hO hW ha
   rw [Nat.zero_add]
   exact nats_at hcell rfl j hj
structure IxA (w w':World) (b s:Nat) (f:List Int -> Int) (g:List Int -> Option Nat) (a:List Int) (x:Int) (g':List Int -> Option Nat):Prop where
 ix:Ixs w' b s (bump f a x) g'
 old:∀ k,k ∈ box -> ∀ c,g' k = some c -> g k = some c ∨ (k = rst s a /\ w.heap.size <= c)
 size:w.heap.size <= w'.heap.size
 os:w'.os = w.os
 tape:w'.tape = w.tape
 output:w'.output = w.output
 block:∀ i,i < w.heap.size -> i ≠ b -> g (rst s a) ≠ some i -> w'.heap[i]? = w.heap[i]?
 maps:∀ (i:Nat) (es:Array MapEntry) (c:Nat),w.heap[i]? = some (Obj.map es c) -> ∃ es' c',w'.heap[i]? = some (Obj.map es' c')
theorem indexAdd_any (b s : Nat) (f : List Int → Int) (g : List Int → Option Nat) (a : List Int) (x : Int) (w : World) (h : Ixs w b s f g) (ha : a ∈ box) (hb : ∀ k, k ∈ box → g k ≠ some b) (hinj : ∀ k k' c, k ∈ box → k' ∈ box → g k = some c → g k' = some c → k = k') :
    Calls Tryz.prog 112 #[.map (some b), .agg (i64s (rst s a)).toArray, .agg (i64s a).toArray, .int .i64 (wr x)] w fun e w' => e = .returned (.tuple #[]) ∧ ∃ g', IxA w w' b s f g a x g' := by
  have hk := rst_mem ha s
  obtain ⟨k, hke⟩ : ∃ k, rst s a = k := ⟨_, rfl⟩
  rw [hke] at hk ⊢
  obtain ⟨n, D, ho, hr, hn⟩ := h.o.tight
  cases hg : g k with
  | some c =>
    obtain ⟨hc, _⟩ := h.i k hk c hg
    have hne : c ≠ b := fun e => hb k hk (e ▸ hg)
    have hat : D.atKey (klOf k) .nil = refD c := by rw [hr.2.2 k hk, hg]; rfl
    obtain ⟨I, hI, hIr, _⟩ := hc.tight (Or.inl ⟨rfl, rfl⟩)
    have hfa : part s f k a = f a := by simp [part, hke]
    refine (indexAdd_old b n D c _ I k a (wr (part s f k a)) (wr x) (wr (part s f k a + x)) w ho hI hat hne (box_length hk) (box_wf hk) (box_length ha) (box_wf ha) (live_lt (Or.inl rfl) _) (hIr.2.2 a ha) (wr_add _ _)).mono ?_
    rintro e w' ⟨rfl, ho', hC', hkp⟩
    have hrep : Rep 6 (addD I (klOf a) (wr (part s f k a + x))) (bump (part s f k) a x) := hIr.add (Or.inl rfl) hI.isMap ha x
    have hCF : CF 93 6 w' c (bump (part s f k) a x) := ⟨_, _, hC', hrep⟩
    have hsz := hrep.size (Or.inl rfl) (hC'.tidy (Keyed.of_law lawA)) (own_keys (Keyed.of_law lawA) hC')
    have hpk : part s (bump f a x) k = bump (part s f k) a x := by rw [part_bump, if_pos hke]
    have hpo : ∀ k', k' ≠ k → part s (bump f a x) k' = part s f k' := fun k' hne' => by rw [part_bump, if_neg (fun e => hne' (e.symm.trans hke))]
    have hfo : ∀ k', k' ≠ k → ∀ a', rst s a' = k' → bump f a x a' = f a' := fun k' hne' a' ha' => by
      have : a' ≠ a := fun e => hne' (by rw [← ha', e, hke])
      simp [bump, this]
    have hblk : ∀ i, i < w.heap.size → i ≠ b → i ≠ c → w'.heap[i]? = w.heap[i]? := hkp.2.2.2.2
    have hmaps : ∀ (i : Nat) (es : Array MapEntry) (c2 : Nat), w.heap[i]? = some (Obj.map es c2) → ∃ es' c', w'.heap[i]? = some (Obj.map es' c') := by
      intro i es c2 hi
      by_cases e1 : i = b
      · subst e1; obtain ⟨es', c', h', _⟩ := ho'; exact ⟨es', c', h'⟩
      · by_cases e2 : i = c
        · subst e2; obtain ⟨es', c', h', _⟩ := hC'; exact ⟨es', c', h'⟩
        · exact ⟨es, c2, (hblk i (vlt_of_block hi) e1 e2).trans hi⟩
    have hother : ∀ k', k' ∈ box → k' ≠ k → ∀ c', g k' = some c' → w'.heap[c']? = w.heap[c']? := fun k' hk' hne' c' hc' =>
      hblk c' (h.i k' hk' c' hc').1.lt (fun e => hb k' hk' (e ▸ hc')) (fun e => hne' (hinj k' k c hk' hk (e ▸ hc') hg))
    by_cases hz : size (addD I (klOf a) (wr (part s f k a + x))) = 0
    · rw [if_pos hz] at ho'
      refine ⟨rfl, putG g k none, ⟨⟨_, _, ho', hr.del hk⟩, fun k' hk' c' hc' => ?_, fun k' hk' hn' a' ha' hra => ?_⟩, fun k' hk' c' hc' => ?_, hkp.2.2.2.1, hkp.1, hkp.2.1, hkp.2.2.1, fun i hi hib hgi => hblk i hi hib (fun e => hgi (by rw [hke, e]; exact hg)), hmaps⟩
      · have hne' : k' ≠ k := fun e => by rw [e, putG_same] at hc'; cases hc'
        rw [putG_other _ _ hne'] at hc'
        obtain ⟨q1, a', q2, q3, q4⟩ := h.i k' hk' c' hc'
        exact ⟨by rw [hpo k' hne']; exact q1.block (hother k' hk' hne' c' hc'), a', q2, q3, by rw [hfo k' hne' a' q3]; exact q4⟩
      · by_cases e : k' = k
        · subst e
          have := live_nil.1 (hsz.symm.trans hz) a' ha'
          rw [← hpk] at this
          simpa [part, hra] using this
        · rw [putG_other _ _ e] at hn'
          rw [hfo k' e a' hra]
          exact h.n k' hk' hn' a' ha' hra
      · by_cases e : k' = k
        · rw [e, putG_same] at hc'; cases hc'
        · rw [putG_other _ _ e] at hc'; exact Or.inl hc'
    · rw [if_neg hz] at ho'
      refine ⟨rfl, g, ⟨⟨_, _, ho', hr⟩, fun k' hk' c' hc' => ?_, fun k' hk' hn' a' ha' hra => ?_⟩, fun k' hk' c' hc' => Or.inl hc', hkp.2.2.2.1, hkp.1, hkp.2.1, hkp.2.2.1, fun i hi hib hgi => hblk i hi hib (fun e => hgi (by rw [hke, e]; exact hg)), hmaps⟩
      · by_cases e : k' = k
        · subst e
          rw [hg] at hc'
          obtain rfl : c = c' := by simpa using hc'
          refine ⟨by rw [hpk]; exact hCF, ?_⟩
          refine Classical.byContradiction fun hno => hz (hsz.trans (live_nil.2 fun a' ha' => ?_))
          rw [← hpk]
          by_cases hra : rst s a' = k'
          · refine Classical.byContradiction fun hx => hno ⟨a', ha', hra, ?_⟩
            simpa [part, hra] using hx
          · simp [part, hra, wr_zero]
        · obtain ⟨q1, a', q2, q3, q4⟩ := h.i k' hk' c' hc'
          exact ⟨by rw [hpo k' e]; exact q1.block (hother k' hk' e c' hc'), a', q2, q3, by rw [hfo k' e a' q3]; exact q4⟩
      · have e : k' ≠ k := fun e => by rw [e, hg] at hn'; cases hn'
        rw [hfo k' e a' hra]
        exact h.n k' hk' hn' a' ha' hra
  | none =>
    have hat : D.atKey (klOf k) .nil = .nil := by rw [hr.2.2 k hk, hg]; rfl
    have hfa : wr (f a) = 0 := h.n k hk hg a ha hke
    refine (indexAdd_new b n D k a (wr x) (wr (0 + x)) w ho hat hn (box_length hk) (box_wf hk) (box_length ha) (box_wf ha) (wr_add_r _ _)).mono ?_
    rintro e w' ⟨rfl, ho', hC', hgw⟩
    have hrep : Rep 6 (addD (.map []) (klOf a) (wr (0 + x))) (bump (fun _ => 0) a x) := (rep_empty 6).add (Or.inl rfl) isMap_empty ha x
    have hCF : CF 93 6 w' (w.heap.size + 2) (bump (fun _ => 0) a x) := ⟨_, _, hC', hrep⟩
    have hsz := hrep.size (Or.inl rfl) (hC'.tidy (Keyed.of_law lawA)) (own_keys (Keyed.of_law lawA) hC')
    have hpk : ∀ a', a' ∈ box → wr (bump (fun _ => 0) a x a') = wr (part s (bump f a x) k a') := by
      intro a' ha'
      rw [part_bump, if_pos hke]
      by_cases e : a' = a
      · subst e
        simp only [bump, if_true, part, hke]
        rw [← wr_add_l (f a') x, hfa]
      · simp only [bump, e, if_false]
        by_cases hra : rst s a' = k
        · simp only [part, hra, if_true, Int.add_zero]; rw [h.n k hk hg a' ha' hra]; rfl
        · simp [part, hra]
    have hpo : ∀ k', k' ≠ k → part s (bump f a x) k' = part s f k' := fun k' hne' => by rw [part_bump, if_neg (fun e => hne' (e.symm.trans hke))]
    have hfo : ∀ k', k' ≠ k → ∀ a', rst s a' = k' → bump f a x a' = f a' := fun k' hne' a' ha' => by
      have : a' ≠ a := fun e => hne' (by rw [← ha', e, hke])
      simp [bump, this]
    have hblk : ∀ i, i < w.heap.size → i ≠ b → w'.heap[i]? = w.heap[i]? := fun i hi hib => hgw.block i hi (by simp [hib])
    have hmaps : ∀ (i : Nat) (es : Array MapEntry) (c2 : Nat), w.heap[i]? = some (Obj.map es c2) → ∃ es' c', w'.heap[i]? = some (Obj.map es' c') := by
      intro i es c2 hi
      by_cases e1 : i = b
      · subst e1; obtain ⟨es', c', h', _⟩ := ho'; exact ⟨es', c', h'⟩
      · exact ⟨es, c2, (hblk i (vlt_of_block hi) e1).trans hi⟩
    have hother : ∀ k', k' ∈ box → ∀ c', g k' = some c' → w'.heap[c']? = w.heap[c']? := fun k' hk' c' hc' =>
      hblk c' (h.i k' hk' c' hc').1.lt (fun e => hb k' hk' (e ▸ hc'))
    have hzero : ∀ a', a' ∈ box → rst s a' = k → wr (bump f a x a') = wr (part s (bump f a x) k a') := fun a' _ hra => by simp [part, hra]
    by_cases hz : size (addD (.map [] : DataW Unit) (klOf a) (wr (0 + x))) = 0
    · rw [if_pos hz] at ho'
      refine ⟨rfl, putG (putG g k (some (w.heap.size + 2))) k none, ⟨⟨_, _, ho', (hr.put ho.isMap hk _).del hk⟩, fun k' hk' c' hc' => ?_, fun k' hk' hn' a' ha' hra => ?_⟩, fun k' hk' c' hc' => ?_, hgw.size, hgw.os, hgw.tape, hgw.output, fun i hi hib _ => hblk i hi hib, hmaps⟩
      · have hne' : k' ≠ k := fun e => by rw [e, putG_same] at hc'; cases hc'
        rw [putG_other _ _ hne', putG_other _ _ hne'] at hc'
        obtain ⟨q1, a', q2, q3, q4⟩ := h.i k' hk' c' hc'
        exact ⟨by rw [hpo k' hne']; exact q1.block (hother k' hk' c' hc'), a', q2, q3, by rw [hfo k' hne' a' q3]; exact q4⟩
      · by_cases e : k' = k
        · subst e
          rw [hzero a' ha' hra, ← hpk a' ha']
          exact live_nil.1 (hsz.symm.trans hz) a' ha'
        · rw [putG_other _ _ e, putG_other _ _ e] at hn'
          rw [hfo k' e a' hra]
          exact h.n k' hk' hn' a' ha' hra
      · by_cases e : k' = k
        · rw [e, putG_same] at hc'; cases hc'
        · rw [putG_other _ _ e, putG_other _ _ e] at hc'; exact Or.inl hc'
    · rw [if_neg hz] at ho'
      refine ⟨rfl, putG g k (some (w.heap.size + 2)), ⟨⟨_, _, ho', hr.put ho.isMap hk _⟩, fun k' hk' c' hc' => ?_, fun k' hk' hn' a' ha' hra => ?_⟩, fun k' hk' c' hc' => ?_, hgw.size, hgw.os, hgw.tape, hgw.output, fun i hi hib _ => hblk i hi hib, hmaps⟩
      · by_cases e : k' = k
        · subst e
          rw [putG_same] at hc'
          obtain rfl : w.heap.size + 2 = c' := by simpa using hc'
          refine ⟨hCF.congr hpk, ?_⟩
          refine Classical.byContradiction fun hno => hz (hsz.trans (live_nil.2 fun a' ha' => ?_))
          rw [hpk a' ha']
          by_cases hra : rst s a' = k'
          · refine Classical.byContradiction fun hx => hno ⟨a', ha', hra, ?_⟩
            simpa [part, hra] using hx
          · simp [part, hra, wr_zero]
        · rw [putG_other _ _ e] at hc'
          obtain ⟨q1, a', q2, q3, q4⟩ := h.i k' hk' c' hc'
          exact ⟨by rw [hpo k' e]; exact q1.block (hother k' hk' c' hc'), a', q2, q3, by rw [hfo k' e a' q3]; exact q4⟩
      · have e : k' ≠ k := fun e => by rw [e, putG_same] at hn'; cases hn'
        rw [putG_other _ _ e] at hn'
        rw [hfo k' e a' hra]
        exact h.n k' hk' hn' a' ha' hra
      · by_cases e : k' = k
        · rw [e, putG_same] at hc'
          exact Or.inr ⟨by rw [e, hke], by have : w.heap.size + 2 = c' := by simpa using hc'
                                           omega⟩
        · rw [putG_other _ _ e] at hc'; exact Or.inl hc'
structure Own (w:World) (ib:List Nat) (n:Nat) (g:Nat -> List Int -> Option Nat) (own:Nat -> Option (Nat × List Int)):Prop where
 o:∀ l,l < n -> own (ib.getD l 0) = some (2,[(l:Int)])
 i:∀ l,l < n -> ∀ k,k ∈ box -> ∀ c,g l k = some c -> own c = some (3,(l:Int) :: k)
 m:∀ (i:Nat) r,own i = some r -> ∃ es c,w.heap[i]? = some (Obj.map es c)
def putL (g:Nat -> List Int -> Option Nat) (l:Nat) (g':List Int -> Option Nat):Nat -> List Int -> Option Nat:=fun m => if m = l then g' else g m
def putO (own:Nat -> Option (Nat × List Int)) (c:Option Nat) (r:Nat × List Int):Nat -> Option (Nat × List Int):=fun i => if c = some i then some r else own i
def IxB (own:Nat -> Option (Nat × List Int)) (i:Nat):Prop:=∃ r,own i = some r /\ (r.1 = 2 ∨ r.1 = 3)
def IxAll (w:World) (ms:List Nat) (lk:List (Nat × Nat)) (ib:List Nat) (cf:Nat -> List Int -> Int) (g:Nat -> List Int -> Option Nat):Prop :=
 ∀ l,l < lk.length -> Ixs w (ib.getD l 0) (ms.getD (lk.getD l (0,0)).2 0 &&& ms.getD (lk.getD l (0,0)).1 0) (cf l) (g l)
structure OwnUp (w w':World) (own own':Nat -> Option (Nat × List Int)):Prop where
 fr:Fr (IxB own) w w'
 old:∀ i,i < w.heap.size -> own' i = own i
 new:∀ i r,w.heap.size <= i -> own' i = some r -> own i = some r ∨ r.1 = 3
 maps:∀ (i:Nat) (es:Array MapEntry) (c:Nat),w.heap[i]? = some (Obj.map es c) -> ∃ es' c',w'.heap[i]? = some (Obj.map es' c')
theorem own_ne_l {w:World} {ib:List Nat} {n:Nat} {g:Nat -> List Int -> Option Nat} {own:Nat -> Option (Nat × List Int)} (h:Own w ib n g own) {l m:Nat} (hl:l < n) (hm:m < n) (hne:l ≠ m):ib.getD l 0 ≠ ib.getD m 0:=by
 intro e
 have h1:=h.o l hl
 rw [e,h.o m hm] at h1
 simp at h1;omega
theorem own_ne_i {w:World} {ib:List Nat} {n:Nat} {g:Nat -> List Int -> Option Nat} {own:Nat -> Option (Nat × List Int)} (h:Own w ib n g own) {l m:Nat} (hl:l < n) (hm:m < n) {k:List Int} (hk:k ∈ box) {c:Nat} (hc:g l k = some c):c ≠ ib.getD m 0:=by
 intro e
 have h1:=h.i l hl k hk c hc
 rw [e,h.o m hm] at h1
 simp at h1
theorem own_ne_ii {w:World} {ib:List Nat} {n:Nat} {g:Nat -> List Int -> Option Nat} {own:Nat -> Option (Nat × List Int)} (h:Own w ib n g own) {l m:Nat} (hl:l < n) (hm:m < n) {k k':List Int} (hk:k ∈ box) (hk':k' ∈ box) {c:Nat} (hc:g l k = some c) (hc':g m k' = some c):l = m /\ k = k':=by
 have h1:=h.i l hl k hk c hc
 rw [h.i m hm k' hk' c hc'] at h1
 simp at h1
 exact ⟨by omega,h1.2.symm⟩
theorem ixall_step {w w':World} {ms:List Nat} {lk:List (Nat × Nat)} {ib:List Nat} {cf:Nat -> List Int -> Int} {g:Nat -> List Int -> Option Nat} {own:Nat -> Option (Nat × List Int)} (hA:IxAll w ms lk ib cf g) (hW:Own w ib lk.length g own) {l:Nat} (hl:l < lk.length) {a:List Int} (ha:a ∈ box) {x:Int} {g':List Int -> Option Nat} {s:Nat} (hs:ms.getD (lk.getD l (0,0)).2 0 &&& ms.getD (lk.getD l (0,0)).1 0 = s)
  (h:IxA w w' (ib.getD l 0) s (cf l) (g l) a x g'):IxAll w' ms lk ib (fun m => if m = l then bump (cf l) a x else cf m) (putL g l g') /\ Own w' ib lk.length (putL g l g') (putO own (g' (rst s a)) (3,(l:Int) :: rst s a)) /\ OwnUp w w' own (putO own (g' (rst s a)) (3,(l:Int) :: rst s a)):=by
 have hk:=rst_mem ha s
 have hne:∀ m,m < lk.length -> m ≠ l -> w'.heap[ib.getD m 0]? = w.heap[ib.getD m 0]?:=fun m hm hml => h.block _ (hA m hm).o.lt (own_ne_l hW hm hl hml) (fun e => own_ne_i hW hl hm hk e rfl)
 have hni:∀ m,m < lk.length -> m ≠ l -> ∀ k,k ∈ box -> ∀ c,g m k = some c -> w'.heap[c]? = w.heap[c]?:=fun m hm hml k hk' c hc => h.block _ ((hA m hm).i k hk' c hc).1.lt (own_ne_i hW hm hl hk' hc) (fun e => hml (own_ne_ii hW hm hl hk' hk hc e).1)
 have hold:∀ i,i < w.heap.size -> putO own (g' (rst s a)) (3,(l:Int) :: rst s a) i = own i:=by
  intro i hi
  unfold putO
  split
  ·rename_i e
   rcases h.old _ hk i e with e' | ⟨_,e'⟩
   ·exact (hW.i l hl _ hk i e').symm
   ·omega
  ·rfl
 have hlt:∀ i r,own i = some r -> i < w.heap.size:=fun i r hr => by obtain ⟨es,c,e⟩:=hW.m i r hr;exact vlt_of_block e
 refine ⟨fun m hm => ?_,⟨fun m hm => ?_,fun m hm k hk' c hc => ?_,fun i r hr => ?_⟩,⟨⟨h.size,h.os,h.tape,h.output,fun i hi hn => ?_⟩,hold,fun i r hi hr => ?_,h.maps⟩⟩
 ·by_cases e:m = l
  ·subst e
   simp only [if_true,putL]
   rw [hs]
   exact h.ix
  ·simp only [if_neg e,putL]
   exact (hA m hm).block (hne m hm e) (hni m hm e)
 ·rw [hold _ (hA m hm).o.lt];exact hW.o m hm
 ·by_cases e:m = l
  ·subst e
   simp only [putL,if_true] at hc
   rcases h.old k hk' c hc with e' | ⟨e',_⟩
   ·rw [hold c ((hA m hm).i k hk' c e').1.lt];exact hW.i m hm k hk' c e'
   ·subst e';simp [putO,hc]
  ·simp only [putL,if_neg e] at hc
   rw [hold c ((hA m hm).i k hk' c hc).1.lt];exact hW.i m hm k hk' c hc
 ·unfold putO at hr
  split at hr
  ·rename_i e
   exact (h.ix.i _ hk i e).1.isMap
  ·obtain ⟨es,c,e⟩:=hW.m i r hr
   exact h.maps i es c e
 ·exact h.block i hi (fun e => hn ⟨_,by rw [e];exact hW.o l hl,Or.inl rfl⟩) (fun e => hn ⟨_,hW.i l hl _ hk i e,Or.inr rfl⟩)
 ·unfold putO at hr
  split at hr
  ·have:(3,(l:Int) :: rst s a) = r:=by simpa using hr
   exact Or.inr (by rw [← this])
  ·exact Or.inl hr
end Go.Proofs.YtondkinefmjpjaaGreat
