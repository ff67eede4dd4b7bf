set_option maxRecDepth 100000
namespace Go.Proofs.YtondkinefmjpjaaGreat
def Sg {α:Type} (l:List α) (f:α -> Int):Int:=l.foldr (fun x s => f x + s) 0
theorem S_nil {α:Type} (f:α -> Int):Sg [] f = 0:=rfl
theorem S_cons {α:Type} (x:α) (l:List α) (f:α -> Int):Sg (x :: l) f = f x + Sg l f:=rfl
theorem S_congr {α:Type} {l:List α} {f g:α -> Int} (h:∀ x,x ∈ l -> f x = g x):Sg l f = Sg l g:=by
 induction l with
 | nil => rfl
 | cons x l ih => rw [S_cons,S_cons,h x (by simp),ih (fun y hy => h y (by simp [hy]))]
theorem S_add {α:Type} (l:List α) (f g:α -> Int):Sg l (fun x => f x + g x) = Sg l f + Sg l g:=by
 induction l with
 | nil => rfl
 | cons x l ih => rw [S_cons,S_cons,S_cons,ih];omega
theorem S_sub {α:Type} (l:List α) (f g:α -> Int):Sg l (fun x => f x - g x) = Sg l f - Sg l g:=by
 induction l with
 | nil => rfl
 | cons x l ih => rw [S_cons,S_cons,S_cons,ih];omega
theorem S_mul {α:Type} (l:List α) (c:Int) (f:α -> Int):Sg l (fun x => c * f x) = c * Sg l f:=by
 induction l with
 | nil => simp [S_nil]
 | cons x l ih => rw [S_cons,S_cons,ih,Int.mul_add]
theorem S_zero {α:Type} {l:List α} {f:α -> Int} (h:∀ x,x ∈ l -> f x = 0):Sg l f = 0:=by
 induction l with
 | nil => rfl
 | cons x l ih => rw [S_cons,h x (by simp),ih (fun y hy => h y (by simp [hy]))];rfl
theorem S_swap {α β:Type} (l:List α) (m:List β) (f:α -> β -> Int):Sg l (fun x => Sg m (fun y => f x y)) = Sg m (fun y => Sg l (fun x => f x y)):=by
 induction l with
 | nil => rw [S_nil];exact (S_zero (fun y _ => rfl)).symm
 | cons x l ih =>
  rw [S_cons,ih,← S_add]
  exact S_congr (fun y _ => by rw [S_cons])
theorem S_one {α:Type} [DecidableEq α] {l:List α} {f:α -> Int} {x:α} (hn:l.Nodup) (hx:x ∈ l) (h:∀ y,y ∈ l -> y ≠ x -> f y = 0):Sg l f = f x:=by
 induction l with
 | nil => simp at hx
 | cons a l ih =>
  rw [List.nodup_cons] at hn
  rw [S_cons]
  by_cases e:a = x
  ·subst e
   rw [S_zero (fun y hy => h y (by simp [hy]) (fun e => hn.1 (e ▸ hy)))];omega
  ·rw [h a (by simp) e,ih hn.2 (by rcases List.mem_cons.1 hx with e' | h';exact absurd e'.symm e;exact h') (fun y hy => h y (by simp [hy]))];omega
theorem S_perm {α:Type} {l m:List α} (h:l.Perm m) (f:α -> Int):Sg l f = Sg m f:=by
 induction h with
 | nil => rfl
 | cons x _ ih => rw [S_cons,S_cons,ih]
 | swap x y l => simp only [S_cons];omega
 | trans _ _ h1 h2 => rw [h1,h2]
theorem S_append {α:Type} (l m:List α) (f:α -> Int):Sg (l ++ m) f = Sg l f + Sg m f:=by
 induction l with
 | nil => simp [S_nil]
 | cons x l ih => rw [List.cons_append,S_cons,S_cons,ih];omega
theorem S_map {α β:Type} (l:List α) (g:α -> β) (f:β -> Int):Sg (l.map g) f = Sg l (fun x => f (g x)):=by
 induction l with
 | nil => rfl
 | cons x l ih => rw [List.map_cons,S_cons,S_cons,ih]
theorem S_filter {α:Type} (l:List α) (p:α -> Bool) (f:α -> Int):Sg (l.filter p) f = Sg l (fun x => if p x = true then f x else 0):=by
 induction l with
 | nil => rfl
 | cons x l ih =>
  rw [S_cons,List.filter_cons]
  split
  ·rw [S_cons,ih]
  ·rw [ih];omega
theorem S_ne {α:Type} {l:List α} {f:α -> Int} (h:Sg l f ≠ 0):∃ x,x ∈ l /\ f x ≠ 0:=by
 induction l with
 | nil => exact absurd rfl h
 | cons x l ih =>
  by_cases e:f x = 0
  ·obtain ⟨y,hy,hf⟩:=ih (fun e' => h (by rw [S_cons,e,e'];rfl))
   exact ⟨y,by simp [hy],hf⟩
  ·exact ⟨x,by simp,e⟩
theorem nodup_le {α:Type} [DecidableEq α] {l m:List α} (hn:l.Nodup) (h:∀ x,x ∈ l -> x ∈ m):l.length <= m.length:=by
 induction l generalizing m with
 | nil => simp
 | cons a l ih =>
  rw [List.nodup_cons] at hn
  have ha:a ∈ m:=h a (by simp)
  have:=ih (m:=m.erase a) hn.2 (fun x hx => (List.mem_erase_of_ne (fun e:x = a => hn.1 (e ▸ hx))).2 (h x (by simp [hx])))
  rw [List.length_erase_of_mem ha] at this
  have:0 < m.length:=List.length_pos_of_mem ha
  simp only [List.length_cons];omega
def rst (s:Nat) (a:List Int):List Int:=(List.range 6).map fun j => if s.testBit j = true then a.getD j 0 else 0
def mix (s:Nat) (a o:List Int):List Int:=(List.range 6).map fun j => if s.testBit j = true then o.getD j 0 else a.getD j 0
theorem rst_len (s:Nat) (a:List Int):(rst s a).length = 6:=by simp [rst]
theorem mix_len (s:Nat) (a o:List Int):(mix s a o).length = 6:=by simp [mix]
theorem rst_at (s:Nat) (a:List Int) {j:Nat} (h:j < 6):(rst s a).getD j 0 = if s.testBit j = true then a.getD j 0 else 0:=by
 simp [rst,List.getD,h]
theorem mix_at (s:Nat) (a o:List Int) {j:Nat} (h:j < 6):(mix s a o).getD j 0 = if s.testBit j = true then o.getD j 0 else a.getD j 0:=by
 simp [mix,List.getD,h]
theorem ext6 {a b:List Int} (ha:a.length = 6) (hb:b.length = 6) (h:∀ j,j < 6 -> a.getD j 0 = b.getD j 0):a = b:=by
 apply List.ext_getElem (by omega)
 intro j h1 h2
 have:=h j (by omega)
 simpa [List.getD,h1,h2] using this
theorem at_of_eq {a b:List Int} (h:a = b) (j:Nat):a.getD j 0 = b.getD j 0:=by rw [h]
def Bx (a:List Int):Prop:=a.length = 6 /\ ∀ j,j < 6 -> 0 <= a.getD j 0 /\ a.getD j 0 <= 999
theorem Bx.rst {a:List Int} (h:Bx a) (s:Nat):Bx (rst s a):=by
 refine ⟨rst_len s a,fun j hj => ?_⟩
 rw [rst_at s a hj]
 have:=h.2 j hj
 split <;> omega
theorem Bx.mix {a o:List Int} (h:Bx a) (h':Bx o) (s:Nat):Bx (mix s a o):=by
 refine ⟨mix_len s a o,fun j hj => ?_⟩
 rw [mix_at s a o hj]
 have:=h.2 j hj
 have:=h'.2 j hj
 split <;> omega
def boxN:Nat -> List (List Int)
 | 0 => [[]]
 | n + 1 => (List.range 1000).flatMap fun (v:Nat) => (boxN n).map fun l => (v:Int) :: l
theorem mem_boxN {n:Nat} {a:List Int}:a ∈ boxN n ↔ a.length = n /\ ∀ x,x ∈ a -> 0 <= x /\ x <= 999:=by
 induction n generalizing a with
 | zero => simp [boxN];intro h;subst h;simp
 | succ n ih =>
  rw [boxN,List.mem_flatMap]
  constructor
  ·rintro ⟨v,hv,h⟩
   rw [List.mem_map] at h
   obtain ⟨l,hl,rfl⟩:=h
   rw [ih] at hl
   refine ⟨by simp [hl.1],fun x hx => ?_⟩
   rcases List.mem_cons.1 hx with rfl | hx
   ·have:=List.mem_range.1 hv;omega
   ·exact hl.2 x hx
  ·rintro ⟨h1,h2⟩
   match a,h1 with
   | x :: l,h1 =>
    have hx:=h2 x (by simp)
    refine ⟨x.toNat,List.mem_range.2 (by omega),List.mem_map.2 ⟨l,ih.2 ⟨by simpa using h1,fun y hy => h2 y (by simp [hy])⟩,?_⟩⟩
    rw [Int.toNat_of_nonneg hx.1]
theorem boxN_nodup (n:Nat):(boxN n).Nodup:=by
 induction n with
 | zero => simp [boxN]
 | succ n ih =>
  rw [boxN]
  unfold List.Nodup at ih ⊢
  rw [List.pairwise_flatMap]
  refine ⟨fun v _ => ?_,?_⟩
  ·rw [List.pairwise_map]
   exact ih.imp (fun h e => h (by simpa using e))
  ·have h0:(List.range 1000).Nodup:=List.nodup_range
   unfold List.Nodup at h0
   refine List.Pairwise.imp (R:=fun a b:Nat => a ≠ b) ?_ h0
   intro a b h x hx y hy e
   rw [List.mem_map] at hx hy
   obtain ⟨l,_,rfl⟩:=hx
   obtain ⟨m,_,rfl⟩:=hy
   simp at e
   exact h (by omega)
theorem boxN_len (n:Nat):(boxN n).length = 1000 ^ n:=by
 induction n with
 | zero => simp [boxN]
 | succ n ih =>
  have h:∀ L:List Nat,(L.flatMap fun (v:Nat) => (boxN n).map fun l => (v:Int) :: l).length = L.length * 1000 ^ n:=by
   intro L
   induction L with
   | nil => simp
   | cons x L ihL => rw [List.flatMap_cons,List.length_append,ihL,List.length_map,ih,List.length_cons,Nat.succ_mul];omega
  rw [boxN,h,List.length_range,Nat.pow_succ,Nat.mul_comm]
def box:List (List Int):=boxN 6
theorem mem_box {a:List Int}:a ∈ box ↔ Bx a:=by
 unfold box Bx
 rw [mem_boxN]
 refine and_congr_right fun h => ⟨fun hx j hj => hx _ ?_,fun hx x hm => ?_⟩
 ·rw [List.getD_eq_getElem?_getD,List.getElem?_eq_getElem (by omega)];exact List.getElem_mem _
 ·obtain ⟨j,hj,rfl⟩:=List.mem_iff_getElem.1 hm
  have:=hx j (by omega)
  simpa [List.getD,hj] using this
theorem box_nodup:box.Nodup:=boxN_nodup 6
theorem box_len:box.length = 1000000000000000000:=by unfold box;rw [boxN_len]
def ext (U V:Nat) (x:List Int) (G:List Int -> Int):Int:=Sg box fun y => if rst U y = y /\ rst V y = x then G y else 0
theorem ext_congr {U V:Nat} {x:List Int} {G G':List Int -> Int} (h:∀ y,Bx y -> rst U y = y -> rst V y = x -> G y = G' y):ext U V x G = ext U V x G':=by
 refine S_congr fun y hy => ?_
 split
 ·rename_i c;exact h y (mem_box.1 hy) c.1 c.2
 ·rfl
theorem ext_mul (U V:Nat) (x:List Int) (c:Int) (G:List Int -> Int):ext U V x (fun y => c * G y) = c * ext U V x G:=by
 unfold ext;rw [← S_mul];refine S_congr fun y _ => ?_
 split <;> simp
theorem ext_end {U V:Nat} {x:List Int} (G:List Int -> Int) (hV:∀ j,j < 6 -> V.testBit j = U.testBit j) (hx:Bx x) (hxU:rst U x = x):ext U V x G = G x:=by
 have hVU:∀ y,rst V y = rst U y:=fun y => ext6 (rst_len _ _) (rst_len _ _) fun j hj => by rw [rst_at _ _ hj,rst_at _ _ hj,hV j hj]
 unfold ext
 rw [S_one (x:=x) box_nodup (mem_box.2 hx)]
 ·rw [if_pos ⟨hxU,by rw [hVU,hxU]⟩]
 ·intro y _ hne
  rw [if_neg]
  rintro ⟨h1,h2⟩
  rw [hVU,h1] at h2
  exact hne h2
theorem cond_step {V m s fr V':Nat} {x a y:List Int} (hs:∀ j,j < 6 -> s.testBit j = (m.testBit j && V.testBit j)) (hfr:∀ j,j < 6 -> fr.testBit j = (m.testBit j && !V.testBit j)) (hV':∀ j,j < 6 -> V'.testBit j = (V.testBit j || m.testBit j))
  (hx:rst V x = x) (ha:rst m a = a) (hsa:rst s a = rst s x):(rst V y = x /\ rst m y = a) ↔ rst V' y = mix fr x a:=by
 have lx:x.length = 6:=by rw [← hx];exact rst_len _ _
 have la:a.length = 6:=by rw [← ha];exact rst_len _ _
 have X:∀ j,j < 6 -> x.getD j 0 = if V.testBit j = true then x.getD j 0 else 0:=fun j hj => (at_of_eq hx j).symm.trans (rst_at _ _ hj)
 have A:∀ j,j < 6 -> a.getD j 0 = if m.testBit j = true then a.getD j 0 else 0:=fun j hj => (at_of_eq ha j).symm.trans (rst_at _ _ hj)
 have SA:∀ j,j < 6 -> m.testBit j = true -> V.testBit j = true -> a.getD j 0 = x.getD j 0:=by
  intro j hj h1 h2
  have:=at_of_eq hsa j
  rw [rst_at _ _ hj,rst_at _ _ hj,if_pos (by rw [hs j hj,h1,h2];rfl),if_pos (by rw [hs j hj,h1,h2];rfl)] at this
  exact this
 constructor
 ·rintro ⟨h1,h2⟩
  refine ext6 (rst_len _ _) (mix_len _ _ _) fun j hj => ?_
  have e1:=(rst_at V y hj).symm.trans (at_of_eq h1 j)
  have e2:=(rst_at m y hj).symm.trans (at_of_eq h2 j)
  have e3:=X j hj
  rw [rst_at _ _ hj,mix_at _ _ _ hj,hV' j hj,hfr j hj]
  cases h3:V.testBit j <;> cases h4:m.testBit j <;> simp [h3,h4] at e1 e2 e3 ⊢ <;> omega
 ·intro h
  have e0:∀ j,j < 6 -> (if V'.testBit j = true then y.getD j 0 else 0) = if fr.testBit j = true then a.getD j 0 else x.getD j 0:=fun j hj => (rst_at V' y hj).symm.trans ((at_of_eq h j).trans (mix_at _ _ _ hj))
  constructor
  ·refine ext6 (rst_len _ _) lx fun j hj => ?_
   have e1:=e0 j hj
   have e3:=X j hj
   rw [hV' j hj,hfr j hj] at e1
   rw [rst_at _ _ hj]
   cases h3:V.testBit j <;> cases h4:m.testBit j <;> simp [h3,h4] at e1 e3 ⊢ <;> omega
  ·refine ext6 (rst_len _ _) la fun j hj => ?_
   have e1:=e0 j hj
   have e2:=A j hj
   have e3:=SA j hj
   rw [hV' j hj,hfr j hj] at e1
   rw [rst_at _ _ hj]
   cases h3:V.testBit j <;> cases h4:m.testBit j <;> simp [h3,h4] at e1 e2 e3 ⊢ <;> omega
theorem ext_step {U V m s fr V':Nat} {x:List Int} (f G:List Int -> Int) (hs:∀ j,j < 6 -> s.testBit j = (m.testBit j && V.testBit j)) (hfr:∀ j,j < 6 -> fr.testBit j = (m.testBit j && !V.testBit j)) (hV':∀ j,j < 6 -> V'.testBit j = (V.testBit j || m.testBit j))
  (hx:rst V x = x) (hf:∀ a,f a ≠ 0 -> rst m a = a) :
  ext U V x (fun y => f (rst m y) * G y) = Sg box fun a => if rst s a = rst s x then f a * ext U V' (mix fr x a) G else 0:=by
 have h1:ext U V x (fun y => f (rst m y) * G y) = Sg box fun y => Sg box fun a => if (rst U y = y /\ rst V y = x) /\ a = rst m y then f a * G y else 0:=by
  refine S_congr fun y hy => ?_
  rw [S_one (x:=rst m y) box_nodup (mem_box.2 ((mem_box.1 hy).rst m))]
  ·by_cases c:rst U y = y /\ rst V y = x
   ·rw [if_pos c,if_pos ⟨c,rfl⟩]
   ·rw [if_neg c,if_neg (fun h => c h.1)]
  ·intro a _ hne;exact if_neg (fun h => hne h.2)
 rw [h1,S_swap]
 refine S_congr fun a _ => ?_
 by_cases h0:f a = 0
 ·rw [h0,S_zero (fun y _ => by split <;> simp)];simp
 have ha:=hf a h0
 by_cases hsa:rst s a = rst s x
 ·rw [if_pos hsa];unfold ext;rw [← S_mul]
  refine S_congr fun y _ => ?_
  have:=cond_step (y:=y) hs hfr hV' hx ha hsa
  by_cases c:rst U y = y /\ rst V' y = mix fr x a
  ·rw [if_pos c,if_pos ⟨⟨c.1,(this.2 c.2).1⟩,(this.2 c.2).2.symm⟩]
  ·rw [if_neg c,if_neg (fun h => c ⟨h.1.1,this.1 ⟨h.1.2,h.2.symm⟩⟩)];simp
 ·rw [if_neg hsa]
  refine S_zero fun y _ => if_neg ?_
  rintro ⟨⟨_,h2⟩,rfl⟩
  refine hsa ?_
  rw [← h2]
  refine ext6 (rst_len _ _) (rst_len _ _) fun j hj => ?_
  rw [rst_at _ _ hj,rst_at _ _ hj,rst_at _ _ hj,rst_at _ _ hj]
  have:=hs j hj
  cases h3:V.testBit j <;> cases h4:m.testBit j <;> simp [h3,h4] at this <;> simp [this]
structure Stp where
 s:Nat
 fr:Nat
 f:List Int -> Int
def jn (H:Nat):List Stp -> List Int -> Int -> List Int -> Int
 | [],x,c,h => if rst H x = h then c else 0
 | t :: ws,x,c,h => Sg box fun a => if rst t.s a = rst t.s x then jn H ws (mix t.fr x a) (c * t.f a) h else 0
theorem jn_mul (H:Nat) (ws:List Stp) (x:List Int) (c d:Int) (h:List Int):jn H ws x (c * d) h = c * jn H ws x d h:=by
 induction ws generalizing x d with
 | nil => simp only [jn];split <;> simp
 | cons t ws ih =>
  simp only [jn];rw [← S_mul];refine S_congr fun a _ => ?_
  split
  ·rw [Int.mul_assoc,ih]
  ·simp
theorem jn_lin (H:Nat) (ws:List Stp) (x:List Int) (c:Int) (h:List Int):jn H ws x c h = c * jn H ws x 1 h:=by
 rw [← jn_mul];simp
def prodA:List (Nat × (List Int -> Int)) -> List Int -> Int
 | [],_ => 1
 | p :: l,y => p.2 (rst p.1 y) * prodA l y
theorem prodA_append (l m:List (Nat × (List Int -> Int))) (y:List Int):prodA (l ++ m) y = prodA l y * prodA m y:=by
 induction l with
 | nil => simp [prodA]
 | cons p l ih => rw [List.cons_append,prodA,prodA,ih,Int.mul_assoc]
theorem prodA_perm {l m:List (Nat × (List Int -> Int))} (h:l.Perm m) (y:List Int):prodA l y = prodA m y:=by
 induction h with
 | nil => rfl
 | cons x _ ih => rw [prodA,prodA,ih]
 | swap x y' l => simp only [prodA];rw [← Int.mul_assoc,← Int.mul_assoc,Int.mul_comm (y'.2 _)]
 | trans _ _ h1 h2 => rw [h1,h2]
def hd (H:Nat) (h:List Int) (y:List Int):Int:=if rst H y = h then 1 else 0
def Wk (U:Nat):Nat -> List Stp -> List Nat -> Prop
 | V,[],ms => ms = [] /\ ∀ j,j < 6 -> V.testBit j = U.testBit j
 | V,t :: ws,ms => ∃ m ms',ms = m :: ms' /\ (∀ j,j < 6 -> t.s.testBit j = (m.testBit j && V.testBit j)) /\ (∀ j,j < 6 -> t.fr.testBit j = (m.testBit j && !V.testBit j)) /\ (∀ a,t.f a ≠ 0 -> Bx a /\ rst m a = a) /\ Wk U (V ||| m) ws ms'
def wkA (ws:List Stp) (ms:List Nat):List (Nat × (List Int -> Int)):=List.zipWith (fun t m => (m,t.f)) ws ms
theorem mix_fits {V m s fr:Nat} {x a:List Int} (_hs:∀ j,j < 6 -> s.testBit j = (m.testBit j && V.testBit j)) (hfr:∀ j,j < 6 -> fr.testBit j = (m.testBit j && !V.testBit j)) (hx:rst V x = x) (ha:rst m a = a):rst (V ||| m) (mix fr x a) = mix fr x a:=by
 refine ext6 (rst_len _ _) (mix_len _ _ _) fun j hj => ?_
 have e1:=(rst_at V x hj).symm.trans (at_of_eq hx j)
 have e2:=(rst_at m a hj).symm.trans (at_of_eq ha j)
 rw [rst_at _ _ hj,mix_at _ _ _ hj,Nat.testBit_or,hfr j hj]
 cases h3:V.testBit j <;> cases h4:m.testBit j <;> simp [h3,h4] at e1 e2 ⊢ <;> omega
theorem jn_eq {U:Nat} (H:Nat) {V:Nat} {ws:List Stp} {ms:List Nat} (hw:Wk U V ws ms) {x:List Int} (hx:Bx x) (hxV:rst V x = x) (c:Int) (h:List Int) :
  jn H ws x c h = c * ext U V x (fun y => prodA (wkA ws ms) y * hd H h y):=by
 induction ws generalizing V ms x c with
 | nil =>
  obtain ⟨rfl,hV⟩:=hw
  have hxU:rst U x = x:=by
   rw [← hxV]
   refine ext6 (rst_len _ _) (rst_len _ _) fun j hj => ?_
   rw [rst_at _ _ hj,rst_at _ _ hj,hV j hj]
   split <;> rfl
  rw [ext_end _ hV hx hxU]
  simp only [jn,wkA,List.zipWith_nil_left,prodA,hd]
  split <;> simp
 | cons t ws ih =>
  obtain ⟨m,ms',rfl,hs,hfr,hf,hw'⟩:=hw
  have e1:ext U V x (fun y => prodA (wkA (t :: ws) (m :: ms')) y * hd H h y) = ext U V x (fun y => t.f (rst m y) * (prodA (wkA ws ms') y * hd H h y)) :=
   ext_congr fun y _ _ _ => by simp only [wkA,List.zipWith_cons_cons,prodA];rw [Int.mul_assoc]
  rw [e1,ext_step (V':=V ||| m) t.f _ hs hfr (fun j _ => Nat.testBit_or _ _ _) hxV (fun a h0 => (hf a h0).2),← S_mul]
  simp only [jn]
  refine S_congr fun a _ => ?_
  split
  ·by_cases h0:t.f a = 0
   ·rw [h0,jn_lin];simp
   ·rw [ih hw' (hx.mix (hf a h0).1 _) (mix_fits hs hfr hxV (hf a h0).2) (c * t.f a),Int.mul_assoc]
  ·simp
def wor (U H:Nat) (As:List (Nat × (List Int -> Int))) (h:List Int):Int:=ext U 0 (rst 0 []) (fun y => prodA As y * hd H h y)
def bump (f:List Int -> Int) (a:List Int) (c:Int) (b:List Int):Int:=f b + if b = a then c else 0
theorem rst_none (y:List Int):rst 0 y = rst 0 []:=by
 refine ext6 (rst_len _ _) (rst_len _ _) fun j hj => ?_
 rw [rst_at _ _ hj,rst_at _ _ hj];simp
theorem wor_bump (U H:Nat) (l r:List (Nat × (List Int -> Int))) (m:Nat) (f:List Int -> Int) (a:List Int) (c:Int) (h:List Int) :
  wor U H (l ++ (m,bump f a c) :: r) h = wor U H (l ++ (m,f) :: r) h + c * ext U m a (fun y => prodA (l ++ r) y * hd H h y):=by
 unfold wor
 rw [← ext_mul]
 unfold ext
 rw [← S_add]
 refine S_congr fun y _ => ?_
 rw [rst_none y]
 simp only [and_true,prodA_append,prodA,bump]
 by_cases c1:rst U y = y
 ·rw [if_pos c1,if_pos c1]
  by_cases c2:rst m y = a
  ·rw [if_pos c2,if_pos ⟨c1,c2⟩]
   simp only [Int.add_mul,Int.mul_add,Int.mul_assoc,Int.mul_left_comm c]
  ·rw [if_neg c2,if_neg (fun h => c2 h.2)];simp
 ·rw [if_neg c1,if_neg c1,if_neg (fun h => c1 h.1)];rfl
theorem prodA_ne {As:List (Nat × (List Int -> Int))} {y:List Int} (h:prodA As y ≠ 0):∀ p,p ∈ As -> p.2 (rst p.1 y) ≠ 0:=by
 induction As with
 | nil => simp
 | cons q l ih =>
  rw [prodA] at h
  have h1:q.2 (rst q.1 y) ≠ 0:=fun e => h (by rw [e];simp)
  have h2:prodA l y ≠ 0:=fun e => h (by rw [e];simp)
  intro p hp
  rcases List.mem_cons.1 hp with rfl | hp
  ·exact h1
  ·exact ih h2 p hp
theorem wor_supp {U H:Nat} {As:List (Nat × (List Int -> Int))} {h:List Int} (hne:wor U H As h ≠ 0):∃ y,Bx y /\ rst U y = y /\ rst H y = h /\ ∀ p,p ∈ As -> p.2 (rst p.1 y) ≠ 0:=by
 obtain ⟨y,hy,hf⟩:=S_ne hne
 split at hf
 ·rename_i c
  have h1:prodA As y ≠ 0:=fun e => hf (by show prodA As y * _ = 0;rw [e];simp)
  have h2:rst H y = h:=by
   refine Classical.byContradiction fun e => hf ?_
   simp [hd,e]
  exact ⟨y,mem_box.1 hy,c.1,h2,prodA_ne h1⟩
 ·exact absurd rfl hf
def cand:List (Nat × List (List Int)) -> List (List Int)
 | [] => [rst 0 []]
 | p :: l => p.2.flatMap fun a => (cand l).map fun y => mix p.1 y a
def cov:List (Nat × List (List Int)) -> Nat
 | [] => 0
 | p :: l => p.1 ||| cov l
theorem cand_mem (Ls:List (Nat × List (List Int))) (y:List Int) (h:∀ p,p ∈ Ls -> rst p.1 y ∈ p.2):rst (cov Ls) y ∈ cand Ls:=by
 induction Ls with
 | nil => simp only [cov,cand,List.mem_singleton];exact rst_none y
 | cons p l ih =>
  rw [cand,List.mem_flatMap]
  refine ⟨rst p.1 y,h p (by simp),List.mem_map.2 ⟨_,ih (fun q hq => h q (by simp [hq])),?_⟩⟩
  refine ext6 (mix_len _ _ _) (rst_len _ _) fun j hj => ?_
  rw [mix_at _ _ _ hj,rst_at _ _ hj,rst_at _ _ hj,rst_at _ _ hj,cov,Nat.testBit_or]
  cases h3:p.1.testBit j <;> simp
theorem flatMap_len_le {α β:Type} (l:List α) (f:α -> List β) (k:Nat) (h:∀ x,x ∈ l -> (f x).length <= k):(l.flatMap f).length <= l.length * k:=by
 induction l with
 | nil => simp
 | cons x l ih =>
  rw [List.flatMap_cons,List.length_append,List.length_cons,Nat.succ_mul]
  have:=h x (by simp)
  have:=ih (fun y hy => h y (by simp [hy]))
  omega
theorem cand_len (Ls:List (Nat × List (List Int))) (h:∀ p,p ∈ Ls -> p.2.length <= 12):(cand Ls).length <= 12 ^ Ls.length:=by
 induction Ls with
 | nil => simp [cand]
 | cons p l ih =>
  rw [cand,List.length_cons,Nat.pow_succ]
  have h1:=ih (fun q hq => h q (by simp [hq]))
  refine Nat.le_trans (flatMap_len_le p.2 _ (12 ^ l.length) (fun a _ => by rw [List.length_map];exact h1)) ?_
  rw [Nat.mul_comm]
  exact Nat.mul_le_mul_left _ (h p (by simp))
theorem wor_count {U H:Nat} {As:List (Nat × (List Int -> Int))} {Ls:List (Nat × List (List Int))} (hL:∀ p,p ∈ Ls -> ∃ f,(p.1,f) ∈ As /\ ∀ a,f a ≠ 0 -> a ∈ p.2) (hU:cov Ls = U) (h12:∀ p,p ∈ Ls -> p.2.length <= 12)
  (l:List (List Int)) (hn:l.Nodup) (hl:∀ h,h ∈ l -> wor U H As h ≠ 0):l.length <= 12 ^ Ls.length:=by
 refine Nat.le_trans (nodup_le (m:=(cand Ls).map (rst H)) hn fun h hh => ?_) (by rw [List.length_map];exact cand_len Ls h12)
 obtain ⟨y,_,hy,hH,hA⟩:=wor_supp (hl h hh)
 refine List.mem_map.2 ⟨y,?_,hH⟩
 have:=cand_mem Ls y (fun p hp => by
  obtain ⟨f,hf,hs⟩:=hL p hp
  exact hs _ (hA _ hf))
 rw [hU,hy] at this
 exact this
def lkE (es:List (Nat × Nat)):List (Nat × Nat):=es.flatMap fun e => [(e.1,e.2),(e.2,e.1)]
def wfL:Nat -> List (Nat × Nat) -> Nat -> Nat -> List Nat
 | 0,_,_,_ => []
 | k + 1,lk,at',came => (List.range lk.length).flatMap fun i => let l:=lk.getD i (0,0);if l.1 = at' /\ l.2 ≠ came then i :: wfL k lk l.2 at' else []
def allE:Nat -> List Nat -> List (List (Nat × Nat))
 | 0,_ => [[]]
 | k + 1,left => if left.length <= 1 then [[]] else left.flatMap fun g => (left.filter fun j => j != g).flatMap fun p => (allE k (left.filter fun j => j != g)).map fun es => (g,p) :: es
def earB (b:List Bool):List Nat -> List (Nat × Nat) -> Bool
 | _,[] => true
 | left,e :: es => (!(b.getD e.1 false && (left.filter fun j => j != e.1).any fun j => b.getD j false) || b.getD e.2 false) && earB b (left.filter fun j => j != e.1) es
def stepB (b:List Bool) (lk:List (Nat × Nat)):Bool -> List Nat -> Bool
 | _,[] => true
 | V,i :: ws => let l:=lk.getD i (0,0);((b.getD l.2 false && V) == (b.getD l.2 false && b.getD l.1 false)) && stepB b lk (V || b.getD l.2 false) ws
def bools:Nat -> List (List Bool)
 | 0 => [[]]
 | n + 1 => (bools n).flatMap fun l => [true :: l,false :: l]
def goodE (n:Nat) (es:List (Nat × Nat)):Bool :=
 (List.range n).all fun i => let w:=wfL 4 (lkE es) i 9
  (List.range n).isPerm (i :: w.map fun k => ((lkE es).getD k (0,0)).2) && w.all (fun k => k < (lkE es).length) && (bools n).all fun b => !earB b (List.range n) es || stepB b (lkE es) (b.getD i false) w
theorem good1:(allE 3 (List.range 1)).all (goodE 1) = true:=by decide
theorem good2:(allE 3 (List.range 2)).all (goodE 2) = true:=by decide
theorem good3:(allE 3 (List.range 3)).all (goodE 3) = true:=by decide
set_option maxRecDepth 1000000 in
theorem good4:(allE 3 (List.range 4)).all (goodE 4) = true:=by decide +kernel
def Ears (ms:List Nat):List Nat -> List (Nat × Nat) -> Prop
 | left,[] => left.length <= 1
 | left,e :: es => e.1 ∈ left /\ e.2 ∈ left /\ e.2 ≠ e.1 /\ (∀ j,j < 6 -> (ms.getD e.1 0).testBit j = true -> (∃ k,k ∈ left /\ k ≠ e.1 /\ (ms.getD k 0).testBit j = true) -> (ms.getD e.2 0).testBit j = true) /\ Ears ms (left.filter fun j => j != e.1) es
theorem filter_less {l:List Nat} {g:Nat} (h:g ∈ l):(l.filter fun j => j != g).length < l.length:=by
 have:=List.length_filter_lt_length_iff_exists (p:=fun j => j != g) (l:=l)
 exact this.2 ⟨g,h,by simp⟩
theorem Ears.all {ms:List Nat} {left:List Nat} {es:List (Nat × Nat)} (h:Ears ms left es) (k:Nat) (hk:left.length <= k + 1):es ∈ allE k left:=by
 induction es generalizing left k with
 | nil =>
  cases k with
  | zero => simp [allE]
  | succ k => have h':left.length <= 1:=h;rw [allE,if_pos h'];simp
 | cons e es ih =>
  obtain ⟨h1,h2,h3,_,h5⟩:=h
  have hl:=filter_less h1
  have h2':e.2 ∈ left.filter fun j => j != e.1:=List.mem_filter.2 ⟨h2,by simp [h3]⟩
  have hp:=List.length_pos_of_mem h2'
  cases k with
  | zero => omega
  | succ k =>
   rw [allE,if_neg (by omega),List.mem_flatMap]
   refine ⟨e.1,h1,List.mem_flatMap.2 ⟨e.2,h2',List.mem_map.2 ⟨es,ih h5 k (by omega),rfl⟩⟩⟩
def bitsOf (ms:List Nat) (j:Nat):List Bool:=ms.map fun m => m.testBit j
theorem bitsOf_at (ms:List Nat) (j k:Nat):(bitsOf ms j).getD k false = (ms.getD k 0).testBit j:=by
 simp only [bitsOf,List.getD_eq_getElem?_getD,List.getElem?_map]
 cases ms[k]? <;> simp
theorem Ears.ear {ms:List Nat} {left:List Nat} {es:List (Nat × Nat)} (h:Ears ms left es) (j:Nat) (hj:j < 6):earB (bitsOf ms j) left es = true:=by
 induction es generalizing left with
 | nil => rfl
 | cons e es ih =>
  obtain ⟨_,_,_,h4,h5⟩:=h
  rw [earB,ih h5,Bool.and_true,bitsOf_at,bitsOf_at]
  cases h6:(ms.getD e.1 0).testBit j
  ·rfl
  ·cases h7:(left.filter fun j => j != e.1).any fun k => (bitsOf ms j).getD k false
   ·simp
   ·obtain ⟨k,hk,hb⟩:=List.any_eq_true.1 h7
    rw [bitsOf_at] at hb
    obtain ⟨m1,m2⟩:=List.mem_filter.1 hk
    rw [h4 j hj h6 ⟨k,m1,by simpa using m2,hb⟩];simp
theorem mem_bools (l:List Bool):l ∈ bools l.length:=by
 induction l with
 | nil => simp [bools]
 | cons b l ih =>
  rw [List.length_cons,bools,List.mem_flatMap]
  exact ⟨l,ih,by cases b <;> simp⟩
theorem good_any {n:Nat} (h1:1 <= n) (h4:n <= 4):(allE 3 (List.range n)).all (goodE n) = true:=by
 match n,h1,h4 with
 | 1,_,_ => exact good1
 | 2,_,_ => exact good2
 | 3,_,_ => exact good3
 | 4,_,_ => exact good4
theorem Ears.walk {ms:List Nat} {es:List (Nat × Nat)} (h1:1 <= ms.length) (h4:ms.length <= 4) (h:Ears ms (List.range ms.length) es) {i:Nat} (hi:i < ms.length) :
  (List.range ms.length).Perm (i :: (wfL 4 (lkE es) i 9).map fun k => ((lkE es).getD k (0,0)).2) /\ (∀ k,k ∈ wfL 4 (lkE es) i 9 -> k < (lkE es).length) /\ ∀ j,j < 6 -> stepB (bitsOf ms j) (lkE es) ((ms.getD i 0).testBit j) (wfL 4 (lkE es) i 9) = true:=by
 have hm:=h.all 3 (by rw [List.length_range];exact h4)
 have hg:=List.all_eq_true.1 (good_any h1 h4) es hm
 have hw:=List.all_eq_true.1 hg i (List.mem_range.2 hi)
 simp only [Bool.and_eq_true] at hw
 obtain ⟨⟨w1,w2⟩,w3⟩:=hw
 refine ⟨List.isPerm_iff.1 w1,fun k hk => by simpa using List.all_eq_true.1 w2 k hk,fun j hj => ?_⟩
 have hb:=List.all_eq_true.1 w3 (bitsOf ms j) (by have:=mem_bools (bitsOf ms j);rwa [bitsOf,List.length_map] at this)
 rw [h.ear j hj,bitsOf_at] at hb
 simpa using hb
def stpOf (ms:List Nat) (lk:List (Nat × Nat)) (f:Nat -> List Int -> Int) (k:Nat):Stp :=
 ⟨ms.getD (lk.getD k (0,0)).2 0 &&& ms.getD (lk.getD k (0,0)).1 0,ms.getD (lk.getD k (0,0)).2 0 &&& (255 ^^^ ms.getD (lk.getD k (0,0)).1 0),f (lk.getD k (0,0)).2⟩
theorem testBit_not {m j:Nat} (_hm:m < 256) (hj:j < 8):(255 ^^^ m).testBit j = !m.testBit j:=by
 rw [Nat.testBit_xor,show (255:Nat) = 2 ^ 8 - 1 from rfl,Nat.testBit_two_pow_sub_one];simp [hj]
theorem wk_steps {ms:List Nat} (hms:∀ m,m ∈ ms -> m < 256) {lk:List (Nat × Nat)} {f:Nat -> List Int -> Int} (hf:∀ k a,f k a ≠ 0 -> Bx a /\ rst (ms.getD k 0) a = a) {U:Nat} (w:List Nat) (V:Nat)
  (hst:∀ j,j < 6 -> stepB (bitsOf ms j) lk (V.testBit j) w = true) (hU:∀ j,j < 6 -> U.testBit j = (V.testBit j || w.any fun k => (ms.getD (lk.getD k (0,0)).2 0).testBit j)) :
  Wk U V (w.map (stpOf ms lk f)) (w.map fun k => ms.getD (lk.getD k (0,0)).2 0):=by
 induction w generalizing V with
 | nil => exact ⟨rfl,fun j hj => by rw [hU j hj];simp⟩
 | cons k w ih =>
  have hlt:ms.getD (lk.getD k (0,0)).1 0 < 256:=by
   rw [List.getD_eq_getElem?_getD]
   cases e:ms[(lk.getD k (0,0)).1]? with
   | none => simp
   | some m => exact hms m (List.mem_of_getElem? e)
  have hb:∀ j,j < 6 -> ((ms.getD (lk.getD k (0,0)).2 0).testBit j && V.testBit j) = ((ms.getD (lk.getD k (0,0)).2 0).testBit j && (ms.getD (lk.getD k (0,0)).1 0).testBit j) /\ stepB (bitsOf ms j) lk (V.testBit j || (ms.getD (lk.getD k (0,0)).2 0).testBit j) w = true:=by
   intro j hj
   have:=hst j hj
   simp only [stepB,Bool.and_eq_true,bitsOf_at] at this
   exact ⟨by simpa using this.1,this.2⟩
  refine ⟨_,_,rfl,fun j hj => ?_,fun j hj => ?_,fun a h0 => hf _ a h0,ih _ (fun j hj => ?_) (fun j hj => ?_)⟩
  ·rw [(hb j hj).1];exact Nat.testBit_and _ _ _
  ·have e:=(hb j hj).1
   show (_ &&& _:Nat).testBit j = _
   rw [Nat.testBit_and,testBit_not hlt (by omega)]
   revert e
   cases (ms.getD (lk.getD k (0,0)).2 0).testBit j <;> cases V.testBit j <;> cases (ms.getD (lk.getD k (0,0)).1 0).testBit j <;> simp
  ·rw [Nat.testBit_or];exact (hb j hj).2
  ·rw [hU j hj,Nat.testBit_or,List.any_cons,Bool.or_assoc]
def atomsOf (ms:List Nat) (f:Nat -> List Int -> Int):List (Nat × (List Int -> Int)):=(List.range ms.length).map fun k => (ms.getD k 0,f k)
def orL (ms:List Nat):Nat:=ms.foldr (· ||| ·) 0
theorem orL_bit (ms:List Nat) (j:Nat):(orL ms).testBit j = ms.any fun m => m.testBit j:=by
 induction ms with
 | nil => simp [orL]
 | cons m ms ih => rw [orL,List.foldr_cons,Nat.testBit_or,List.any_cons,← ih];rfl
theorem wkA_map (ms:List Nat) (lk:List (Nat × Nat)) (f:Nat -> List Int -> Int) (w:List Nat):wkA (w.map (stpOf ms lk f)) (w.map fun k => ms.getD (lk.getD k (0,0)).2 0) = (w.map fun k => (lk.getD k (0,0)).2).map fun k => (ms.getD k 0,f k):=by
 induction w with
 | nil => rfl
 | cons k w ih => simp only [wkA,List.map_cons,List.zipWith_cons_cons] at ih ⊢;rw [ih];rfl
def updF (f:Nat -> List Int -> Int) (i:Nat) (a:List Int) (c:Int):Nat -> List Int -> Int:=fun k => if k = i then bump (f i) a c else f k
theorem wor_perm {U H:Nat} {l m:List (Nat × (List Int -> Int))} (h:l.Perm m) (x:List Int):wor U H l x = wor U H m x :=
 ext_congr fun y _ _ _ => by rw [prodA_perm h]
theorem any_perm {α:Type} {l m:List α} (h:l.Perm m) (p:α -> Bool):l.any p = m.any p:=by
 rw [Bool.eq_iff_iff,List.any_eq_true,List.any_eq_true]
 constructor
 ·rintro ⟨x,h1,h2⟩;exact ⟨x,h.mem_iff.1 h1,h2⟩
 ·rintro ⟨x,h1,h2⟩;exact ⟨x,h.mem_iff.2 h1,h2⟩
theorem walk_adds {ms:List Nat} (hms:∀ m,m ∈ ms -> m < 256) {es:List (Nat × Nat)} (h1:1 <= ms.length) (h4:ms.length <= 4) (h:Ears ms (List.range ms.length) es) {f:Nat -> List Int -> Int} (hf:∀ k a,f k a ≠ 0 -> Bx a /\ rst (ms.getD k 0) a = a)
  {i:Nat} (hi:i < ms.length) (H:Nat) {a:List Int} (ha:Bx a) (ham:rst (ms.getD i 0) a = a) (c:Int) (x:List Int) :
  wor (orL ms) H (atomsOf ms (updF f i a c)) x = wor (orL ms) H (atomsOf ms f) x + jn H ((wfL 4 (lkE es) i 9).map (stpOf ms (lkE es) f)) a c x:=by
 obtain ⟨w1,w2,w3⟩:=h.walk h1 h4 hi
 obtain ⟨w,hw⟩:∃ w,wfL 4 (lkE es) i 9 = w:=⟨_,rfl⟩
 rw [hw] at w1 w2 w3 ⊢
 have hU:∀ j,j < 6 -> (orL ms).testBit j = ((ms.getD i 0).testBit j || w.any fun k => (ms.getD ((lkE es).getD k (0,0)).2 0).testBit j):=by
  intro j _
  have e1:ms = (List.range ms.length).map fun k => ms.getD k 0:=by
   apply List.ext_getElem (by simp)
   intro k h1 h2;simp [List.getD,h1]
  rw [orL_bit]
  conv => lhs;rw [e1]
  rw [List.any_map,any_perm w1,List.any_cons,List.any_map];rfl
 have hWk:=wk_steps hms (lk:=lkE es) hf w (ms.getD i 0) w3 hU
 rw [jn_eq H hWk ha ham c x,wkA_map]
 have hp:=List.perm_cons_erase (List.mem_range.2 hi)
 have hq:(w.map fun k => ((lkE es).getD k (0,0)).2).Perm ((List.range ms.length).erase i):=List.Perm.cons_inv (w1.symm.trans hp)
 have hni:i ∉ (List.range ms.length).erase i:=fun hm => (List.nodup_range.mem_erase_iff.1 hm).1 rfl
 have e1:(atomsOf ms (updF f i a c)).Perm ([] ++ (ms.getD i 0,bump (f i) a c) :: ((List.range ms.length).erase i).map fun k => (ms.getD k 0,f k)):=by
  refine (hp.map _).trans ?_
  rw [List.map_cons,List.nil_append]
  have e2:((List.range ms.length).erase i).map (fun k => (ms.getD k 0,updF f i a c k)) = ((List.range ms.length).erase i).map fun k => (ms.getD k 0,f k) :=
   List.map_congr_left fun k hk => by rw [updF,if_neg (fun e:k = i => hni (e ▸ hk))]
  rw [e2,updF,if_pos rfl]
 have e3:(atomsOf ms f).Perm ([] ++ (ms.getD i 0,f i) :: ((List.range ms.length).erase i).map fun k => (ms.getD k 0,f k)):=by
  refine (hp.map _).trans ?_
  rw [List.map_cons,List.nil_append]
 rw [wor_perm e1,wor_perm e3,wor_bump]
 simp only [List.nil_append]
 have e4:ext (orL ms) (ms.getD i 0) a (fun y => prodA (((List.range ms.length).erase i).map fun k => (ms.getD k 0,f k)) y * hd H x y) = ext (orL ms) (ms.getD i 0) a (fun y => prodA ((w.map fun k => ((lkE es).getD k (0,0)).2).map fun k => (ms.getD k 0,f k)) y * hd H x y) :=
  ext_congr fun y _ _ _ => by rw [prodA_perm (hq.map _)]
 rw [e4]
end Go.Proofs.YtondkinefmjpjaaGreat
