import Derived.Deep.CutBlock
import Derived.Test.YtondkinefmjpjaaGreatI04
set_option maxHeartbeats 2000000
set_option maxRecDepth 100000
namespace Go.Proofs.YtondkinefmjpjaaGreat.K
open Go.RowKit
theorem Tryz.info203:(Tryz.prog.info? 203).map (fun i => (i.zero,i.size,i.bytes)) = some (some (.agg #[.int .i64 0,.int .i64 0]),2,16):=by kernel_rfl
theorem Tryz.info138:(Tryz.prog.info? 138).map (fun i => (i.zero,i.size,i.bytes)) = some (some (.agg #[.string ⟨#[]⟩,.slice none 0 0,.int .i64 0]),3,48):=by kernel_rfl
def aR1 (r:Est.Rd) (n:Nat):Est.Rd:=if r.isB 114 && decide (4 <= n) then r.fail 3 r.g.a else r
def aR3 (s:ByteArray) (r:Est.Rd) (n:Nat):Est.Rd:=((aR1 r n).must s 114).must s 40
def aT (s:ByteArray) (r:Est.Rd) (n:Nat) (vars:List ByteArray):Est.Rd × List ByteArray × List Int:=tl s 5 (aR3 s r n) vars []
def aC (s:ByteArray) (r:Est.Rd) (n:Nat) (vars:List ByteArray):List Int:=tc s 5 (aR3 s r n) vars [] []
theorem isB_false {r:Est.Rd} {kd:UInt8} (h:r.isB kd = false):((r.bad:Int) == 0) = false ∨ (((r.bad:Int) == 0) = true /\ ((r.g.k.toNat:Int) == (kd.toNat:Int)) = false):=by
 by_cases h0:r.bad = 0
 ·right
  refine ⟨by simp [h0],beq_eq_false_iff_ne.2 (fun e => ?_)⟩
  have hk:r.g.k = kd:=UInt8.toNat_inj.1 (by omega)
  rw [isB_yes h0 hk] at h;cases h
 ·left;exact beq_eq_false_iff_ne.2 (by omega)
theorem isB_true {r:Est.Rd} {kd:UInt8} (h:r.isB kd = true):((r.bad:Int) == 0) = true /\ ((r.g.k.toNat:Int) == (kd.toNat:Int)) = true:=by
 unfold Est.Rd.isB at h
 simp only [Bool.and_eq_true,decide_eq_true_eq,beq_iff_eq] at h
 exact ⟨by simp [h.1],by simp [h.2]⟩
def clash (rel:ByteArray) (n:Nat) (d:AD):Bool:=(d.rel.toList == rel.toList) && (d.ts.length != n)
def aShape (r:Est.Rd) (l:List AD) (rel:ByteArray) (n a k:Nat):Est.Rd:=if (l.take k).any (clash rel n) then r.fail 6 a else r
def aFin (s:ByteArray) (r:Est.Rd) (l:List AD) (vars:List ByteArray):Est.Rd :=
 aShape ((aT s r l.length vars).1.must s 41) l (aR1 r l.length).g.t (aT s r l.length vars).2.2.length r.g.a l.length
structure APost (w w':World) (rb qb base:Nat) (s:ByteArray) (r:Est.Rd) (vars:List ByteArray) (hv:Value) (l:List AD):Prop where
 ex:∃ d:AD,ASt w' rb qb base s (aFin s r l vars) (aT s r l.length vars).2.1 hv (l ++ [d]) /\ d.rel = (aR1 r l.length).g.t /\ d.ts.map Prod.fst = (aT s r l.length vars).2.2 /\ d.at_ = r.g.a /\ d.ts.map Prod.snd = aC s r l.length vars
 kp:Keeps (FA rb qb base) w w'
theorem aShape_done {r:Est.Rd} {l:List AD} {rel:ByteArray} {n a k:Nat} (_hk:k <= l.length) (h:(aShape r l rel n a k).bad ≠ 0):aShape r l rel n a l.length = aShape r l rel n a k:=by
 unfold aShape at h ⊢
 rw [List.take_length]
 by_cases h1:(l.take k).any (clash rel n) = true
 ·have h2:l.any (clash rel n) = true:=by
   rw [List.any_eq_true] at h1 ⊢
   obtain ⟨x,hx,hp⟩:=h1
   exact ⟨x,List.mem_of_mem_take hx,hp⟩
  rw [if_pos h1,if_pos h2]
 ·rw [if_neg h1] at h ⊢
  split
  ·unfold Est.Rd.fail;rw [if_neg h]
  ·rfl
theorem aShape_step {r:Est.Rd} {l:List AD} {rel:ByteArray} {n a k:Nat} (hk:k < l.length) (h:(aShape r l rel n a k).bad = 0) :
  aShape r l rel n a (k + 1) = if clash rel n l[k] then (aShape r l rel n a k).fail 6 a else aShape r l rel n a k:=by
 unfold aShape at h ⊢
 rw [List.take_succ_eq_append_getElem hk,List.any_append]
 by_cases h1:(l.take k).any (clash rel n) = true
 ·rw [if_pos h1] at h
  unfold Est.Rd.fail at h
  split at h
  ·simp at h
  ·rename_i hx;exact absurd h hx
 ·have h1':(l.take k).any (clash rel n) = false:=by simpa using h1
  rw [h1']
  simp
theorem acells_at (l:List AD) (k:Nat) (hk:k < l.length):(acells l)[k * 3]? = some (.string l[k].rel) /\ (acells l)[k * 3 + 1]? = some l[k].tv /\ (acells l)[k * 3 + 2]? = some (.int .i64 l[k].at_):=by
 induction l generalizing k with
 | nil => simp at hk
 | cons d l ih =>
  cases k with
  | zero => simp [acells]
  | succ k =>
   have:=ih k (by simpa using hk)
   have e:acells (d :: l) = [.string d.rel,d.tv,.int .i64 d.at_] ++ acells l:=by simp [acells]
   rw [e]
   have e0:(k + 1) * 3 = k * 3 + 3:=by omega
   rw [e0,List.getElem?_append_right (by simp),List.getElem?_append_right (by simp),List.getElem?_append_right (by simp)]
   simpa using this
theorem val_bool {a b:Bool} (h:a = b):Value.bool a = .bool b:=by rw [h]
def slen:Option Value -> Nat
 | some (.slice _ n _) => n
 | _ => 0
structure LInv (w wr:World) (rb qb base AB:Nat) (s:ByteArray) (hv av:Value) (l:List AD) (rel:ByteArray) (a:Nat) (nv:Nat) (TL:Est.Rd × List ByteArray × List Int) (TC:List Int)
  (m:Bool) (r:Est.Rd) (vars:List ByteArray) (tv:Value) (ts:List (Int × Int)):Prop where
 mst:MSt w wr rb qb base AB s r vars hv av l rel a tv ts
 ok:Ok s r
 len:ts.length <= 4
 full:ts.length = 4 -> r.bad ≠ 0
 nvs:vars.length <= nv + ts.length
 tl:TL = if m then tl s (5 - ts.length) r vars (ts.map Prod.fst) else (r,vars,ts.map Prod.fst)
 tc:TC = if m then tc s (5 - ts.length) r vars (ts.map Prod.fst) (ts.map Prod.snd) else ts.map Prod.snd
theorem tl_done (s:ByteArray) (n:Nat) (r:Est.Rd) (vars:List ByteArray) (ts:List Int) (h:r.bad ≠ 0):tl s n r vars ts = (r,vars,ts):=by
 cases n with
 | zero => rfl
 | succ n => unfold tl;rw [if_neg h]
theorem tl_step (s:ByteArray) (n:Nat) (r r2:Est.Rd) (vars:List ByteArray) (ts:List Int) (h:r.bad = 0) (h2:(if 3 <= ts.length then r.fail 3 r.g.a else r) = r2) :
  tl s (n + 1) r vars ts = if (tR s r2 vars).isB 44 then tl s n ((tR s r2 vars).is s 44) (tVars s r2 vars) (ts ++ [tV s r2 vars]) else (tR s r2 vars,tVars s r2 vars,ts ++ [tV s r2 vars]):=by
 subst h2;rw [tl,if_pos h]
theorem tc_done (s:ByteArray) (n:Nat) (r:Est.Rd) (vars:List ByteArray) (ts cs:List Int) (h:r.bad ≠ 0):tc s n r vars ts cs = cs:=by
 cases n with
 | zero => rfl
 | succ n => unfold tc;rw [if_neg h]
theorem tc_step (s:ByteArray) (n:Nat) (r r2:Est.Rd) (vars:List ByteArray) (ts cs:List Int) (h:r.bad = 0) (h2:(if 3 <= ts.length then r.fail 3 r.g.a else r) = r2) :
  tc s (n + 1) r vars ts cs = if (tR s r2 vars).isB 44 then tc s n ((tR s r2 vars).is s 44) (tVars s r2 vars) (ts ++ [tV s r2 vars]) (cs ++ [tN r2]) else cs ++ [tN r2]:=by
 subst h2;rw [tc,if_pos h]
theorem bad_stays {s:ByteArray} {r:Est.Rd} (h:r.bad ≠ 0) (vars:List ByteArray):(tR s r vars).bad ≠ 0:=by
 have e1:r.isB 110 = false:=isB_bad h
 have e2:r.must s 118 = r:=by unfold Est.Rd.must;rw [isB_bad h];unfold Est.Rd.fail;rw [if_neg h];rfl
 rw [(t_bad e1 (by rw [e2];exact h)).1,e2];exact h
theorem atom_any (rb qb base:Nat) (s:ByteArray) (r:Est.Rd) (vars:List ByteArray) (hv:Value) (l:List AD) (w:World)
  (hst:ASt w rb qb base s r vars hv l) (hl:vars.length <= 900) (hll:l.length <= 100) (hB:base <= w.heap.size) (hs:s.size <= maxLen) (hok:Ok s r) :
  Calls Tryz.prog 96 #[.pointer (some ⟨rb,0,none⟩)] w fun x w' => x = .returned (.tuple #[]) /\ APost w w' rb qb base s r vars hv l:=by
 have HS:Hid (s.size <= maxLen):=hs
 unfold maxLen at hs
 obtain ⟨⟨av,hvst,harow⟩,hats⟩:=hst
 have h:=hvst.rd
 obtain ⟨vv,hq,hvrow⟩:=hvst.q
 have c2:=h.cell2
 have c4:=h.cell4
 have c5:=h.cell5
 have c7:=h.cell7
 have q2:w.cell? ⟨qb,2,none⟩ = some av:=by simp [World.cell?,hq]
 have lr:rb < w.heap.size:=h.lt
 have lq:qb < w.heap.size:=lt_of_block hq
 obtain ⟨ava,acap,hav⟩:=own_form harow
 have M0:MSt w (w.alloc (.cells #[.string ⟨#[]⟩,.slice none 0 0,.int .i64 r.g.a] 138)) rb qb base w.heap.size s r vars hv av l ⟨#[]⟩ r.g.a (.slice none 0 0) [] :=
  ⟨hvst.alloc _,harow.alloc _,fun d hd => (hats d hd).alloc _,fun k hk => (harow.lt k hk).2,fun d hd k hk => ((hats d hd).lt k hk).2,heap_alloc_new _ _,World.ownsRow_nil _ _ _ _,(Keeps.refl _ _).alloc _,Nat.le_refl _,hB⟩
 subst hav
 go_enter Tryz.func96,Tryz.ntmps96
 go_upto_region 1 with fail
 go_cut [35] (fun c wx => c = .bool (r.isB 114 && decide (4 <= l.length)) /\ wx = w.alloc (.cells #[.string ⟨#[]⟩,.slice none 0 0,.int .i64 r.g.a] 138))
 case first =>
  cases hb:r.isB 114
  ·rcases isB_false hb with h1 | ⟨h1,h2⟩
   all_goals
    try have h2':((r.g.k.toNat:Int) == 114) = false:=h2
    try clear h2
    have HB:Hid (r.isB 114 = false):=hb
    clear hb
    go_wp2
    go_meet
    exact ⟨val_bool (by rw [HB.out];rfl),rfl⟩
  ·obtain ⟨h1,h2⟩:=isB_true hb
   have h2':((r.g.k.toNat:Int) == 114) = true:=h2
   have HB:Hid (r.isB 114 = true):=hb
   clear hb h2
   go_wp2
   go_meet
   exact ⟨val_bool (by rw [HB.out,Bool.true_and];exact decide_eq_decide.2 (by omega)),rfl⟩
 case rest =>
  obtain ⟨rfl,rfl⟩:=hcut
  go_upto_if 35 with fail
  go_cut [] (fun wx => MSt w wx rb qb base w.heap.size s (aR1 r l.length) vars hv (.slice ava l.length acap) l ⟨#[]⟩ r.g.a (.slice none 0 0) [])
  case first =>
   cases hb:(r.isB 114 && decide (4 <= l.length))
   ·have HR:Hid (aR1 r l.length = r):=by unfold Hid aR1;rw [hb];rfl
    go_wp2
    go_meet
    rw [HR.out];exact M0
   ·have HR:Hid (aR1 r l.length = r.fail 3 r.g.a):=by unfold Hid aR1;rw [hb];rfl
    go_wp2_with fail
    refine (fail_at rb s r _ 3 3 r.g.a _ M0.vst.rd rfl).mono ?_
    rintro e w1 ⟨rfl,hr1,hk1⟩
    have M1:=M0.kept hr1 hk1
    go_wp2
    go_meet
    rw [HR.out];exact M1
  case rest =>
   have hok1:Ok s (aR1 r l.length):=by unfold aR1;split;exact hok.fail _ _;exact hok
   clear M0 c2 c4 c5 c7 q2
   generalize hr1:aR1 r l.length = r1 at hcut hok1
   have HR1:Hid (aR1 r l.length = r1):=hr1
   clear hr1
   go_wp2_with fail
   refine (must_any rb s r1 _ 114 114 _ hcut.vst.rd rfl HS.out hok1.1).mono ?_
   rintro e w1 ⟨rfl,hr1,hk1⟩
   have M1:=hcut.kept hr1 hk1
   have d0:w1.cell? ⟨w.heap.size,0,none⟩ = some (.string ⟨#[]⟩):=by simp [World.cell?,M1.ab]
   have f0:w1.frozen? ⟨w.heap.size,0,none⟩ = false:=by simp [World.frozen?,M1.ab]
   have M2:=M1.named r1.g.t
   go_wp2_with fail
   refine (must_any rb s _ _ 40 40 _ M2.vst.rd rfl HS.out (hok1.must 114).1).mono ?_
   rintro e w2 ⟨rfl,hr2,hk2⟩
   have M3:=M2.kept hr2 hk2
   have hok3:=(hok1.must 114).must 40
   clear M1 M2 hr1 hr2 hk1 hk2 d0 f0 hcut
   generalize hTL:tl s 5 ((r1.must s 114).must s 40) vars [] = TL
   have HT:Hid (tl s 5 ((r1.must s 114).must s 40) vars [] = TL):=hTL
   clear hTL
   obtain ⟨TC,hTC⟩:∃ t,Go.Proofs.YtondkinefmjpjaaGreat.K.tc s 5 ((r1.must s 114).must s 40) vars [] [] = t:=⟨_,rfl⟩
   have HC:Hid (Go.Proofs.YtondkinefmjpjaaGreat.K.tc s 5 ((r1.must s 114).must s 40) vars [] [] = TC):=hTC
   clear hTC
   go_upto_block 0 with fail
   go_cut [3] (fun _ wx => ∃ r' vars' tv ts,LInv w wx rb qb base w.heap.size s hv (.slice ava l.length acap) l r1.g.t r.g.a vars.length TL TC false r' vars' tv ts)
   case first =>
    go_wp2_with fail
    go_loopw [3] (fun v wr => ∃ m r' vars' tv ts,v = .bool m /\ LInv w wr rb qb base w.heap.size s hv (.slice ava l.length acap) l r1.g.t r.g.a vars.length TL TC m r' vars' tv ts) (fun _ wr => 5 - slen (wr.cell? ⟨w.heap.size,1,none⟩))
    case atStart => exact ⟨true,_,_,_,[],rfl,M3,hok3,by simp,by simp,by simp,by simpa using HT.out.symm,by simpa using HC.out.symm⟩
    case round =>
     obtain ⟨m,r',vars',tv,ts,rfl,hI⟩:=hrel
     have M:=hI.mst
     have d5:=M.vst.rd.cell5
     cases m
     ·go_wp2_with fail
      go_meet
      exact ⟨r',vars',tv,ts,hI⟩
     ·cases hbad:((r'.bad:Int) == 0)
      ·have HBAD:Hid (r'.bad ≠ 0):=by have:=beq_eq_false_iff_ne.1 hbad;unfold Hid;omega
       go_wp2_with fail
       go_meet
       exact ⟨r',vars',tv,ts,⟨hI.mst,hI.ok,hI.len,hI.full,hI.nvs,by rw [hI.tl];simp [tl_done _ _ _ _ _ HBAD.out],by rw [hI.tc];simp [tc_done _ _ _ _ _ _ HBAD.out]⟩⟩
      ·have HBAD:Hid (r'.bad = 0):=by have:=beq_iff_eq.1 hbad;unfold Hid;omega
       have hlen:ts.length <= 3:=by
        rcases Nat.lt_or_ge ts.length 4 with h | h
        ·omega
        ·exact absurd HBAD.out (hI.full (by have:=hI.len;omega))
       obtain ⟨ta,tcap,htv⟩:=own_form M.own
       have hab:=M.ab
       have g1:wr.cell? ⟨w.heap.size,1,none⟩ = some tv:=by simp [World.cell?,hab]
       subst htv
       go_upto_if 56 with fail
       go_cut [] (fun wx => MSt w wx rb qb base w.heap.size s (if 3 <= ts.length then r'.fail 3 r'.g.a else r') vars' hv (.slice ava l.length acap) l r1.g.t r.g.a (.slice ta ts.length tcap) ts)
       case first =>
        have d4:=M.vst.rd.cell4
        by_cases h3:3 <= ts.length
        ·go_wp2_with fail
         refine (fail_at rb s r' _ 3 3 r'.g.a _ M.vst.rd rfl).mono ?_
         rintro e w1 ⟨rfl,hr1,hk1⟩
         have M1:=M.kept hr1 hk1
         go_wp2
         go_meet
         rw [if_pos h3];exact M1
        ·go_wp2
         go_meet
         rw [if_neg h3];exact M
       case rest =>
        have hok2:Ok s (if 3 <= ts.length then r'.fail 3 r'.g.a else r'):=by split;exact hI.ok.fail _ _;exact hI.ok
        have HTL:=hI.tl
        rw [if_pos rfl,show 5 - ts.length = (4 - ts.length) + 1 by omega,tl_step s _ r' _ vars' _ HBAD.out (by rw [List.length_map])] at HTL
        have HTL':Hid _:=HTL
        have HTC:=hI.tc
        rw [if_pos rfl,show 5 - ts.length = (4 - ts.length) + 1 by omega,tc_step s _ r' _ vars' _ _ HBAD.out (by rw [List.length_map])] at HTC
        have HTC':Hid _:=HTC
        clear HTC
        have hfull:Hid (3 <= ts.length -> (if 3 <= ts.length then r'.fail 3 r'.g.a else r').bad ≠ 0):=by
         intro h3;rw [if_pos h3,Est.Rd.fail,if_pos HBAD.out];simp
        have hm0:Hid (slen (wr.cell? ⟨w.heap.size,1,none⟩) = ts.length):=by unfold Hid;rw [g1];rfl
        clear HTL d5 hbad M g1 hab
        have hnv:=hI.nvs
        clear hI
        generalize hr2:(if 3 <= ts.length then r'.fail 3 r'.g.a else r') = r2 at hcut hok2 HTL' HTC' hfull
        clear hr2
        have hnv2:vars'.length <= 1000:=by omega
        have hB2:base <= wc.heap.size:=Nat.le_trans hB hcut.kp.size
        obtain ⟨i0,hi,hz0,hz1,hz2⟩:=info_parts Tryz.info203
        have HI:Hid _:=hi
        have HZ0:Hid _:=hz0
        have HZ1:Hid _:=hz1
        have HZ2:Hid _:=hz2
        clear hi hz0 hz1 hz2
        have g1:wc.cell? ⟨w.heap.size,1,none⟩ = some (.slice ta ts.length tcap):=by simp [World.cell?,hcut.ab]
        go_upto_region 9 with fail
        go_cut [] (fun wx => ∃ tv',MSt w wx rb qb base w.heap.size s (tR s r2 vars') (tVars s r2 vars') hv (.slice ava l.length acap) l r1.g.t r.g.a tv' (ts ++ [(tV s r2 vars',tN r2)]))
        case first =>
         go_region_law (first | (refine step_append_own rfl (.tmp 65) (.tmp 68) 136 rfl (w.heap.size + 1) 203 i0 (.agg #[.int .i64 0,.int .i64 0]) 2 16 Tryz.underlying136 HI.out HZ0.out HZ1.out HZ2.out rfl (by decide) (.slice ta ts.length tcap) _ _ rfl (by exact (M3'.own.alloc _)) ⟨w1.heap.size,0,none⟩ 1 1 [.int .i64 (tV s r2 vars'),.int .i64 (tN r2)] rfl rfl (two_new _ _ _ _) (by intro u hu;simp at hu;rcases hu with rfl | rfl <;> rfl) (by unfold maxLen;omega) (by omega) (by have:=M3'.lt.2.2;simp;omega) ?_;intro v' w2 hown2 hgrow2;obtain ⟨va2,cap2,rfl⟩:=own_form hown2;have M4:=(M3'.alloc _).appended hgrow2 _ (ts ++ [(tV s r2 vars',tN r2)]) (by rw [tcells_snoc,List.length_append];exact hown2);have g5:w2.cell? ⟨w.heap.size,1,none⟩ = some (.slice ta ts.length tcap):=(by simp [World.cell?,((M3'.alloc _).grown hgrow2).1]);have g6:w2.frozen? ⟨w.heap.size,1,none⟩ = false:=(by simp [World.frozen?,((M3'.alloc _).grown hgrow2).1])) | (go_simp;go_wp2_with (go_at_call 128;refine (term_any rb qb base s r2 vars' hv _ _ (by exact hcut.drew.vst) hnv2 (by exact hB2) HS.out hok2.1 hok2.2.2).mono ?_;rintro e w1 ⟨rfl,hst1,hk1⟩;have M3':=hcut.drew.termed hst1 hk1;have g2:w1.cell? ⟨w.heap.size,1,none⟩ = some (.slice ta ts.length tcap):=(by simp [World.cell?,M3'.ab]);have l3:w.heap.size < w1.heap.size:=M3'.lt.2.2)))
         all_goals (go_wp2;go_meet)
         all_goals exact ⟨_,M4⟩
        case rest =>
         obtain ⟨tv',M5⟩:=hcut
         have hok5:=hok2.tR vars'
         go_wp2_with fail
         refine (is_any rb s _ _ 44 44 _ M5.vst.rd rfl HS.out hok5.1).mono ?_
         rintro e w6 ⟨rfl,hr6,hk6⟩
         have M6:=M5.kept hr6 hk6
         have hL:=tVars_le s r2 vars'
         obtain ⟨ta6,tcap6,htv6⟩:=own_form M6.own
         have hm:Hid (slen (w6.cell? ⟨w.heap.size,1,none⟩) = ts.length + 1):=by
          unfold Hid
          have:w6.cell? ⟨w.heap.size,1,none⟩ = some tv':=by simp [World.cell?,M6.ab]
          rw [this,htv6];simp [slen]
         go_wp2
         go_roundw
         case rel =>
          refine ⟨_,_,_,_,ts ++ [(tV s r2 vars',tN r2)],rfl,M6,hok5.is 44,by simp;omega,?_,by simp;omega,?_,?_⟩
          ·intro h4
           have h3:ts.length = 3:=by simpa using h4
           have hb2:=bad_stays (s:=s) (hfull.out (by omega)) vars'
           unfold Est.Rd.is;rw [isB_bad hb2];exact hb2
          ·rw [HTL'.out]
           cases hx:(tR s r2 vars').isB 44
           ·simp [Est.Rd.is,hx]
           ·simp [show 5 - (ts.length + 1) = 4 - ts.length by omega]
          ·rw [HTC'.out]
           cases hx:(tR s r2 vars').isB 44
           ·simp
           ·simp [show 5 - (ts.length + 1) = 4 - ts.length by omega]
         case measure => rw [hm.out,hm0.out];omega
   case rest =>
    obtain ⟨r4,vars4,tv,ts,hI⟩:=hcut
    have M4:=hI.mst
    go_wp2_with fail
    refine (must_any rb s r4 _ 41 41 _ M4.vst.rd rfl HS.out hI.ok.1).mono ?_
    rintro e w5 ⟨rfl,hr5,hk5⟩
    have M5:=M4.kept hr5 hk5
    have hlen4:=hI.len
    have HF:Hid (TL = (r4,vars4,ts.map Prod.fst)):=by have:=hI.tl;simpa [Hid] using this
    have HFC:Hid (TC = ts.map Prod.snd):=by have:=hI.tc;simpa [Hid] using this
    have hok5:=hI.ok.must 41
    clear hI M4 hr5 hk5
    generalize hr5':r4.must s 41 = r5 at M5 hok5
    have HR5:Hid (r4.must s 41 = r5):=hr5'
    clear hr5'
    obtain ⟨ta,tcap,htv⟩:=own_form M5.own
    subst htv
    go_upto_block 2 with fail
    go_cut [4,5] (fun _ _ wx => MSt w wx rb qb base w.heap.size s (aShape r5 l r1.g.t ts.length r.g.a l.length) vars4 hv (.slice ava l.length acap) l r1.g.t r.g.a (.slice ta ts.length tcap) ts)
    case first =>
     go_wp2_with fail
     go_loopw [4,5] (fun i _ wr => ∃ k:Nat,k <= l.length /\ i = .int .i64 k /\ MSt w wr rb qb base w.heap.size s (aShape r5 l r1.g.t ts.length r.g.a k) vars4 hv (.slice ava l.length acap) l r1.g.t r.g.a (.slice ta ts.length tcap) ts) (fun i _ _ => l.length - (intOf i).toNat)
     case atStart => exact ⟨0,Nat.zero_le _,rfl,M5⟩
     case round =>
      obtain ⟨k,hk,rfl,M⟩:=hrel
      have d7:=M.vst.rd.cell7
      have d5:=M.vst.rd.cell5
      obtain ⟨vv6,hq6,_⟩:=M.vst.q
      have q2:wr.cell? ⟨qb,2,none⟩ = some (.slice ava l.length acap):=by simp [World.cell?,hq6]
      generalize hr6:aShape r5 l r1.g.t ts.length r.g.a k = r6 at M d5
      have HR6:Hid (aShape r5 l r1.g.t ts.length r.g.a k = r6):=hr6
      clear hr6
      by_cases hlt:k < l.length
      ·cases hbad:((r6.bad:Int) == 0)
       ·have HBAD:Hid (r6.bad ≠ 0):=by have:=beq_eq_false_iff_ne.1 hbad;unfold Hid;omega
        go_wp2_with fail
        go_meet
        rw [aShape_done hk (by rw [HR6.out];exact HBAD.out),HR6.out];exact M
       ·have HBAD:Hid (r6.bad = 0):=by have:=beq_iff_eq.1 hbad;unfold Hid;omega
        obtain ⟨g,cap',he⟩:=own_some M.arow (by omega)
        simp only [Value.slice.injEq,true_and] at he
        obtain ⟨rfl,rfl⟩:=he
        obtain ⟨x0,x1,x2⟩:=acells_at l k hlt
        have y0:=(M.arow.cellAt (k * 3) (by omega)).trans x0
        have y1:=(M.arow.cellAt (k * 3 + 1) (by omega)).trans x1
        have y2:=(M.arow.cellAt (k * 3 + 2) (by omega)).trans x2
        obtain ⟨ba,bcap,hbt⟩:=own_form (M.ats l[k] (List.getElem_mem hlt))
        rw [hbt] at y1
        clear x0 x1 x2 hbt
        have a0:wr.cell? ⟨w.heap.size,0,none⟩ = some (.string r1.g.t):=by simp [World.cell?,M.ab]
        have a1:wr.cell? ⟨w.heap.size,1,none⟩ = some (.slice ta ts.length tcap):=by simp [World.cell?,M.ab]
        have a2:wr.cell? ⟨w.heap.size,2,none⟩ = some (.int .i64 r.g.a):=by simp [World.cell?,M.ab]
        have l3:w.heap.size < wr.heap.size:=M.lt.2.2
        have HST:Hid (aShape r5 l r1.g.t ts.length r.g.a (k + 1) = if clash r1.g.t ts.length l[k] then r6.fail 6 r.g.a else r6):=by
         unfold Hid;rw [aShape_step hlt (by rw [HR6.out];exact HBAD.out),HR6.out]
        cases hc1:(l[k].rel.toList == r1.g.t.toList)
        ·have HCL:Hid (clash r1.g.t ts.length l[k] = false):=by unfold Hid clash;rw [hc1];rfl
         go_wp2_with fail
         go_roundw
         case rel => exact ⟨k + 1,by omega,by go_num,by rw [HST.out,HCL.out];exact M.alloc _⟩
         case measure => simp [intOf];omega
        ·cases hc2:((l[k].ts.length:Int) != (ts.length:Int))
         ·have HCL:Hid (clash r1.g.t ts.length l[k] = false):=by
           unfold Hid clash;rw [hc1,Bool.true_and]
           simp only [bne_eq_false_iff_eq] at hc2 ⊢;omega
          go_wp2_with fail
          go_roundw
          case rel => exact ⟨k + 1,by omega,by go_num,by rw [HST.out,HCL.out];exact M.alloc _⟩
          case measure => simp [intOf];omega
         ·have HCL:Hid (clash r1.g.t ts.length l[k] = true):=by
           unfold Hid clash;rw [hc1,Bool.true_and]
           simp only [bne_iff_ne] at hc2 ⊢;omega
          go_wp2_with fail
          refine (fail_at rb s r6 _ 6 6 r.g.a _ (M.alloc _).vst.rd rfl).mono ?_
          rintro e w8 ⟨rfl,hr8,hk8⟩
          have M8:=(M.alloc _).kept hr8 hk8
          go_wp2
          go_roundw
          case rel => exact ⟨k + 1,by omega,by go_num,by rw [HST.out,HCL.out];exact M8⟩
          case measure => simp [intOf];omega
      ·go_wp2_with fail
       go_meet
       have e:aShape r5 l r1.g.t ts.length r.g.a l.length = r6:=by
        have hkk:l.length = k:=by omega
        rw [hkk];exact HR6.out
       rw [e];exact M
    case rest =>
     have M9:=hcut
     clear M5 hcut M3
     generalize hr9:aShape r5 l r1.g.t ts.length r.g.a l.length = r9 at M9
     have HR9:Hid (aShape r5 l r1.g.t ts.length r.g.a l.length = r9):=hr9
     clear hr9
     have HAT:Hid (aT s r l.length vars = (r4,vars4,ts.map Prod.fst)):=by unfold Hid aT aR3;rw [HR1.out,HT.out,HF.out]
     have HAF:Hid (aFin s r l vars = r9):=by unfold Hid aFin;rw [HAT.out,HR1.out];show aShape (r4.must s 41) l r1.g.t (ts.map Prod.fst).length r.g.a l.length = r9;rw [HR5.out,List.length_map,HR9.out]
     have HAC:Hid (aC s r l.length vars = ts.map Prod.snd):=by unfold Hid aC aR3;rw [HR1.out,HC.out,HFC.out]
     have d7:=M9.vst.rd.cell7
     obtain ⟨vv9,hq9,_⟩:=M9.vst.q
     have q2:wc.cell? ⟨qb,2,none⟩ = some (.slice ava l.length acap):=by simp [World.cell?,hq9]
     have a0:wc.cell? ⟨w.heap.size,0,none⟩ = some (.string r1.g.t):=by simp [World.cell?,M9.ab]
     have a1:wc.cell? ⟨w.heap.size,1,none⟩ = some (.slice ta ts.length tcap):=by simp [World.cell?,M9.ab]
     have a2:wc.cell? ⟨w.heap.size,2,none⟩ = some (.int .i64 r.g.a):=by simp [World.cell?,M9.ab]
     have l1:rb < wc.heap.size:=M9.lt.1
     have l2:qb < wc.heap.size:=M9.lt.2.1
     have l3:w.heap.size < wc.heap.size:=M9.lt.2.2
     have hB9:base <= wc.heap.size:=Nat.le_trans hB M9.kp.size
     obtain ⟨i0,hi,hz0,hz1,hz2⟩:=info_parts Tryz.info138
     have HI:Hid _:=hi
     have HZ0:Hid _:=hz0
     have HZ1:Hid _:=hz1
     have HZ2:Hid _:=hz2
     clear hi hz0 hz1 hz2 hq9
     go_wp2_with fail
     go_region_law (refine step_append_own rfl (.tmp 132) (.tmp 134) 95 rfl base 138 i0 (.agg #[.string ⟨#[]⟩,.slice none 0 0,.int .i64 0]) 3 48 Tryz.underlying95 HI.out HZ0.out HZ1.out HZ2.out rfl (by decide) (.slice ava l.length acap) _ _ rfl (by exact (M9.alloc _).drew.arow) ⟨wc.heap.size,0,none⟩ 1 1 [.string r1.g.t,.slice ta ts.length tcap,.int .i64 r.g.a] rfl rfl (three_new _ _ _ _ _) (by intro u hu;simp at hu;rcases hu with rfl | rfl | rfl <;> rfl) (by unfold maxLen;omega) (by omega) (by simp;omega) ?_;intro v' w2 hown2 hgrow2;obtain ⟨va2,cap2,rfl⟩:=own_form hown2;have FIN:=(M9.alloc _).drew.finish hgrow2 _ hown2;have gq:=((M9.alloc _).drew.grownA hgrow2);obtain ⟨vv10,hq10,_⟩:=(M9.alloc (.cells #[.string r1.g.t,.slice ta ts.length tcap,.int .i64 r.g.a] 138)).drew.vst.q;have e2:w2.cell? ⟨qb,2,none⟩ = some (.slice ava l.length acap):=(by simp [World.cell?,gq.1.trans hq10]);have e3:w2.frozen? ⟨qb,2,none⟩ = false:=(by simp [World.frozen?,gq.1.trans hq10]);have e4:w2.cell? ⟨rb,7,none⟩ = some (.pointer (some ⟨qb,0,none⟩)):=(by simp [World.cell?,gq.2.trans (M9.alloc _).drew.vst.rd.blk,rdBlk,rdCells]);clear gq hq10)
     all_goals go_end0
     all_goals
      refine ⟨rfl,⟨⟨r1.g.t,.slice ta ts.length tcap,ts,r.g.a⟩,?_,?_,?_,rfl,?_⟩,FIN.2⟩
      ·rw [HAF.out,HAT.out];exact FIN.1
      ·rw [HR1.out]
      ·rw [HAT.out]
      ·rw [HAC.out]
end Go.Proofs.YtondkinefmjpjaaGreat.K
