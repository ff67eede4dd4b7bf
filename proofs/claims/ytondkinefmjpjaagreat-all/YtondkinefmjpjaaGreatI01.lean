import Derived.Test.YtondkinefmjpjaaGreatProg
import Derived.WalkKit
import Derived.WalkSpells
import Derived.WalkLawsBesides
set_option maxHeartbeats 800000
namespace Est
def low (c:UInt8):Bool:=97 <= c && c <= 122
def upp (c:UInt8):Bool:=65 <= c && c <= 90
def dig (c:UInt8):Bool:=48 <= c && c <= 57
def wrd (c:UInt8):Bool:=low c || upp c || dig c
def blank (c:UInt8):Bool:=c == 32 || c == 10
def skip (s:ByteArray) (i:Nat):Nat :=
 if h:i < s.size then (if blank s[i] then skip s (i + 1) else i) else i
def wend (s:ByteArray) (i:Nat):Nat :=
 if h:i < s.size then (if wrd s[i] then wend s (i + 1) else i) else i
theorem skip_ge (s:ByteArray) (i:Nat):i <= skip s i:=by
 rw [skip];split
 ·split
  ·have:=skip_ge s (i + 1);omega
  ·omega
 ·omega
theorem skip_le (s:ByteArray) (i:Nat) (h:i <= s.size):skip s i <= s.size:=by
 rw [skip];split
 ·split
  ·exact skip_le s (i + 1) (by omega)
  ·omega
 ·omega
theorem wend_ge (s:ByteArray) (i:Nat):i <= wend s i:=by
 rw [wend];split
 ·split
  ·have:=wend_ge s (i + 1);omega
  ·omega
 ·omega
theorem wend_le (s:ByteArray) (i:Nat) (h:i <= s.size):wend s i <= s.size:=by
 rw [wend];split
 ·split
  ·exact wend_le s (i + 1) (by omega)
  ·omega
 ·omega
theorem skip_step (s:ByteArray) (i:Nat) (h:i < s.size) (b:blank s[i] = true):skip s (i + 1) = skip s i:=by
 rw [skip.eq_def s i,dif_pos h,if_pos b]
theorem skip_stop (s:ByteArray) (i:Nat) (h:i < s.size) (b:blank s[i] = false):skip s i = i:=by
 rw [skip.eq_def s i,dif_pos h,if_neg (by simp [b])]
theorem skip_end (s:ByteArray) (i:Nat) (h:¬ i < s.size):skip s i = i:=by
 rw [skip.eq_def s i,dif_neg h]
theorem wend_step (s:ByteArray) (i:Nat) (h:i < s.size) (b:wrd s[i] = true):wend s (i + 1) = wend s i:=by
 rw [wend.eq_def s i,dif_pos h,if_pos b]
theorem wend_stop (s:ByteArray) (i:Nat) (h:i < s.size) (b:wrd s[i] = false):wend s i = i:=by
 rw [wend.eq_def s i,dif_pos h,if_neg (by simp [b])]
theorem wend_end (s:ByteArray) (i:Nat) (h:¬ i < s.size):wend s i = i:=by
 rw [wend.eq_def s i,dif_neg h]
def digs (w:ByteArray) (i:Nat):Bool :=
 if h:i < w.size then (if dig w[i] then digs w (i + 1) else false) else true
def tail (w:ByteArray) (i:Nat):Bool :=
 if h:i < w.size then (if low w[i] || dig w[i] then tail w (i + 1) else false) else true
theorem digs_step (w:ByteArray) (i:Nat) (h:i < w.size) (b:dig w[i] = true):digs w (i + 1) = digs w i:=by
 rw [digs.eq_def w i,dif_pos h,if_pos b]
theorem digs_stop (w:ByteArray) (i:Nat) (h:i < w.size) (b:dig w[i] = false):digs w i = false:=by
 rw [digs.eq_def w i,dif_pos h,if_neg (by simp [b])]
theorem digs_end (w:ByteArray) (i:Nat) (h:¬ i < w.size):digs w i = true:=by
 rw [digs.eq_def w i,dif_neg h]
theorem tail_step (w:ByteArray) (i:Nat) (h:i < w.size) (b:(low w[i] || dig w[i]) = true):tail w (i + 1) = tail w i:=by
 rw [tail.eq_def w i,dif_pos h,if_pos b]
theorem tail_stop (w:ByteArray) (i:Nat) (h:i < w.size) (b:(low w[i] || dig w[i]) = false):tail w i = false:=by
 rw [tail.eq_def w i,dif_pos h,if_neg (by simp [b])]
theorem tail_end (w:ByteArray) (i:Nat) (h:¬ i < w.size):tail w i = true:=by
 rw [tail.eq_def w i,dif_neg h]
def fst (w:ByteArray):UInt8:=if h:0 < w.size then w[0] else 0
def fairN (w:ByteArray):Bool:=digs w 0 && (decide (w.size <= 3) && (decide (w.size = 1) || fst w != 48))
def fairW (w:ByteArray):Bool:=decide (w.size <= 4) && tail w 1
def fair (k:UInt8) (w:ByteArray):Bool:=if k == 110 then fairN w else fairW w
structure Sg where
 k:UInt8
 t:ByteArray
 a:Nat
 n:Nat
def wkind (w:ByteArray):UInt8:=if upp (fst w) then 114 else if dig (fst w) then 110 else 118
def punct (c:UInt8):Bool:=c == 40 || c == 41 || c == 44 || c == 58 || c == 46
def sign (s:ByteArray) (i:Nat):Sg :=
 if h:skip s i < s.size then
  if skip s i < wend s (skip s i) then
   if fair (wkind (s.extract (skip s i) (wend s (skip s i)))) (s.extract (skip s i) (wend s (skip s i))) then
    ⟨wkind (s.extract (skip s i) (wend s (skip s i))),s.extract (skip s i) (wend s (skip s i)),skip s i,wend s (skip s i)⟩
   else ⟨63,ByteArray.empty,skip s i,skip s i⟩
  else if punct s[skip s i] then ⟨s[skip s i],s.extract (skip s i) (skip s i + 1),skip s i,skip s i + 1⟩
  else ⟨63,ByteArray.empty,skip s i,skip s i⟩
 else ⟨0,ByteArray.empty,skip s i,skip s i⟩
structure Rd where
 g:Sg
 bad:Nat
 bat:Nat
def Rd.fail (r:Rd) (e a:Nat):Rd:=if r.bad = 0 then { r with bad:=e,bat:=a } else r
def Rd.next (s:ByteArray) (r:Rd):Rd:={ r with g:=sign s r.g.n }
def Rd.isB (r:Rd) (k:UInt8):Bool:=decide (r.bad = 0) && r.g.k == k
def Rd.is (s:ByteArray) (r:Rd) (k:UInt8):Rd:=if r.isB k then r.next s else r
def Rd.must (s:ByteArray) (r:Rd) (k:UInt8):Rd:=if r.isB k then r.next s else r.fail 2 r.g.a
theorem sign_le (s:ByteArray) (i:Nat) (h:i <= s.size):(sign s i).n <= s.size /\ (sign s i).a <= s.size /\ (sign s i).t.size <= s.size:=by
 have h1:=skip_le s i h
 have h2:=wend_le s _ h1
 unfold sign
 split
 ·split
  ·split
   ·exact ⟨h2,h1,by simp;omega⟩
   ·exact ⟨h1,h1,by simp⟩
  ·split
   ·exact ⟨by simp;omega,h1,by simp;omega⟩
   ·exact ⟨h1,h1,by simp⟩
 ·exact ⟨h1,h1,by simp⟩
def noUp (w:ByteArray) (i:Nat):Bool :=
 if h:i < w.size then (if upp w[i] then false else noUp w (i + 1)) else true
theorem noUp_step (w:ByteArray) (i:Nat) (h:i < w.size) (b:upp w[i] = false):noUp w (i + 1) = noUp w i:=by
 rw [noUp.eq_def w i,dif_pos h,if_neg (by simp [b])]
theorem noUp_stop (w:ByteArray) (i:Nat) (h:i < w.size) (b:upp w[i] = true):noUp w i = false:=by
 rw [noUp.eq_def w i,dif_pos h,if_pos b]
theorem noUp_end (w:ByteArray) (i:Nat) (h:¬ i < w.size):noUp w i = true:=by
 rw [noUp.eq_def w i,dif_neg h]
def nameB (w:ByteArray):Bool:=decide (w.size <= 4) && !dig (fst w) && noUp w 1
def wordK (w:ByteArray):Nat:=if fairN w then 4 else if nameB w then (if low (fst w) then 2 else 3) else 0
def signK (c:UInt8):Nat:=if c == 40 then 5 else if c == 41 then 6 else if c == 44 then 7 else if c == 58 then 8 else if c == 46 then 9 else 0
structure Pc where
 k:Nat
 t:ByteArray
 a:Nat
def piece (s:ByteArray) (i:Nat):Pc :=
 if h:skip s i < s.size then
  if skip s i < wend s (skip s i) then ⟨wordK (s.extract (skip s i) (wend s (skip s i))),s.extract (skip s i) (wend s (skip s i)),skip s i⟩
  else ⟨signK s[skip s i],s.extract (skip s i) (skip s i + 1),skip s i⟩
 else ⟨1,ByteArray.empty,skip s i⟩
end Est
namespace Go.Proofs.YtondkinefmjpjaaGreat.K
open Go.RowKit
theorem low_iff (c:UInt8):Est.low c = (decide (97 <= (c.toNat:Int)) && decide ((c.toNat:Int) <= 122)):=by
 unfold Est.low;rw [Bool.eq_iff_iff];simp [UInt8.le_iff_toNat_le];omega
theorem upp_iff (c:UInt8):Est.upp c = (decide (65 <= (c.toNat:Int)) && decide ((c.toNat:Int) <= 90)):=by
 unfold Est.upp;rw [Bool.eq_iff_iff];simp [UInt8.le_iff_toNat_le];omega
theorem dig_iff (c:UInt8):Est.dig c = (decide (48 <= (c.toNat:Int)) && decide ((c.toNat:Int) <= 57)):=by
 unfold Est.dig;rw [Bool.eq_iff_iff];simp [UInt8.le_iff_toNat_le];omega
theorem ret_bool {a b:Bool} (h:a = b):Ending.returned (.bool a) = .returned (.bool b):=by rw [h]
theorem lower_any (c:UInt8) (w:World) :
  Calls Tryz.prog 162 #[.int .u8 (c.toNat:Int)] w fun e w' => e = .returned (.bool (Est.low c)) /\ w' = w:=by
 go_enter Tryz.func162,Tryz.ntmps162
 go_wp2
 all_goals go_ret
 ·exact ⟨ret_bool (by rw [low_iff,decide_eq_true ‹97 <= (c.toNat:Int)›];rfl),rfl⟩
 ·exact ⟨ret_bool (by rw [low_iff,decide_eq_false (by omega)];rfl),rfl⟩
theorem upper_any (c:UInt8) (w:World) :
  Calls Tryz.prog 163 #[.int .u8 (c.toNat:Int)] w fun e w' => e = .returned (.bool (Est.upp c)) /\ w' = w:=by
 go_enter Tryz.func163,Tryz.ntmps163
 go_wp2
 all_goals go_ret
 ·exact ⟨ret_bool (by rw [upp_iff,decide_eq_true ‹65 <= (c.toNat:Int)›];rfl),rfl⟩
 ·exact ⟨ret_bool (by rw [upp_iff,decide_eq_false (by omega)];rfl),rfl⟩
theorem digit_any (c:UInt8) (w:World) :
  Calls Tryz.prog 164 #[.int .u8 (c.toNat:Int)] w fun e w' => e = .returned (.bool (Est.dig c)) /\ w' = w:=by
 go_enter Tryz.func164,Tryz.ntmps164
 go_wp2
 all_goals go_ret
 ·exact ⟨ret_bool (by rw [dig_iff,decide_eq_true ‹48 <= (c.toNat:Int)›];rfl),rfl⟩
 ·exact ⟨ret_bool (by rw [dig_iff,decide_eq_false (by omega)];rfl),rfl⟩
theorem byte_ne (c:UInt8) (n:UInt8):(!((c.toNat:Int) == (n.toNat:Int))) = (c != n):=by
 rw [Bool.eq_iff_iff];simp [← UInt8.toNat_inj];omega
theorem fst_eq (t:ByteArray) (h:0 < t.size):Est.fst t = t[0]:=by unfold Est.fst;rw [dif_pos h]
theorem fair_num (t:ByteArray) (w:World) (h0:0 < t.size) (ht:t.size <= maxLen) :
  Calls Tryz.prog 165 #[.int .u8 110,.string t] w fun e w' => e = .returned (.bool (Est.fairN t)) /\ w' = w:=by
 unfold maxLen at ht
 go_enter Tryz.func165,Tryz.ntmps165
 go_wp2
 go_loop [5] (fun i => ∃ k:Nat,k <= t.size /\ i = .int .i64 k /\ Est.digs t k = Est.digs t 0) (fun i => t.size - (intOf i).toNat)
 case atStart => exact ⟨0,Nat.zero_le _,rfl,rfl⟩
 case round =>
  obtain ⟨k,hk,rfl,hd⟩:=hrel
  have HD:Hid (Est.digs t k = Est.digs t 0):=hd
  clear hd
  by_cases hlt:k < t.size
  ·by_cases hb:Est.dig t[k] = true
   ·go_wp2_with (go_at_call 164;refine (digit_any _ _).mono ?_;rintro e w' ⟨rfl,rfl⟩)
    go_round
    case rel => exact ⟨k + 1,by omega,by go_num,by rw [Est.digs_step t k hlt hb];exact HD.out⟩
    case measure => simp [intOf];omega
   ·have hb':Est.dig t[k] = false:=by simpa using hb
    clear hb
    go_wp2_with (go_at_call 164;refine (digit_any _ _).mono ?_;rintro e w' ⟨rfl,rfl⟩)
    go_ret
    exact ⟨ret_bool (by unfold Est.fairN;rw [← HD.out,Est.digs_stop t k hlt hb'];rfl),rfl⟩
  ·have HF:Hid (Est.digs t 0 = true):=by rw [Hid,← HD.out,Est.digs_end t k hlt]
   go_wp2
   all_goals go_ret
   ·exact ⟨ret_bool (by unfold Est.fairN;rw [HF.out,decide_eq_true (by omega),decide_eq_true (by omega)];rfl),rfl⟩
   ·refine ⟨ret_bool ?_,rfl⟩
    have hz:¬ t.size = 1:=by omega
    unfold Est.fairN
    rw [HF.out,decide_eq_true (show t.size <= 3 by omega),decide_eq_false hz,fst_eq t h0,← byte_ne,beq_eq_false_iff_ne.2 (show ¬ (t.size:Int) = 1 by omega)]
    simp only [Bool.false_or,Bool.true_and,bne]
    rfl
   ·exact ⟨ret_bool (by unfold Est.fairN;rw [HF.out,decide_eq_false (show ¬ t.size <= 3 by omega)];rfl),rfl⟩
theorem fair_word (c:Int) (t:ByteArray) (w:World) (hc:(c == 110) = false) (ht:t.size <= maxLen) :
  Calls Tryz.prog 165 #[.int .u8 c,.string t] w fun e w' => e = .returned (.bool (Est.fairW t)) /\ w' = w:=by
 unfold maxLen at ht
 by_cases h4:t.size <= 4
 ·go_enter Tryz.func165,Tryz.ntmps165
  go_wp2
  go_loop [6] (fun i => ∃ k:Nat,1 <= k /\ i = .int .i64 k /\ Est.tail t k = Est.tail t 1) (fun i => t.size - (intOf i).toNat)
  case atStart => exact ⟨1,by omega,rfl,rfl⟩
  case round =>
   obtain ⟨k,hk,rfl,hd⟩:=hrel
   have HD:Hid (Est.tail t k = Est.tail t 1):=hd
   clear hd
   by_cases hlt:k < t.size
   ·by_cases hb:(Est.low t[k] || Est.dig t[k]) = true
    ·have HB:Hid ((Est.low t[k] || Est.dig t[k]) = true):=hb
     rw [Bool.or_eq_true] at hb
     rcases hb with hb | hb
     ·go_wp2_with (first | (go_at_call 162;refine (lower_any _ _).mono ?_;rintro e w' ⟨rfl,rfl⟩) | (go_at_call 164;refine (digit_any _ _).mono ?_;rintro e w' ⟨rfl,rfl⟩))
      go_round
      case rel => exact ⟨k + 1,by omega,by go_num,by rw [Est.tail_step t k hlt HB.out];exact HD.out⟩
      case measure => simp [intOf];omega
     ·by_cases hl:Est.low t[k] = true
      ·go_wp2_with (first | (go_at_call 162;refine (lower_any _ _).mono ?_;rintro e w' ⟨rfl,rfl⟩) | (go_at_call 164;refine (digit_any _ _).mono ?_;rintro e w' ⟨rfl,rfl⟩))
       go_round
       case rel => exact ⟨k + 1,by omega,by go_num,by rw [Est.tail_step t k hlt HB.out];exact HD.out⟩
       case measure => simp [intOf];omega
      ·have hl':Est.low t[k] = false:=by simpa using hl
       clear hl
       go_wp2_with (first | (go_at_call 162;refine (lower_any _ _).mono ?_;rintro e w' ⟨rfl,rfl⟩) | (go_at_call 164;refine (digit_any _ _).mono ?_;rintro e w' ⟨rfl,rfl⟩))
       go_round
       case rel => exact ⟨k + 1,by omega,by go_num,by rw [Est.tail_step t k hlt HB.out];exact HD.out⟩
       case measure => simp [intOf];omega
    ·have HB:Hid ((Est.low t[k] || Est.dig t[k]) = false):=by simpa [Hid] using hb
     have hb1:Est.low t[k] = false:=by have:=HB.out;rw [Bool.or_eq_false_iff] at this;exact this.1
     have hb2:Est.dig t[k] = false:=by have:=HB.out;rw [Bool.or_eq_false_iff] at this;exact this.2
     clear hb
     go_wp2_with (first | (go_at_call 162;refine (lower_any _ _).mono ?_;rintro e w' ⟨rfl,rfl⟩) | (go_at_call 164;refine (digit_any _ _).mono ?_;rintro e w' ⟨rfl,rfl⟩))
     go_ret
     exact ⟨ret_bool (by unfold Est.fairW;rw [← HD.out,Est.tail_stop t k hlt HB.out,Bool.and_false]),rfl⟩
   ·go_wp2
    go_ret
    exact ⟨ret_bool (by unfold Est.fairW;rw [← HD.out,Est.tail_end t k hlt,decide_eq_true h4];rfl),rfl⟩
 ·go_enter Tryz.func165,Tryz.ntmps165
  go_wp2
  go_ret
  exact ⟨ret_bool (by unfold Est.fairW;rw [decide_eq_false h4];rfl),rfl⟩
end Go.Proofs.YtondkinefmjpjaaGreat.K
