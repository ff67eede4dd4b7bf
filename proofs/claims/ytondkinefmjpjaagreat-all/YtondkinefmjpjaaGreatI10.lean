import Derived.Deep.RegionWith
import Derived.Test.YtondkinefmjpjaaGreatI01
set_option maxHeartbeats 1000000
namespace Go.Proofs.YtondkinefmjpjaaGreat.K
open Go.RowKit
theorem blank_iff' (c:UInt8):Est.blank c = (((c.toNat:Int) == 32) || ((c.toNat:Int) == 10)):=by
 unfold Est.blank;rw [Bool.eq_iff_iff];simp [← UInt8.toNat_inj];omega
theorem ret_i64 {a b:Int} (h:a = b):Ending.returned (.int .i64 a) = .returned (.int .i64 b):=by rw [h]
theorem byte_eq (c n:UInt8):((c.toNat:Int) == (n.toNat:Int)) = (c == n):=by
 rw [Bool.eq_iff_iff];simp [← UInt8.toNat_inj];omega
theorem isLower_any (c:UInt8) (w:World) :
  Calls Tryz.prog 149 #[.int .u8 (c.toNat:Int)] w fun e w' => e = .returned (.bool (Est.low c)) /\ w' = w:=by
 go_enter Tryz.func149,Tryz.ntmps149
 go_wp2
 all_goals go_ret
 ·exact ⟨ret_bool (by rw [low_iff,decide_eq_true ‹97 <= (c.toNat:Int)›];rfl),rfl⟩
 ·exact ⟨ret_bool (by rw [low_iff,decide_eq_false (by omega)];rfl),rfl⟩
theorem isUpper_any (c:UInt8) (w:World) :
  Calls Tryz.prog 150 #[.int .u8 (c.toNat:Int)] w fun e w' => e = .returned (.bool (Est.upp c)) /\ w' = w:=by
 go_enter Tryz.func150,Tryz.ntmps150
 go_wp2
 all_goals go_ret
 ·exact ⟨ret_bool (by rw [upp_iff,decide_eq_true ‹65 <= (c.toNat:Int)›];rfl),rfl⟩
 ·exact ⟨ret_bool (by rw [upp_iff,decide_eq_false (by omega)];rfl),rfl⟩
theorem isDigit_any (c:UInt8) (w:World) :
  Calls Tryz.prog 151 #[.int .u8 (c.toNat:Int)] w fun e w' => e = .returned (.bool (Est.dig c)) /\ w' = w:=by
 go_enter Tryz.func151,Tryz.ntmps151
 go_wp2
 all_goals go_ret
 ·exact ⟨ret_bool (by rw [dig_iff,decide_eq_true ‹48 <= (c.toNat:Int)›];rfl),rfl⟩
 ·exact ⟨ret_bool (by rw [dig_iff,decide_eq_false (by omega)];rfl),rfl⟩
theorem skipBlanks_any (s:ByteArray) (i:Nat) (w:World) (hs:s.size <= maxLen) (hi:i <= s.size) :
  Calls Tryz.prog 114 #[.string s,.int .i64 i] w fun e w' => e = .returned (.int .i64 (Est.skip s i)) /\ w' = w:=by
 unfold maxLen at hs
 go_enter Tryz.func114,Tryz.ntmps114
 go_wp2
 go_loop [1] (fun v => ∃ k:Nat,k <= s.size /\ v = .int .i64 k /\ Est.skip s k = Est.skip s i) (fun v => s.size - (intOf v).toNat)
 case atStart => exact ⟨i,hi,rfl,rfl⟩
 case round =>
  obtain ⟨k,hk,rfl,hd⟩:=hrel
  have HD:Hid (Est.skip s k = Est.skip s i):=hd
  clear hd
  by_cases hlt:k < s.size
  ·by_cases hb:Est.blank s[k] = true
   ·have HB:Hid (Est.blank s[k] = true):=hb
    rw [blank_iff',Bool.or_eq_true] at hb
    have hb':((s[k].toNat:Int) == 32) = true ∨ (((s[k].toNat:Int) == 32) = false /\ ((s[k].toNat:Int) == 10) = true):=by
     cases h1:((s[k].toNat:Int) == 32)
     ·exact Or.inr ⟨rfl,by simpa [h1] using hb⟩
     ·exact Or.inl rfl
    clear hb
    rcases hb' with hb | ⟨hb1,hb2⟩
    all_goals
     go_wp2
     go_round
     case rel => exact ⟨k + 1,by omega,by go_num,by rw [Est.skip_step s k hlt HB.out];exact HD.out⟩
     case measure => simp [intOf];omega
   ·have HB:Hid (Est.blank s[k] = false):=by simpa [Hid] using hb
    have hb1:((s[k].toNat:Int) == 32) = false:=by have:=HB.out;rw [blank_iff',Bool.or_eq_false_iff] at this;exact this.1
    have hb2:((s[k].toNat:Int) == 10) = false:=by have:=HB.out;rw [blank_iff',Bool.or_eq_false_iff] at this;exact this.2
    clear hb
    go_wp2
    go_ret
    exact ⟨ret_i64 (by rw [← HD.out,Est.skip_stop s k hlt HB.out]),rfl⟩
  ·go_wp2
   go_ret
   exact ⟨ret_i64 (by rw [← HD.out,Est.skip_end s k hlt]),rfl⟩
theorem wordEnd_any (s:ByteArray) (i:Nat) (w:World) (hs:s.size <= maxLen) (hi:i <= s.size) :
  Calls Tryz.prog 115 #[.string s,.int .i64 i] w fun e w' => e = .returned (.int .i64 (Est.wend s i)) /\ w' = w:=by
 unfold maxLen at hs
 go_enter Tryz.func115,Tryz.ntmps115
 go_wp2
 go_loop [1] (fun v => ∃ k:Nat,k <= s.size /\ v = .int .i64 k /\ Est.wend s k = Est.wend s i) (fun v => s.size - (intOf v).toNat)
 case atStart => exact ⟨i,hi,rfl,rfl⟩
 case round =>
  obtain ⟨k,hk,rfl,hd⟩:=hrel
  have HD:Hid (Est.wend s k = Est.wend s i):=hd
  clear hd
  by_cases hlt:k < s.size
  ·by_cases hb:Est.wrd s[k] = true
   ·have HB:Hid (Est.wrd s[k] = true):=hb
    have hb':Est.low s[k] = true ∨ (Est.low s[k] = false /\ Est.upp s[k] = true) ∨ (Est.low s[k] = false /\ Est.upp s[k] = false /\ Est.dig s[k] = true):=by
     unfold Est.wrd at hb
     cases h1:Est.low s[k] <;> cases h2:Est.upp s[k] <;> simp_all
    clear hb
    rcases hb' with hb | ⟨hb1,hb2⟩ | ⟨hb1,hb2,hb3⟩
    all_goals
     go_wp2_with (first | (go_at_call 149;refine (isLower_any _ _).mono ?_;rintro e w' ⟨rfl,rfl⟩) | (go_at_call 150;refine (isUpper_any _ _).mono ?_;rintro e w' ⟨rfl,rfl⟩) | (go_at_call 151;refine (isDigit_any _ _).mono ?_;rintro e w' ⟨rfl,rfl⟩))
     go_round
     case rel => exact ⟨k + 1,by omega,by go_num,by rw [Est.wend_step s k hlt HB.out];exact HD.out⟩
     case measure => simp [intOf];omega
   ·have HB:Hid (Est.wrd s[k] = false):=by simpa [Hid] using hb
    have hcc:Est.wrd s[k] = false:=HB.out
    unfold Est.wrd at hcc
    rw [Bool.or_eq_false_iff,Bool.or_eq_false_iff] at hcc
    obtain ⟨⟨c1,c2⟩,c3⟩:=hcc
    clear hb
    go_wp2_with (first | (go_at_call 149;refine (isLower_any _ _).mono ?_;rintro e w' ⟨rfl,rfl⟩) | (go_at_call 150;refine (isUpper_any _ _).mono ?_;rintro e w' ⟨rfl,rfl⟩) | (go_at_call 151;refine (isDigit_any _ _).mono ?_;rintro e w' ⟨rfl,rfl⟩))
    go_ret
    exact ⟨ret_i64 (by rw [← HD.out,Est.wend_stop s k hlt HB.out]),rfl⟩
  ·go_wp2
   go_ret
   exact ⟨ret_i64 (by rw [← HD.out,Est.wend_end s k hlt]),rfl⟩
theorem fairN_no (t:ByteArray) (h0:0 < t.size) (h:3 < t.size ∨ (t[0] = 48 /\ 1 < t.size)):Est.fairN t = false:=by
 unfold Est.fairN
 rw [fst_eq t h0]
 rcases h with h | ⟨h,h'⟩
 ·rw [decide_eq_false (show ¬ t.size <= 3 by omega)];simp
 ·rw [h,decide_eq_false (show ¬ t.size = 1 by omega)];simp
theorem fairN_yes (t:ByteArray) (h0:0 < t.size) (h:t.size <= 3) (h':¬ (t[0] = 48 /\ 1 < t.size)):Est.fairN t = Est.digs t 0:=by
 unfold Est.fairN
 rw [fst_eq t h0,decide_eq_true h]
 by_cases h1:t.size = 1
 ·rw [decide_eq_true h1];simp
 ·rw [decide_eq_false h1]
  have:t[0] ≠ 48:=fun e => h' ⟨e,by omega⟩
  simp [this]
theorem isNumber_any (t:ByteArray) (w:World) (h0:0 < t.size) (ht:t.size <= maxLen) :
  Calls Tryz.prog 152 #[.string t] w fun e w' => e = .returned (.bool (Est.fairN t)) /\ w' = w:=by
 unfold maxLen at ht
 by_cases h3:3 < t.size
 ·go_enter Tryz.func152,Tryz.ntmps152
  go_wp2
  go_ret
  exact ⟨ret_bool (fairN_no t h0 (Or.inl h3)).symm,rfl⟩
 ·have HQ:Hid (¬ (t[0] = 48 /\ 1 < t.size) ∨ (t[0] = 48 /\ 1 < t.size)):=(Classical.em _).symm
  have h48:(((t[0].toNat:Int) == 48) = (t[0] == 48)):=byte_eq t[0] 48
  have H48:Hid (((t[0].toNat:Int) == 48) = (t[0] == 48)):=h48
  clear h48
  rcases HQ.out with hq | ⟨hq,h1⟩
  ·have HQ2:Hid (Est.fairN t = Est.digs t 0):=fairN_yes t h0 (by omega) hq
   have hqq:((t[0].toNat:Int) == 48) = false ∨ (((t[0].toNat:Int) == 48) = true /\ t.size = 1):=by
    rw [H48.out]
    by_cases e:t[0] = 48
    ·exact Or.inr ⟨by simp [e],by have:¬ 1 < t.size:=fun h => hq ⟨e,h⟩;omega⟩
    ·exact Or.inl (by simp [e])
   clear hq HQ H48
   rcases hqq with hqq | ⟨hqq,hone⟩
   all_goals
    try have hone':¬ (1:Int) < (t.size:Int):=by omega
    try clear hone
    go_enter Tryz.func152,Tryz.ntmps152
    go_wp2
    go_loop [19] (fun i => ∃ k:Nat,k <= t.size /\ i = .int .i64 k /\ Est.digs t k = Est.digs t 0) (fun i => t.size - (intOf i).toNat)
    case atStart => exact ⟨0,Nat.zero_le _,rfl,rfl⟩
    case round =>
     obtain ⟨k,hk,rfl,hd⟩:=hrel
     have HD:Hid (Est.digs t k = Est.digs t 0):=hd
     clear hd
     by_cases hlt:k < t.size
     ·by_cases hb:Est.dig t[k] = true
      ·go_wp2_with ((go_at_call 151;refine (isDigit_any _ _).mono ?_;rintro e w' ⟨rfl,rfl⟩))
       go_round
       case rel => exact ⟨k + 1,by omega,by go_num,by rw [Est.digs_step t k hlt hb];exact HD.out⟩
       case measure => simp [intOf];omega
      ·have hb':Est.dig t[k] = false:=by simpa using hb
       clear hb
       go_wp2_with ((go_at_call 151;refine (isDigit_any _ _).mono ?_;rintro e w' ⟨rfl,rfl⟩))
       go_ret
       exact ⟨ret_bool (by rw [HQ2.out,← HD.out,Est.digs_stop t k hlt hb']),rfl⟩
     ·go_wp2
      go_ret
      exact ⟨ret_bool (by rw [HQ2.out,← HD.out,Est.digs_end t k hlt]),rfl⟩
  ·have HQ2:Hid (Est.fairN t = false):=fairN_no t h0 (Or.inr ⟨hq,h1⟩)
   have hqq:((t[0].toNat:Int) == 48) = true:=by rw [H48.out];simp [hq]
   clear hq HQ H48
   go_enter Tryz.func152,Tryz.ntmps152
   go_wp2
   go_ret
   exact ⟨ret_bool HQ2.out.symm,rfl⟩
theorem isName_any (t:ByteArray) (w:World) (h0:0 < t.size) (ht:t.size <= maxLen) :
  Calls Tryz.prog 153 #[.string t] w fun e w' => e = .returned (.bool (Est.nameB t)) /\ w' = w:=by
 unfold maxLen at ht
 by_cases h4:4 < t.size
 ·go_enter Tryz.func153,Tryz.ntmps153
  go_wp2
  go_ret
  exact ⟨ret_bool (by unfold Est.nameB;rw [decide_eq_false (show ¬ t.size <= 4 by omega)];rfl),rfl⟩
 ·cases hd0:Est.dig t[0]
  ·have HQ:Hid (Est.nameB t = Est.noUp t 1):=by unfold Hid Est.nameB;rw [decide_eq_true (show t.size <= 4 by omega),fst_eq t h0,hd0];rfl
   go_enter Tryz.func153,Tryz.ntmps153
   go_wp2_with (first | (go_at_call 149;refine (isLower_any _ _).mono ?_;rintro e w' ⟨rfl,rfl⟩) | (go_at_call 150;refine (isUpper_any _ _).mono ?_;rintro e w' ⟨rfl,rfl⟩) | (go_at_call 151;refine (isDigit_any _ _).mono ?_;rintro e w' ⟨rfl,rfl⟩))
   go_loop [3] (fun i => ∃ k:Nat,1 <= k /\ i = .int .i64 k /\ Est.noUp t k = Est.noUp t 1) (fun i => t.size - (intOf i).toNat)
   case atStart => exact ⟨1,by omega,rfl,rfl⟩
   case round =>
    obtain ⟨k,hk,rfl,hd⟩:=hrel
    have HD:Hid (Est.noUp t k = Est.noUp t 1):=hd
    clear hd
    by_cases hlt:k < t.size
    ·cases hb:Est.upp t[k]
     ·go_wp2_with (first | (go_at_call 149;refine (isLower_any _ _).mono ?_;rintro e w' ⟨rfl,rfl⟩) | (go_at_call 150;refine (isUpper_any _ _).mono ?_;rintro e w' ⟨rfl,rfl⟩) | (go_at_call 151;refine (isDigit_any _ _).mono ?_;rintro e w' ⟨rfl,rfl⟩))
      go_round
      case rel => exact ⟨k + 1,by omega,by go_num,by rw [Est.noUp_step t k hlt hb];exact HD.out⟩
      case measure => simp [intOf];omega
     ·go_wp2_with (first | (go_at_call 149;refine (isLower_any _ _).mono ?_;rintro e w' ⟨rfl,rfl⟩) | (go_at_call 150;refine (isUpper_any _ _).mono ?_;rintro e w' ⟨rfl,rfl⟩) | (go_at_call 151;refine (isDigit_any _ _).mono ?_;rintro e w' ⟨rfl,rfl⟩))
      go_ret
      exact ⟨ret_bool (by rw [HQ.out,← HD.out,Est.noUp_stop t k hlt hb]),rfl⟩
    ·go_wp2
     go_ret
     exact ⟨ret_bool (by rw [HQ.out,← HD.out,Est.noUp_end t k hlt]),rfl⟩
  ·go_enter Tryz.func153,Tryz.ntmps153
   go_wp2_with (first | (go_at_call 149;refine (isLower_any _ _).mono ?_;rintro e w' ⟨rfl,rfl⟩) | (go_at_call 150;refine (isUpper_any _ _).mono ?_;rintro e w' ⟨rfl,rfl⟩) | (go_at_call 151;refine (isDigit_any _ _).mono ?_;rintro e w' ⟨rfl,rfl⟩))
   go_ret
   exact ⟨ret_bool (by unfold Est.nameB;rw [fst_eq t h0,hd0];simp),rfl⟩
theorem wordKind_any (t:ByteArray) (w:World) (h0:0 < t.size) (ht:t.size <= maxLen) :
  Calls Tryz.prog 116 #[.string t] w fun e w' => e = .returned (.int .i64 (Est.wordK t)) /\ w' = w:=by
 have ht':t.size <= maxLen:=ht
 have HT:Hid (t.size <= maxLen):=ht'
 unfold maxLen at ht
 clear ht'
 cases h1:Est.fairN t
 ·cases h2:Est.nameB t
  ·have HW:Hid (Est.wordK t = 0):=by unfold Hid Est.wordK;simp [h1,h2]
   go_enter Tryz.func116,Tryz.ntmps116
   go_wp2_with (first | (go_at_call 152;refine (isNumber_any _ _ h0 HT.out).mono ?_;rintro e w' ⟨rfl,rfl⟩) | (go_at_call 153;refine (isName_any _ _ h0 HT.out).mono ?_;rintro e w' ⟨rfl,rfl⟩))
   go_ret
   exact ⟨ret_i64 (by rw [HW.out];rfl),rfl⟩
  ·cases h3:Est.low t[0]
   ·have HW:Hid (Est.wordK t = 3):=by unfold Hid Est.wordK;rw [fst_eq t h0];simp [h1,h2,h3]
    go_enter Tryz.func116,Tryz.ntmps116
    go_wp2_with (first | (go_at_call 152;refine (isNumber_any _ _ h0 HT.out).mono ?_;rintro e w' ⟨rfl,rfl⟩) | (go_at_call 153;refine (isName_any _ _ h0 HT.out).mono ?_;rintro e w' ⟨rfl,rfl⟩) | (go_at_call 149;refine (isLower_any _ _).mono ?_;rintro e w' ⟨rfl,rfl⟩))
    go_ret
    exact ⟨ret_i64 (by rw [HW.out];rfl),rfl⟩
   ·have HW:Hid (Est.wordK t = 2):=by unfold Hid Est.wordK;rw [fst_eq t h0];simp [h1,h2,h3]
    go_enter Tryz.func116,Tryz.ntmps116
    go_wp2_with (first | (go_at_call 152;refine (isNumber_any _ _ h0 HT.out).mono ?_;rintro e w' ⟨rfl,rfl⟩) | (go_at_call 153;refine (isName_any _ _ h0 HT.out).mono ?_;rintro e w' ⟨rfl,rfl⟩) | (go_at_call 149;refine (isLower_any _ _).mono ?_;rintro e w' ⟨rfl,rfl⟩))
    go_ret
    exact ⟨ret_i64 (by rw [HW.out];rfl),rfl⟩
 ·have HW:Hid (Est.wordK t = 4):=by unfold Hid Est.wordK;simp [h1]
  go_enter Tryz.func116,Tryz.ntmps116
  go_wp2_with (first | (go_at_call 152;refine (isNumber_any _ _ h0 HT.out).mono ?_;rintro e w' ⟨rfl,rfl⟩) | (go_at_call 153;refine (isName_any _ _ h0 HT.out).mono ?_;rintro e w' ⟨rfl,rfl⟩))
  go_ret
  exact ⟨ret_i64 (by rw [HW.out];rfl),rfl⟩
theorem signK_at (c:UInt8):(Est.signK c:Int) = if ((c.toNat:Int) == 40) then 5 else if ((c.toNat:Int) == 41) then 6 else if ((c.toNat:Int) == 44) then 7 else if ((c.toNat:Int) == 58) then 8 else if ((c.toNat:Int) == 46) then 9 else 0:=by
 rw [show ((c.toNat:Int) == 40) = (c == 40) from byte_eq c 40,show ((c.toNat:Int) == 41) = (c == 41) from byte_eq c 41,show ((c.toNat:Int) == 44) = (c == 44) from byte_eq c 44,show ((c.toNat:Int) == 58) = (c == 58) from byte_eq c 58,show ((c.toNat:Int) == 46) = (c == 46) from byte_eq c 46]
 unfold Est.signK
 repeat' split
 all_goals rfl
theorem signKind_any (c:UInt8) (w:World) :
  Calls Tryz.prog 117 #[.int .u8 (c.toNat:Int)] w fun e w' => e = .returned (.int .i64 (Est.signK c)) /\ w' = w:=by
 have HS:Hid _:=signK_at c
 cases h1:((c.toNat:Int) == 40)
 ·cases h2:((c.toNat:Int) == 41)
  ·cases h3:((c.toNat:Int) == 44)
   ·cases h4:((c.toNat:Int) == 58)
    ·cases h5:((c.toNat:Int) == 46)
     all_goals
      go_enter Tryz.func117,Tryz.ntmps117
      go_wp2
      go_ret
      exact ⟨ret_i64 (by rw [HS.out,h1,h2,h3,h4,h5];rfl),rfl⟩
    ·go_enter Tryz.func117,Tryz.ntmps117
     go_wp2
     go_ret
     exact ⟨ret_i64 (by rw [HS.out,h1,h2,h3,h4];rfl),rfl⟩
   ·go_enter Tryz.func117,Tryz.ntmps117
    go_wp2
    go_ret
    exact ⟨ret_i64 (by rw [HS.out,h1,h2,h3];rfl),rfl⟩
  ·go_enter Tryz.func117,Tryz.ntmps117
   go_wp2
   go_ret
   exact ⟨ret_i64 (by rw [HS.out,h1,h2];rfl),rfl⟩
 ·go_enter Tryz.func117,Tryz.ntmps117
  go_wp2
  go_ret
  exact ⟨ret_i64 (by rw [HS.out,h1];rfl),rfl⟩
theorem nextPiece_any (s:ByteArray) (i:Nat) (w:World) (hs:s.size <= maxLen) (hi:i <= s.size) :
  Calls Tryz.prog 82 #[.string s,.int .i64 i] w fun e w' => e = .returned (.agg #[.int .i64 (Est.piece s i).k,.string (Est.piece s i).t,.int .i64 (Est.piece s i).a]) /\ Below w.heap.size w w':=by
 have HS:Hid (s.size <= maxLen):=hs
 unfold maxLen at hs
 obtain ⟨k,hk⟩:∃ k,Est.skip s i = k:=⟨_,rfl⟩
 have hkl:k <= s.size:=by rw [← hk];exact Est.skip_le s i hi
 have HK:Hid (Est.skip s i = k):=hk
 clear hk
 by_cases hlt:k < s.size
 ·obtain ⟨j,hj⟩:∃ j,Est.wend s k = j:=⟨_,rfl⟩
  have hjl:j <= s.size:=by rw [← hj];exact Est.wend_le s k hkl
  have hkj:k <= j:=by rw [← hj];exact Est.wend_ge s k
  have HJ:Hid (Est.wend s k = j):=hj
  clear hj
  have hne:((k:Int) == (s.size:Int)) = false:=beq_eq_false_iff_ne.2 (by omega)
  by_cases hw:k < j
  ·have HP:Hid (Est.piece s i = ⟨Est.wordK (s.extract k j),s.extract k j,k⟩):=by
    unfold Hid Est.piece
    rw [HK.out,dif_pos hlt,HJ.out,if_pos hw]
   have hz:0 < (s.extract k j).size:=by simp;omega
   have hzl:(s.extract k j).size <= maxLen:=by simp [maxLen];omega
   have HZ:Hid (0 < (s.extract k j).size /\ (s.extract k j).size <= maxLen):=⟨hz,hzl⟩
   clear hz hzl
   go_enter Tryz.func82,Tryz.ntmps82
   go_wp2_with (first | (go_at_call 114;refine (skipBlanks_any s i _ HS.out hi).mono ?_;rintro e w' ⟨rfl,rfl⟩;rw [HK.out]) | (go_at_call 115;refine (wordEnd_any s k _ HS.out hkl).mono ?_;rintro e w' ⟨rfl,rfl⟩;rw [HJ.out]) | (go_at_call 116;refine (wordKind_any _ _ HZ.out.1 HZ.out.2).mono ?_;rintro e w' ⟨rfl,rfl⟩))
   refine bodyPost_ret (v:=.agg #[.int .i64 (Est.wordK (s.extract k j)),.string (s.extract k j),.int .i64 k]) (by simp [results,Tryz.results82,go_sem]) rfl ⟨?_,(Below.refl _ _).alloc (Nat.le_refl _) _⟩
   rw [HP.out]
  ·have hjk:j = k:=by omega
   subst hjk
   have HP:Hid (Est.piece s i = ⟨Est.signK s[j],s.extract j (j + 1),j⟩):=by
    unfold Hid Est.piece
    simp only [HK.out]
    rw [dif_pos hlt,HJ.out,if_neg hw]
   have h1:(j:Int) < (s.size:Int):=by omega
   have h2:((j:Int) + 1) <= (s.size:Int):=by omega
   have hw1:IntKind.i64.wrap ((j:Int) + 1) = (j:Int) + 1:=by rw [IntKind.wrap_i64];omega
   have h3:(0:Int) <= (j:Int) + 1:=by omega
   have h4:(j:Int) <= (j:Int) + 1:=by omega
   have hsl:∀ W,(Instr.slice 9 (.string s) (some (.int .i64 (j:Int))) (some (.int .i64 ((j:Int) + 1))) none).run Tryz.prog W = .ok (.string (s.extract j (j + 1))) W:=fun W => by
    have:=run_slice_string (P:=Tryz.prog) W 9 s .i64 .i64 (j:Int) ((j:Int) + 1) Tryz.underlying9 (by omega) (by omega) (by omega)
    simpa using this
   go_enter Tryz.func82,Tryz.ntmps82
   go_wp2_with (first | (go_at_call 114;refine (skipBlanks_any s i _ HS.out hi).mono ?_;rintro e w' ⟨rfl,rfl⟩;rw [HK.out]) | (go_at_call 115;refine (wordEnd_any s j _ HS.out hkl).mono ?_;rintro e w' ⟨rfl,rfl⟩;rw [HJ.out]))
   go_region_with (go_at_call 117;refine (signKind_any _ _).mono ?_;rintro e w' ⟨rfl,rfl⟩)
   all_goals go_wp2
   all_goals
    refine bodyPost_ret (v:=.agg #[.int .i64 (Est.signK s[j]),.string (s.extract j (j + 1)),.int .i64 j]) (by simp [results,Tryz.results82,go_sem]) rfl ⟨?_,?_⟩
    ·rw [HP.out]
    ·first | exact ((Below.refl _ _).alloc (Nat.le_refl _) _).drew | exact (Below.refl _ _).drew.alloc (Nat.le_refl _) _
 ·have hne:((k:Int) == (s.size:Int)) = true:=beq_iff_eq.2 (by omega)
  have HP:Hid (Est.piece s i = ⟨1,ByteArray.empty,k⟩):=by
   unfold Hid Est.piece
   rw [HK.out,dif_neg hlt]
  go_enter Tryz.func82,Tryz.ntmps82
  go_wp2_with (go_at_call 114;refine (skipBlanks_any s i _ HS.out hi).mono ?_;rintro e w' ⟨rfl,rfl⟩;rw [HK.out])
  refine bodyPost_ret (v:=.agg #[.int .i64 1,.string ⟨#[]⟩,.int .i64 k]) (by simp [results,Tryz.results82,go_sem]) rfl ⟨?_,(Below.refl _ _).alloc (Nat.le_refl _) _⟩
  rw [HP.out];rfl
end Go.Proofs.YtondkinefmjpjaaGreat.K
namespace Est
theorem wend_wrd (s:ByteArray) (i j:Nat) (h1:i <= j) (h2:j < wend s i) (hj:j < s.size):wrd s[j] = true:=by
 by_cases h:i < s.size
 ·cases b:wrd s[i]
  ·rw [wend_stop s i h b] at h2;omega
  ·by_cases e:i = j
   ·subst e;exact b
   ·exact wend_wrd s (i + 1) j (by omega) (by rw [wend_step s i h b];exact h2) hj
 ·omega
theorem upp_of {c:UInt8} (h:wrd c = true):upp c = !(low c || dig c):=by
 have:∀ n:Fin 256,wrd (UInt8.ofNat n) = true -> upp (UInt8.ofNat n) = !(low (UInt8.ofNat n) || dig (UInt8.ofNat n)):=by decide +kernel
 have h':=this ⟨c.toNat,c.toNat_lt⟩
 simp only [UInt8.ofNat_toNat] at h'
 exact h' h
theorem dig_of {c:UInt8} (h:dig c = true):upp c = false /\ low c = false:=by
 have:∀ n:Fin 256,dig (UInt8.ofNat n) = true -> upp (UInt8.ofNat n) = false /\ low (UInt8.ofNat n) = false:=by decide +kernel
 have h':=this ⟨c.toNat,c.toNat_lt⟩
 simp only [UInt8.ofNat_toNat] at h'
 exact h' h
theorem noUp_tail (w:ByteArray) (i:Nat) (h:∀ j (hj:j < w.size),wrd w[j] = true):noUp w i = tail w i:=by
 by_cases hi:i < w.size
 ·have hu:=upp_of (h i hi)
  cases b:(low w[i] || dig w[i])
  ·rw [tail_stop w i hi b,noUp_stop w i hi (by rw [hu,b];rfl)]
  ·rw [← tail_step w i hi b,← noUp_step w i hi (by rw [hu,b];rfl)];exact noUp_tail w (i + 1) h
 ·rw [tail_end w i hi,noUp_end w i hi]
def kOf (k:Nat):UInt8:=if k = 1 then 0 else if k = 2 then 118 else if k = 3 then 114 else if k = 4 then 110 else if k = 5 then 40 else if k = 6 then 41 else if k = 7 then 44 else if k = 8 then 58 else if k = 9 then 46 else 63
theorem word_eq (w:ByteArray) (h0:0 < w.size) (h:∀ j (hj:j < w.size),wrd w[j] = true) :
  (fair (wkind w) w = true -> kOf (wordK w) = wkind w /\ wordK w ≠ 0) /\ (fair (wkind w) w = false -> wordK w = 0) /\ wordK w <= 9:=by
 have hf:fst w = w[0]:=by unfold fst;rw [dif_pos h0]
 have hw:=h 0 h0
 have hu:=upp_of hw
 rw [← hf] at hu hw
 have ht:=noUp_tail w 1 h
 cases hd:dig (fst w)
 ·have hN:fairN w = false:=by unfold fairN;rw [digs_stop w 0 h0 (by rw [← hf];exact hd)];rfl
  rw [hd,Bool.or_false] at hu
  have hk:wkind w = if low (fst w) then 118 else 114:=by
   unfold wkind;rw [hu,hd];cases low (fst w) <;> rfl
  have hF:fair (wkind w) w = nameB w:=by
   unfold fair nameB fairW;rw [hk,hd,ht]
   cases low (fst w) <;> simp
  rw [hF,hk]
  unfold wordK
  rw [hN]
  cases nameB w <;> cases low (fst w) <;> simp [kOf]
 ·obtain ⟨d1,d2⟩:=dig_of hd
  have hk:wkind w = 110:=by unfold wkind;rw [d1,hd];rfl
  have hF:fair (wkind w) w = fairN w:=by unfold fair;rw [hk];rfl
  have hB:nameB w = false:=by unfold nameB;rw [hd];simp
  rw [hF,hk]
  unfold wordK
  rw [hB]
  cases fairN w <;> simp [kOf]
theorem punct_eq (c:UInt8):(punct c = true -> kOf (signK c) = c /\ signK c ≠ 0) /\ (punct c = false -> signK c = 0) /\ signK c <= 9:=by
 have:∀ n:Fin 256,(punct (UInt8.ofNat n) = true -> kOf (signK (UInt8.ofNat n)) = UInt8.ofNat n /\ signK (UInt8.ofNat n) ≠ 0) /\ (punct (UInt8.ofNat n) = false -> signK (UInt8.ofNat n) = 0) /\ signK (UInt8.ofNat n) <= 9:=by decide +kernel
 have h':=this ⟨c.toNat,c.toNat_lt⟩
 simp only [UInt8.ofNat_toNat] at h'
 exact h'
structure Sim (g:Sg) (p:Pc):Prop where
 k:g.k = kOf p.k
 le:p.k <= 9
 a:g.a = p.a
 t:p.k ≠ 0 -> g.t = p.t /\ g.n = p.a + p.t.size
theorem sim_at (s:ByteArray) (i:Nat) (hi:i <= s.size):Sim (sign s i) (piece s i):=by
 have h1:=skip_le s i hi
 have h2:=wend_le s _ h1
 unfold sign piece
 by_cases hs:skip s i < s.size
 ·rw [dif_pos hs,dif_pos hs]
  by_cases hw:skip s i < wend s (skip s i)
  ·rw [if_pos hw,if_pos hw]
   have hsz:(s.extract (skip s i) (wend s (skip s i))).size = wend s (skip s i) - skip s i:=by simp;omega
   obtain ⟨e1,e2,e3⟩:=word_eq (s.extract (skip s i) (wend s (skip s i))) (by omega) (fun j hj => by
    rw [ByteArray.getElem_extract]
    exact wend_wrd s (skip s i) _ (by omega) (by omega) _)
   cases hf:fair (wkind (s.extract (skip s i) (wend s (skip s i)))) (s.extract (skip s i) (wend s (skip s i)))
   ·refine ⟨?_,e3,rfl,fun h => absurd (e2 hf) h⟩
    simp only [e2 hf];rfl
   ·refine ⟨(e1 hf).1.symm,e3,rfl,fun _ => ⟨rfl,?_⟩⟩
    simp only [if_true];omega
  ·rw [if_neg hw,if_neg hw]
   obtain ⟨e1,e2,e3⟩:=punct_eq s[skip s i]
   cases hf:punct s[skip s i]
   ·refine ⟨?_,e3,rfl,fun h => absurd (e2 hf) h⟩
    simp only [e2 hf];rfl
   ·refine ⟨(e1 hf).1.symm,e3,rfl,fun _ => ⟨rfl,?_⟩⟩
    simp;omega
 ·rw [dif_neg hs,dif_neg hs]
  exact ⟨rfl,by simp,rfl,fun _ => ⟨rfl,rfl⟩⟩
end Est
