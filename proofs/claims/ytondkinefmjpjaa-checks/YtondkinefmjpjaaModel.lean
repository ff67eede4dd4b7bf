/-
  The plain mathematics of estuary's Checks: no program, no world.
-/
namespace Est

def low (c : UInt8) : Bool := 97 ≤ c && c ≤ 122
def upp (c : UInt8) : Bool := 65 ≤ c && c ≤ 90
def dig (c : UInt8) : Bool := 48 ≤ c && c ≤ 57
def wrd (c : UInt8) : Bool := low c || upp c || dig c
def blank (c : UInt8) : Bool := c == 32 || c == 10

def skip (s : ByteArray) (i : Nat) : Nat :=
  if h : i < s.size then (if blank s[i] then skip s (i + 1) else i) else i

def wend (s : ByteArray) (i : Nat) : Nat :=
  if h : i < s.size then (if wrd s[i] then wend s (i + 1) else i) else i

theorem skip_ge (s : ByteArray) (i : Nat) : i ≤ skip s i := by
  rw [skip]; split
  · split
    · have := skip_ge s (i + 1); omega
    · omega
  · omega

theorem skip_le (s : ByteArray) (i : Nat) (h : i ≤ s.size) : skip s i ≤ s.size := by
  rw [skip]; split
  · split
    · exact skip_le s (i + 1) (by omega)
    · omega
  · omega

theorem wend_ge (s : ByteArray) (i : Nat) : i ≤ wend s i := by
  rw [wend]; split
  · split
    · have := wend_ge s (i + 1); omega
    · omega
  · omega

theorem wend_le (s : ByteArray) (i : Nat) (h : i ≤ s.size) : wend s i ≤ s.size := by
  rw [wend]; split
  · split
    · exact wend_le s (i + 1) (by omega)
    · omega
  · omega

theorem skip_step (s : ByteArray) (i : Nat) (h : i < s.size) (b : blank s[i] = true) : skip s (i + 1) = skip s i := by
  rw [skip.eq_def s i, dif_pos h, if_pos b]
theorem skip_stop (s : ByteArray) (i : Nat) (h : i < s.size) (b : blank s[i] = false) : skip s i = i := by
  rw [skip.eq_def s i, dif_pos h, if_neg (by simp [b])]
theorem skip_end (s : ByteArray) (i : Nat) (h : ¬ i < s.size) : skip s i = i := by
  rw [skip.eq_def s i, dif_neg h]
theorem wend_step (s : ByteArray) (i : Nat) (h : i < s.size) (b : wrd s[i] = true) : wend s (i + 1) = wend s i := by
  rw [wend.eq_def s i, dif_pos h, if_pos b]
theorem wend_stop (s : ByteArray) (i : Nat) (h : i < s.size) (b : wrd s[i] = false) : wend s i = i := by
  rw [wend.eq_def s i, dif_pos h, if_neg (by simp [b])]
theorem wend_end (s : ByteArray) (i : Nat) (h : ¬ i < s.size) : wend s i = i := by
  rw [wend.eq_def s i, dif_neg h]

/-- From place i on: all digits. -/
def digs (w : ByteArray) (i : Nat) : Bool :=
  if h : i < w.size then (if dig w[i] then digs w (i + 1) else false) else true
/-- From place i on: small letters and digits. -/
def tail (w : ByteArray) (i : Nat) : Bool :=
  if h : i < w.size then (if low w[i] || dig w[i] then tail w (i + 1) else false) else true
theorem digs_step (w : ByteArray) (i : Nat) (h : i < w.size) (b : dig w[i] = true) : digs w (i + 1) = digs w i := by
  rw [digs.eq_def w i, dif_pos h, if_pos b]
theorem digs_stop (w : ByteArray) (i : Nat) (h : i < w.size) (b : dig w[i] = false) : digs w i = false := by
  rw [digs.eq_def w i, dif_pos h, if_neg (by simp [b])]
theorem digs_end (w : ByteArray) (i : Nat) (h : ¬ i < w.size) : digs w i = true := by
  rw [digs.eq_def w i, dif_neg h]
theorem tail_step (w : ByteArray) (i : Nat) (h : i < w.size) (b : (low w[i] || dig w[i]) = true) : tail w (i + 1) = tail w i := by
  rw [tail.eq_def w i, dif_pos h, if_pos b]
theorem tail_stop (w : ByteArray) (i : Nat) (h : i < w.size) (b : (low w[i] || dig w[i]) = false) : tail w i = false := by
  rw [tail.eq_def w i, dif_pos h, if_neg (by simp [b])]
theorem tail_end (w : ByteArray) (i : Nat) (h : ¬ i < w.size) : tail w i = true := by
  rw [tail.eq_def w i, dif_neg h]

/-- The word's first byte (0 of none). -/
def fst (w : ByteArray) : UInt8 := if h : 0 < w.size then w[0] else 0

def fairN (w : ByteArray) : Bool := digs w 0 && (decide (w.size ≤ 3) && (decide (w.size = 1) || fst w != 48))
def fairW (w : ByteArray) : Bool := decide (w.size ≤ 4) && tail w 1
def fair (k : UInt8) (w : ByteArray) : Bool := if k == 110 then fairN w else fairW w

/-- A sign: its kind, its text, its place; and where the next one is looked for. -/
structure Sg where
  k : UInt8
  t : ByteArray
  a : Nat
  n : Nat

def wkind (w : ByteArray) : UInt8 := if upp (fst w) then 114 else if dig (fst w) then 110 else 118

def punct (c : UInt8) : Bool := c == 40 || c == 41 || c == 44 || c == 58 || c == 46

def sign (s : ByteArray) (i : Nat) : Sg :=
  if h : skip s i < s.size then
    if skip s i < wend s (skip s i) then
      if fair (wkind (s.extract (skip s i) (wend s (skip s i)))) (s.extract (skip s i) (wend s (skip s i))) then
        ⟨wkind (s.extract (skip s i) (wend s (skip s i))), s.extract (skip s i) (wend s (skip s i)), skip s i, wend s (skip s i)⟩
      else ⟨63, ByteArray.empty, skip s i, skip s i⟩
    else if punct s[skip s i] then ⟨s[skip s i], s.extract (skip s i) (skip s i + 1), skip s i, skip s i + 1⟩
    else ⟨63, ByteArray.empty, skip s i, skip s i⟩
  else ⟨0, ByteArray.empty, skip s i, skip s i⟩

end Est
