/-
  The program's own scanner as plain functions.
-/
import Derived.Test.YtondkinefmjpjaaModel
namespace Est

/-- From place i on: no great letter. -/
def noUp (w : ByteArray) (i : Nat) : Bool :=
  if h : i < w.size then (if upp w[i] then false else noUp w (i + 1)) else true
theorem noUp_step (w : ByteArray) (i : Nat) (h : i < w.size) (b : upp w[i] = false) : noUp w (i + 1) = noUp w i := by
  rw [noUp.eq_def w i, dif_pos h, if_neg (by simp [b])]
theorem noUp_stop (w : ByteArray) (i : Nat) (h : i < w.size) (b : upp w[i] = true) : noUp w i = false := by
  rw [noUp.eq_def w i, dif_pos h, if_pos b]
theorem noUp_end (w : ByteArray) (i : Nat) (h : ¬ i < w.size) : noUp w i = true := by
  rw [noUp.eq_def w i, dif_neg h]

def nameB (w : ByteArray) : Bool := decide (w.size ≤ 4) && !dig (fst w) && noUp w 1
def wordK (w : ByteArray) : Nat := if fairN w then 4 else if nameB w then (if low (fst w) then 2 else 3) else 0
def signK (c : UInt8) : Nat := if c == 40 then 5 else if c == 41 then 6 else if c == 44 then 7 else if c == 58 then 8 else if c == 46 then 9 else 0

/-- A piece: its kind, its text, its place. -/
structure Pc where
  k : Nat
  t : ByteArray
  a : Nat

def piece (s : ByteArray) (i : Nat) : Pc :=
  if h : skip s i < s.size then
    if skip s i < wend s (skip s i) then ⟨wordK (s.extract (skip s i) (wend s (skip s i))), s.extract (skip s i) (wend s (skip s i)), skip s i⟩
    else ⟨signK s[skip s i], s.extract (skip s i) (skip s i + 1), skip s i⟩
  else ⟨1, ByteArray.empty, skip s i⟩

end Est
