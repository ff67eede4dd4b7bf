/-
  The document's own parser (estuaryref) as plain functions on a state: no program, no world.
-/
import Derived.Test.YtondkinefmjpjaaModel
namespace Est

/-- What is being read: the sign that stands next, the error and its place. -/
structure Rd where
  g : Sg
  bad : Nat
  bat : Nat

def Rd.fail (r : Rd) (e a : Nat) : Rd := if r.bad = 0 then { r with bad := e, bat := a } else r
def Rd.next (s : ByteArray) (r : Rd) : Rd := { r with g := sign s r.g.n }
def Rd.isB (r : Rd) (k : UInt8) : Bool := decide (r.bad = 0) && r.g.k == k
def Rd.is (s : ByteArray) (r : Rd) (k : UInt8) : Rd := if r.isB k then r.next s else r
def Rd.must (s : ByteArray) (r : Rd) (k : UInt8) : Rd := if r.isB k then r.next s else r.fail 2 r.g.a

theorem sign_le (s : ByteArray) (i : Nat) (h : i ≤ s.size) : (sign s i).n ≤ s.size ∧ (sign s i).a ≤ s.size ∧ (sign s i).t.size ≤ s.size := by
  have h1 := skip_le s i h
  have h2 := wend_le s _ h1
  unfold sign
  split
  · split
    · split
      · exact ⟨h2, h1, by simp; omega⟩
      · exact ⟨h1, h1, by simp⟩
    · split
      · exact ⟨by simp; omega, h1, by simp; omega⟩
      · exact ⟨h1, h1, by simp⟩
  · exact ⟨h1, h1, by simp⟩

end Est
