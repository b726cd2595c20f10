/-
  PLAIN FACTS of numerals that are filled up with zeros; no word of the program stands here.
-/
import Derived.Test.YtgclilgahalgaaaDoorFmtMath
namespace Go.Proofs.YtgclilgahalgaaaDoor.Dig
open Go Go.RowKit
set_option linter.unusedVariables false

def mx (n : Int) : Int := if n < 0 then 0 else n
def mn (n : Int) : Int := if n < 20 then n else 20
theorem mx_bd {n : Int} (h1 : n ≤ 9223372036854775807) : 0 ≤ mx n ∧ mx n ≤ 9223372036854775807 := by unfold mx; split <;> omega
theorem mn_bd (n : Int) : mn n ≤ 20 ∧ mn n ≤ n ∧ (mn n = n ∨ mn n = 20) := by unfold mn; split <;> omega
/-- zeros in front, up to k bytes. -/
def zpad (l : List UInt8) (k : Nat) : List UInt8 := List.replicate (k - l.length) 48 ++ l
theorem zpad_done {l : List UInt8} {k : Nat} (h : k ≤ l.length) : zpad l k = l := by
  unfold zpad; rw [show k - l.length = 0 by omega]; rfl
theorem zpad_step {l : List UInt8} {k : Nat} (h : l.length < k) : zpad (48 :: l) k = zpad l k := by
  unfold zpad
  rw [show k - l.length = (k - (48 :: l).length) + 1 by simp; omega, List.replicate_succ', List.append_assoc]; rfl
theorem zpad_len (l : List UInt8) (k : Nat) : (zpad l k).length = max l.length k := by
  unfold zpad; simp; omega
/-- The digits that the document asks for. -/
def digs (n width : Int) : List UInt8 := zpad (Lib.itoa (mx n)) (mn width).toNat
theorem digs_len {n width : Int} (h1 : n ≤ 9223372036854775807) : mn width ≤ (digs n width).length ∧ (digs n width).length ≤ 20 := by
  obtain ⟨b0, b1⟩ := mx_bd h1
  have hl := Fmt.itoa_len (n := mx n) (by omega) b1
  have hb := mn_bd width
  unfold digs
  rw [zpad_len]
  omega
def strLen : Value → Nat | .string b => b.size | _ => 0
end Go.Proofs.YtgclilgahalgaaaDoor.Dig
