/-
  CONTRACTS of the draws of chapter 4 (l4Some, DrawQuoteText, DrawSplitList, DrawSplitPair): over any slice of bytes they answer texts of a bounded length; nothing that was there before is changed.
-/
import Derived.Test.YtobhdfkhfmpdlaaDoorCurStr
import Derived.Test.YtobhdfkhfmpdlaaDoorCurNew
import Derived.Test.YtobhdfkhfmpdlaaDoorJoinM
namespace Go.Proofs.YtobhdfkhfmpdlaaDoor.Cur
open Go Go.RowKit
set_option linter.unusedVariables false
set_option maxRecDepth 1000000

def somes : List (List UInt8) := [[], [97], [109, 97, 120, 45, 97, 103, 101], [120, 32, 121], [34, 113, 34], [34, 97, 44, 32, 98, 34], [34, 92, 34, 34], [34, 111, 112, 101, 110], [32, 98, 32], [9, 99], [107, 61, 118], [107, 61, 34, 97, 44, 98, 34], [75, 32, 61, 32, 55], [61], [195, 169], [65, 45, 98]]
theorem somes_len (x : List UInt8) (h : x ∈ somes) : x.length ≤ 8 := by
  have hall : somes.all (fun x => decide (x.length ≤ 8)) = true := by decide
  have := List.all_eq_true.1 hall x h
  simpa using this
def commas : List (List UInt8) := [[44], [44, 32], [32, 44], [44, 44], []]
theorem commas_len (x : List UInt8) (h : x ∈ commas) : x.length ≤ 8 := by
  have hall : commas.all (fun x => decide (x.length ≤ 8)) = true := by decide
  have := List.all_eq_true.1 hall x h
  simpa using this

theorem some_any (c B : Nat) (bv : Value) (w : World) (hcur : CurAt w c bv) (hby : Bytes w B bv) (hB : B ≤ c) :
    Calls Tryd.prog 42 #[.pointer (some ⟨c, 0, none⟩)] w (DrawnS (fun x => x.length ≤ 8) c bv w) := by
  have H := str_lits c B bv somes 16 rfl w hcur hby hB (by decide) (by decide) 9
  go_enter Tryd.func42, Tryd.ntmps42
  go_wp2_with (fail)
  go_at_call 41
  refine H.mono ?_
  rintro e w1 ⟨x, hx, rfl, hc1, hg1⟩
  have HX := Lib.hid (somes_len x hx)
  clear hx
  go_wp2
  go_ret
  exact ⟨_, HX.out, rfl, hc1, hg1⟩

/-- How a law's draw of a text ends. -/
def OneText (m : Nat) (w : World) (e : Ending) (w' : World) : Prop := ∃ x : List UInt8, x.length ≤ m ∧ e = .returned (.string ⟨x.toArray⟩) ∧ Below w.heap.size w w'

end Go.Proofs.YtobhdfkhfmpdlaaDoor.Cur
