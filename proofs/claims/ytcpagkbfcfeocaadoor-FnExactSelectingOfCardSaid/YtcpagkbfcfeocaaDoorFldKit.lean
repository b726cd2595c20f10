/-
  PLAIN FACTS: the names by which lists of fields go as other lists of structs do.
-/
import Derived.Test.YtcpagkbfcfeocaaDoorFldTot
import Derived.Test.YtcpagkbfcfeocaaDoorRec
namespace Go.Proofs.YtcpagkbfcfeocaaDoor.Flds
open Go Go.RowKit
set_option linter.unusedVariables false
abbrev T : Type := Fld
abbrev Ok (f : T) : Prop := f.1.length ≤ maxLen ∧ f.2.length ≤ maxLen
theorem len_le_total (l : List T) : l.length ≤ total l := by unfold total; omega
theorem holds_drew {w : World} {B : Nat} {v : Value} {l : List Fld} (h : Holds w B v l) : Holds w.drew B v l := h
end Go.Proofs.YtcpagkbfcfeocaaDoor.Flds
