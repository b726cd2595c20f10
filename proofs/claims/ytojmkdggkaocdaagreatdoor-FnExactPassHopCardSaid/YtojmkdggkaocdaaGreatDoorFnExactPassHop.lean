/-
  PROVED: at any response, any time and any hop the program's PassHop returns what its model returns, in memory of its own, and writes into no argument: the exact law of PassHop returns true and leaves its arguments as they were. CONDITION: the program's tables of weekdays, months and days of months and the library's table of powers of ten and its errors read as their texts lay them, the other listed variables as pinned (the card ties them to the text of the pruned project).
-/
import Derived.Test.YtojmkdggkaocdaaGreatDoorPqA
import Derived.Test.YtojmkdggkaocdaaGreatDoorPqY
import Derived.Test.YtojmkdggkaocdaaGreatDoorPqZ
import Derived.Carry
import Derived.Test.YtojmkdggkaocdaaGreatDoorPqC
import Derived.Test.YtojmkdggkaocdaaGreatDoorPqD
import Derived.Test.YtojmkdggkaocdaaGreatDoorPqV
import Derived.Test.YtojmkdggkaocdaaGreatDoorPqW
import Derived.Test.YtojmkdggkaocdaaGreatDoorPqN
import Derived.Test.YtojmkdggkaocdaaGreatDoorPqO
import Derived.Test.YtojmkdggkaocdaaGreatDoorTie
import Derived.Test.YtojmkdggkaocdaaGreatDoorCards
import Derived.LaidMore
import Derived.Lay
import Derived.OpenVars
import Derived.Stop.LaidErr
import Derived.Deep.DeepCutAuto
import Derived.RegionTactic
import Derived.Deep.RegionHeldLaw
import Derived.Deep.RegionHeld3
set_option linter.unusedSimpArgs false
set_option linter.unusedVariables false
namespace Go.Proofs.YtojmkdggkaocdaaGreatDoor.fnExactPassHop
open Go.ChangeShapes Go.WideShapes Go.ChangeAt Go.RowKit
set_option linter.unusedVariables false
set_option maxRecDepth 1000000

theorem over : Rows.fnExactPassHopRow.holds Tryz.pinned (OpenSpec.ofChange Rows.fnExactPassHopSpec) :=
  OpenClaim.holds_of_wide 3 Tryz.f3 rfl rfl rfl rfl rfl rfl rfl ⟨rfl, rfl, rfl, rfl, rfl⟩ rfl rfl rfl rfl rfl (by kernel_rfl) Tryz.func3 facts
    (of_decide_eq_true (by kernel_rfl)) (by unfold Func.isWrapper; first | (rw [if_pos (by decide +kernel)]; kernel_rfl) | (rw [if_neg (by decide +kernel)]; exact ⟨rfl, rfl⟩))
    (fun os started H enc _ => lifted os started H enc)

/-- The given statement: the law's card, tied. -/
theorem proved : Rows.FnExactPassHopCardSaid :=
  Claim7.holds_tied_plain_at .later [] _ true _ _
    over (fun _ h => by cases h) (by kernel_rfl) (fun _ h => by cases h) fnExactPassHop_row_tie rfl ⟨rfl, rfl⟩ (by kernel_rfl) rfl
    (fun f fn hf hfn => by
      obtain rfl : f = 3 := Option.some.inj ((show Tryz.prog.funcNamed "loop.example/g03012/laws.FnExactPassHop" = some 3 by kernel_rfl).symm.trans hf) |>.symm
      obtain rfl : fn = Tryz.f3 := (Option.some.inj (Tryz.func3.symm.trans hfn)).symm
      exact ⟨by kernel_rfl, fun j t ht => by
        rw [Tryz.params3] at ht
        have hm : t ∈ [24, 3, 26] := by simpa using Array.mem_of_getElem? ht
        have hall : ([24, 3, 26].all fun u => !Tryz.prog.wantsStandIn u) = true := by kernel_rfl
        exact (show Tryz.prog.wantsStandIn t = false by simpa using List.all_eq_true.1 hall t hm)⟩)
    (by kernel_rfl)
#print axioms proved
end Go.Proofs.YtojmkdggkaocdaaGreatDoor.fnExactPassHop
