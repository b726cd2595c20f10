/-
  PROVED: at any list of purges, any request and any response the program's HitsAnswer returns what its model returns and writes into no argument: the exact law of HitsAnswer returns true and leaves its arguments as they were. CONDITION: the library's table of powers of ten and its two errors of numbers that the row lists read as the library's text lays them, the other listed variables as pinned (the card ties them to the text of the pruned project).
-/
import Derived.Test.YtojmkdggkaocdaaGreatDoorPvA
import Derived.Carry
import Derived.Test.YtojmkdggkaocdaaGreatDoorPvZ
import Derived.Test.YtojmkdggkaocdaaGreatDoorPvF
import Derived.Test.YtojmkdggkaocdaaGreatDoorPvAP
import Derived.Test.YtojmkdggkaocdaaGreatDoorPvAR
import Derived.Test.YtojmkdggkaocdaaGreatDoorPvAS
import Derived.Test.YtojmkdggkaocdaaGreatDoorPvY
import Derived.Test.YtojmkdggkaocdaaGreatDoorPvR
import Derived.Test.YtojmkdggkaocdaaGreatDoorTie
import Derived.Test.YtojmkdggkaocdaaGreatDoorCards
import Derived.LaidMore
import Derived.Lay
import Derived.OpenVars
import Derived.Stop.LaidErr
import Derived.RegionTactic
import Derived.Deep.RegionHeldLaw
namespace Go.Proofs.YtojmkdggkaocdaaGreatDoor.fnExactHitsAnswer
open Go.ChangeShapes Go.WideShapes Go.ChangeAt Go.RowKit
set_option linter.unusedVariables false
set_option maxRecDepth 1000000

theorem over : Rows.fnExactHitsAnswerRow.holds Tryz.pinned (OpenSpec.ofChange Rows.fnExactHitsAnswerSpec) :=
  OpenClaim.holds_of_wide 6 Tryz.f6 rfl rfl rfl rfl rfl rfl rfl ⟨rfl, rfl, rfl, rfl, rfl⟩ rfl rfl rfl rfl rfl (by kernel_rfl) Tryz.func6 facts
    (of_decide_eq_true (by kernel_rfl)) (by unfold Func.isWrapper; first | (rw [if_pos (by decide +kernel)]; kernel_rfl) | (rw [if_neg (by decide +kernel)]; exact ⟨rfl, rfl⟩))
    (fun os started H enc _ => lifted os started H enc)

/-- The given statement: the law's card, tied. -/
theorem proved : Rows.FnExactHitsAnswerCardSaid :=
  Claim7.holds_tied_plain_at .later [] _ true _ _
    over (fun _ h => by cases h) (by kernel_rfl) (fun _ h => by cases h) fnExactHitsAnswer_row_tie rfl ⟨rfl, rfl⟩ (by kernel_rfl) rfl
    (fun f fn hf hfn => by
      obtain rfl : f = 6 := Option.some.inj ((show Tryz.prog.funcNamed "loop.example/g03012/laws.FnExactHitsAnswer" = some 6 by kernel_rfl).symm.trans hf) |>.symm
      obtain rfl : fn = Tryz.f6 := (Option.some.inj (Tryz.func6.symm.trans hfn)).symm
      exact ⟨by kernel_rfl, fun j t ht => by
        rw [Tryz.params6] at ht
        have hm : t ∈ [67, 52, 24] := by simpa using Array.mem_of_getElem? ht
        have hall : ([67, 52, 24].all fun u => !Tryz.prog.wantsStandIn u) = true := by kernel_rfl
        exact (show Tryz.prog.wantsStandIn t = false by simpa using List.all_eq_true.1 hall t hm)⟩)
    (by kernel_rfl)
#print axioms proved
end Go.Proofs.YtojmkdggkaocdaaGreatDoor.fnExactHitsAnswer
