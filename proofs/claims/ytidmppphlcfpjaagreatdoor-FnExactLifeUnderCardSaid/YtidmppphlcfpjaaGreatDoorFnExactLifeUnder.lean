/-
  PROVED: at any list of rules, any request and any response the program's LifeUnder returns what its model returns and writes into no argument: the exact law of LifeUnder returns true and leaves its arguments as they were. CONDITION: the program's tables of weekdays, months and days of months, its two errors of directives, the library's table of powers of ten and its errors of numbers read as their texts lay them, the other listed variables as pinned (the card ties them to the text of the pruned project).
-/
import Derived.Test.YtidmppphlcfpjaaGreatDoorPqA
import Derived.Test.YtidmppphlcfpjaaGreatDoorPqAG
import Derived.Test.YtidmppphlcfpjaaGreatDoorPqAH
import Derived.Carry
import Derived.Test.YtidmppphlcfpjaaGreatDoorPqB
import Derived.Test.YtidmppphlcfpjaaGreatDoorPqC
import Derived.Test.YtidmppphlcfpjaaGreatDoorPqAD
import Derived.Test.YtidmppphlcfpjaaGreatDoorPqAE
import Derived.Test.YtidmppphlcfpjaaGreatDoorPqS
import Derived.Test.YtidmppphlcfpjaaGreatDoorPqY
import Derived.Test.YtidmppphlcfpjaaGreatDoorPqL
import Derived.Test.YtidmppphlcfpjaaGreatDoorTie
import Derived.Test.YtidmppphlcfpjaaGreatDoorCards
import Derived.LaidMore
import Derived.Lay
import Derived.OpenVars
import Derived.Stop.LaidErr
import Derived.RegionTactic
import Derived.Deep.RegionHeldLaw
namespace Go.Proofs.YtidmppphlcfpjaaGreatDoor.fnExactLifeUnder
open Go.ChangeShapes Go.WideShapes Go.ChangeAt Go.RowKit
set_option linter.unusedVariables false
set_option maxRecDepth 1000000

theorem over : Rows.fnExactLifeUnderRow.holds Tryz.pinned (OpenSpec.ofChange Rows.fnExactLifeUnderSpec) :=
  OpenClaim.holds_of_wide 5 Tryz.f5 rfl rfl rfl rfl rfl rfl rfl ⟨rfl, rfl, rfl, rfl, rfl⟩ rfl rfl rfl rfl rfl (by kernel_rfl) Tryz.func5 facts
    (of_decide_eq_true (by kernel_rfl)) (by unfold Func.isWrapper; first | (rw [if_pos (by decide +kernel)]; kernel_rfl) | (rw [if_neg (by decide +kernel)]; exact ⟨rfl, rfl⟩))
    (fun os started H enc _ => lifted os started H enc)

/-- The given statement: the law's card, tied. -/
theorem proved : Rows.FnExactLifeUnderCardSaid :=
  Claim7.holds_tied_plain_at .later [] _ true _ _
    over (fun _ h => by cases h) (by kernel_rfl) (fun _ h => by cases h) fnExactLifeUnder_row_tie rfl ⟨rfl, rfl⟩ (by kernel_rfl) rfl
    (fun f fn hf hfn => by
      obtain rfl : f = 5 := Option.some.inj ((show Tryz.prog.funcNamed "loop.example/g03012/laws.FnExactLifeUnder" = some 5 by kernel_rfl).symm.trans hf) |>.symm
      obtain rfl : fn = Tryz.f5 := (Option.some.inj (Tryz.func5.symm.trans hfn)).symm
      exact ⟨by kernel_rfl, fun j t ht => by
        rw [Tryz.params5] at ht
        have hm : t ∈ [32, 35, 37] := by simpa using Array.mem_of_getElem? ht
        have hall : ([32, 35, 37].all fun u => !Tryz.prog.wantsStandIn u) = true := by kernel_rfl
        exact (show Tryz.prog.wantsStandIn t = false by simpa using List.all_eq_true.1 hall t hm)⟩)
    (by kernel_rfl)
#print axioms proved
end Go.Proofs.YtidmppphlcfpjaaGreatDoor.fnExactLifeUnder
