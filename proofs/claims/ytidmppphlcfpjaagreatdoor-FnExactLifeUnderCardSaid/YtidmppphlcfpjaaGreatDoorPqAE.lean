/-
  CONTRACTS AND PLAIN FACTS, several texts in one; each says in its own words what it proves.
-/
import Derived.Test.YtidmppphlcfpjaaGreatDoorPqAD
import Derived.Test.YtidmppphlcfpjaaGreatDoorPqF
import Derived.Stop.LaidErr
set_option linter.unusedSimpArgs false
set_option linter.unusedVariables false

/-
  FROM A ROW's LISTED VARIABLES to what the contracts ask of the world: the two errors of the library's number reader, wherever they stand on the list.
-/
namespace Go.Proofs.YtidmppphlcfpjaaGreatDoor.Laid
open Go
set_option linter.unusedVariables false
set_option maxRecDepth 1000000

theorem at_head {P : Program} {w : World} {n : String} {d : DataW Unit} : ∀ {l : List (String × DataW Unit)}, laidMet P l w → (n, d) ∈ l → ∃ r, laidMet P ((n, d) :: r) w
  | [], _, hm => by cases hm
  | x :: r, h, hm => by
    rcases List.mem_cons.1 hm with e | e
    · cases e; exact ⟨r, h⟩
    · exact at_head h.tail e
theorem errs {l : List (String × DataW Unit)} {W : World} (h : laidMet Tryz.prog l W) (h1 : ("strconv.ErrSyntax", Rows.laid_strconv_ErrSyntax) ∈ l) (h2 : ("strconv.ErrRange", Rows.laid_strconv_ErrRange) ∈ l) : Par.Errs W := by
  obtain ⟨r1, k1⟩ := at_head h h1
  obtain ⟨r2, k2⟩ := at_head h h2
  have row : ∀ u, Tryz.prog.typeName? 3 u = some "*errors.errorString" → u = 259 :=
    fun u hu => typeName_ptr_named (nm := "errors.errorString") (by kernel_rfl) (by kernel_rfl) (by decide) u hu
  obtain ⟨a1, s1, v1, _⟩ := laid_sentinel k1 (show Tryz.prog.globalNamed "strconv.ErrSyntax" = some 3 by kernel_rfl) (show (Tryz.prog.globals[3]?).map (·.type) = some 104 by kernel_rfl) Tryz.underlying104 row Tryz.underlying259 Tryz.underlying261 rfl rfl Tryz.underlying9 (by kernel_rfl) (by kernel_rfl)
  obtain ⟨a2, s2, v2, _⟩ := laid_sentinel k2 (show Tryz.prog.globalNamed "strconv.ErrRange" = some 4 by kernel_rfl) (show (Tryz.prog.globals[4]?).map (·.type) = some 104 by kernel_rfl) Tryz.underlying104 row Tryz.underlying259 Tryz.underlying261 rfl rfl Tryz.underlying9 (by kernel_rfl) (by kernel_rfl)
  exact ⟨⟨_, _, v1⟩, ⟨_, _, v2⟩⟩
end Go.Proofs.YtidmppphlcfpjaaGreatDoor.Laid
