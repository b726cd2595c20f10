/-
  FROM A ROW's LISTED VARIABLES to what the contracts ask of the world: the program's table of months, wherever it stands on the list.
-/
import Derived.Test.YtgclilgahalgaaaDoorDayI
namespace Go.Proofs.YtgclilgahalgaaaDoor.Laid
open Go
set_option linter.unusedVariables false

theorem of_vars' {P : Program} {w : World} : ∀ {l : List (String × DataW Unit)} {ps : List MemPlace}, DataW.LaidVars P w l ps → ∀ n d, (n, d) ∈ l →
    ∃ g t cs fuel p, P.globalNamed n = some g ∧ (P.globals[g]?).map (·.type) = some t ∧ w.var? P n = some cs ∧ DataW.trod (fun _ => ()) P w 0 (fun _ => true) false fuel t cs.toList = some (d, p)
  | [], _, _, _, _, hm => by cases hm
  | (n', d') :: r, ps, h, n, d, hm => by
    obtain ⟨g, t, cs, fuel, p, q, h1, h2, h3, h4, h5, _⟩ := h
    rcases List.mem_cons.1 hm with e | e
    · cases e
      exact ⟨g, t, cs, fuel, p, h1, h2, h3, h4⟩
    · exact of_vars' h5 n d e
theorem mds_datum : (Rows.laid_loop_example_g03012_impl_monthDays : DataW Unit) = Lib.tabData .i64 Dt.mdays := by kernel_rfl
theorem mds {l : List (String × DataW Unit)} {W : World} (h : laidMet Tryd.prog l W) (hm : ("loop.example/g03012/impl.monthDays", Rows.laid_loop_example_g03012_impl_monthDays) ∈ l) : Dt.Mds W := by
  obtain ⟨ps, hv, _⟩ := h
  obtain ⟨g, t, cs, fuel, p, hg, ht, hvar, hd⟩ := of_vars' hv _ _ hm
  obtain rfl := Option.some.inj ((show Tryd.prog.globalNamed "loop.example/g03012/impl.monthDays" = some 2 by kernel_rfl).symm.trans hg)
  obtain rfl := Option.some.inj ((show (Tryd.prog.globals[2]?).map (·.type) = some 47 by kernel_rfl).symm.trans ht)
  rw [mds_datum] at hd
  unfold Dt.Mds Lib.TabIs
  rw [hvar, ← Lib.cells_of_tab Tryd.underlying47 Tryd.underlying3 (by kernel_rfl) (by kernel_rfl) hd]
end Go.Proofs.YtgclilgahalgaaaDoor.Laid
