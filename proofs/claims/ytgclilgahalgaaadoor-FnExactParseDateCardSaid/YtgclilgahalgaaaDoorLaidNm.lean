/-
  FROM A ROW's LISTED VARIABLES to what the contracts ask of the world: the program's tables of names, wherever they stand on the list.
-/
import Derived.Test.YtgclilgahalgaaaDoorDateM
import Derived.Test.YtgclilgahalgaaaDoorDayI
import Derived.Test.YtgclilgahalgaaaDoorLaidMds
import Derived.Lib.LaidTab
namespace Go.Proofs.YtgclilgahalgaaaDoor.Dt
open Go Go.RowKit
set_option linter.unusedVariables false

def txv (x : List UInt8) : Value := .string ⟨x.toArray⟩
def txData {H : Type} (xs : List (List UInt8)) : DataW H := .agg (xs.map fun x => .lit (.string x))
/-- An array of texts that reads as these texts holds them, cell for cell. -/
theorem cells_of_texts {P : Program} {w : World} {base : Nat} {sp : Nat → Bool} {held : Bool} {fuel : Nat} {t e : TypeId} {n : Nat} {cs : List Value} {zs : List (List UInt8)} {p : List MemPlace}
    (ht : P.underlying t = some (.array n e)) (he : P.underlying e = some .string) (hce : P.cellsOf e = 1) (hct : P.cellsOf t = n)
    (h : DataW.trod (fun _ => ()) P w base sp held fuel t cs = some (txData zs, p)) : cs = zs.map txv := by
  cases fuel with
  | zero => simp [DataW.trod] at h
  | succ fuel =>
    simp only [DataW.trod, ht, hce, hct, Nat.mul_one] at h
    split at h
    · rename_i hl
      obtain ⟨xs, hm, hx⟩ := Option.map_eq_some_iff.1 h
      have hxs : xs.map (·.1) = zs.map fun z => (DataW.lit (.string z) : DataW Unit) := by
        have := congrArg Prod.fst hx
        simpa [txData] using this
      have hxl : xs.length = n := by simpa using Lib.mapM_length hm
      have hzl : zs.length = n := by
        have := congrArg List.length hxs
        simp at this; omega
      apply List.ext_getElem?
      intro i
      by_cases hi : i < n
      · obtain ⟨b, hb, hf⟩ := Lib.mapM_at hm i i (by simp [hi])
        obtain ⟨s, hc, rfl, _⟩ := DataW.trod_string he hf
        have h1 : cs[i]? = some (.string s) := by
          have := congrArg (·[0]?) hc
          simpa [List.getElem?_take, List.getElem?_drop] using this
        have h2 : (xs.map (·.1))[i]? = some (DataW.lit (.string s.data.toList) : DataW Unit) := by simp [hb]
        rw [hxs] at h2
        simp only [List.getElem?_map, Option.map_eq_some_iff, DataW.lit.injEq, Lit.string.injEq] at h2
        obtain ⟨z', hz', e'⟩ := h2
        rw [h1, List.getElem?_map, hz']
        simp [txv, e']
      · rw [List.getElem?_eq_none (by omega), List.getElem?_eq_none (by simp; omega)]
    · cases h
def Names (w : World) : Prop := w.var? Tryd.prog "loop.example/g03012/impl.weekdayNames" = some (days7.map txv).toArray ∧ w.var? Tryd.prog "loop.example/g03012/impl.monthNames" = some (mons12.map txv).toArray
theorem names_below {W w1 : World} (h : Names W) (hb : Below W.heap.size W w1) : Names w1 := ⟨Base.var_below h.1 hb, Base.var_below h.2 hb⟩
theorem day_cell {w : World} (h : Names w) {k : Nat} (hk : k < 7) : w.cell? ⟨1, k, none⟩ = some (.string ⟨(dnm k).toArray⟩) := by
  rw [cell_of_var (name := "loop.example/g03012/impl.weekdayNames") (by kernel_rfl) h.1]
  have : ∀ k : Fin 7, ((days7.map txv).toArray)[k.1]? = some (.string ⟨(dnm k.1).toArray⟩) := by intro k; match k with | ⟨0, _⟩ => rfl | ⟨1, _⟩ => rfl | ⟨2, _⟩ => rfl | ⟨3, _⟩ => rfl | ⟨4, _⟩ => rfl | ⟨5, _⟩ => rfl | ⟨6, _⟩ => rfl
  exact this ⟨k, hk⟩
theorem mon_cell {w : World} (h : Names w) {k : Nat} (hk : k < 12) : w.cell? ⟨0, k, none⟩ = some (.string ⟨(mnm k).toArray⟩) := by
  rw [cell_of_var (name := "loop.example/g03012/impl.monthNames") (by kernel_rfl) h.2]
  have : ∀ k : Fin 12, ((mons12.map txv).toArray)[k.1]? = some (.string ⟨(mnm k.1).toArray⟩) := by intro k; match k with | ⟨0, _⟩ => rfl | ⟨1, _⟩ => rfl | ⟨2, _⟩ => rfl | ⟨3, _⟩ => rfl | ⟨4, _⟩ => rfl | ⟨5, _⟩ => rfl | ⟨6, _⟩ => rfl | ⟨7, _⟩ => rfl | ⟨8, _⟩ => rfl | ⟨9, _⟩ => rfl | ⟨10, _⟩ => rfl | ⟨11, _⟩ => rfl
  exact this ⟨k, hk⟩
theorem days_datum : (Rows.laid_loop_example_g03012_impl_weekdayNames : DataW Unit) = txData days7 := by kernel_rfl
theorem mons_datum : (Rows.laid_loop_example_g03012_impl_monthNames : DataW Unit) = txData mons12 := by kernel_rfl
theorem laid_names {l : List (String × DataW Unit)} {W : World} (h : laidMet Tryd.prog l W) (h1 : ("loop.example/g03012/impl.weekdayNames", Rows.laid_loop_example_g03012_impl_weekdayNames) ∈ l) (h2 : ("loop.example/g03012/impl.monthNames", Rows.laid_loop_example_g03012_impl_monthNames) ∈ l) : Names W := by
  obtain ⟨ps, hv, _⟩ := h
  constructor
  · obtain ⟨g, t, cs, fuel, p, hg, ht, hvar, hd⟩ := Laid.of_vars' hv _ _ h1
    obtain rfl := Option.some.inj ((show Tryd.prog.globalNamed "loop.example/g03012/impl.weekdayNames" = some 1 by kernel_rfl).symm.trans hg)
    obtain rfl := Option.some.inj ((show (Tryd.prog.globals[1]?).map (·.type) = some 46 by kernel_rfl).symm.trans ht)
    rw [days_datum] at hd
    rw [hvar, ← cells_of_texts Tryd.underlying46 Tryd.underlying9 (by kernel_rfl) (by kernel_rfl) hd]
  · obtain ⟨g, t, cs, fuel, p, hg, ht, hvar, hd⟩ := Laid.of_vars' hv _ _ h2
    obtain rfl := Option.some.inj ((show Tryd.prog.globalNamed "loop.example/g03012/impl.monthNames" = some 0 by kernel_rfl).symm.trans hg)
    obtain rfl := Option.some.inj ((show (Tryd.prog.globals[0]?).map (·.type) = some 45 by kernel_rfl).symm.trans ht)
    rw [mons_datum] at hd
    rw [hvar, ← cells_of_texts Tryd.underlying45 Tryd.underlying9 (by kernel_rfl) (by kernel_rfl) hd]
end Go.Proofs.YtgclilgahalgaaaDoor.Dt
