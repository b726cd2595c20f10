/-
  CONTRACT of the model's l5Get: the value of a field.
-/
import Derived.Test.YtbkjioggohjnfaaDoorFldGet
namespace Go.Proofs.YtbkjioggohjnfaaDoor.Flds
open Go Go.RowKit
set_option linter.unusedVariables false
set_option maxRecDepth 1000000
/-- The value of the fields with this name. -/
def got (n : List UInt8) (l : List Fld) : List UInt8 := Tx.join (vals n l)
def GotEnd (t : List UInt8) (w : World) (e : Ending) (w' : World) : Prop := e = .returned (.string ⟨t.toArray⟩) ∧ Below w.heap.size w w'
theorem vals_nonempty {n : List UInt8} {l : List Fld} (h : ¬ 0 < (vals n l).length) : got n l = [] := by
  unfold got; rw [List.eq_nil_of_length_eq_zero (l := vals n l) (by omega)]; rfl
theorem got_len (n : List UInt8) (l : List Fld) : (got n l).length ≤ 3 * total l := by
  have h1 := Tx.join_len (vals n l) (vals n l).length (Nat.le_refl _)
  rw [List.take_length] at h1
  have h2 := Tx.pre_le (vals n l) (vals n l).length
  have h3 := vals_total n l
  have h4 := vals_le n l l.length
  rw [List.take_length] at h4
  unfold got
  have h5 : l.length ≤ total l := by unfold total; omega
  unfold Strs.total at h3
  omega
theorem shape_lget {w : World} {B : Nat} {v : Value} {l : List Fld} (h : Holds w B v l) : ∃ a cap, v = .slice a l.length cap ∧ (0 < l.length → ∃ b off, a = some ⟨b, off, none⟩ ∧ b < B ∧ At w b off l) := by
  rcases h with ⟨rfl, a, cap, rfl⟩ | ⟨h0, b, off, cap, rfl, hb, _, hc⟩
  · exact ⟨a, cap, rfl, fun h => by simp at h⟩
  · exact ⟨_, cap, rfl, fun _ => ⟨b, off, rfl, hb, hc⟩⟩

theorem spec_lget (v : Value) (B : Nat) (l : List Fld) (n : List UInt8) (w : World) (h : Holds w B v l) (hl : total l ≤ 67108864) :
    Calls Tryd.prog 15 #[v, .string ⟨n.toArray⟩] w (GotEnd (got n l) w) := by
  have HG := Lib.hid (spec_get v B l n w h hl)
  unfold GetEnd at HG
  unfold got GotEnd
  obtain ⟨a, cap, rfl, _⟩ := shape_lget h
  clear h
  generalize decide (0 < (vals n l).length) = q at HG
  generalize Tx.join (vals n l) = t at HG ⊢
  go_enter Tryd.func15, Tryd.ntmps15
  go_wp2_with (fail)
  go_at_call 26
  refine HG.out.mono ?_
  rintro e w1 ⟨rfl, hb1⟩
  have HB1 := Lib.hid hb1
  clear hb1
  go_wp2
  go_ret
  exact ⟨rfl, HB1.out⟩
end Go.Proofs.YtbkjioggohjnfaaDoor.Flds
