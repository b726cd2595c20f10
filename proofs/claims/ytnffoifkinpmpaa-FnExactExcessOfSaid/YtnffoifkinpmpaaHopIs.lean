/-
  CONTRACTS of both sides' IsHop; nothing that was there before is changed.
-/
import Derived.Test.YtnffoifkinpmpaaHps
import Derived.Test.YtnffoifkinpmpaaNumIn
import Derived.Test.YtnffoifkinpmpaaWin
import Derived.LoopTactic
import Derived.Outline
namespace Go.Proofs.Ytnffoifkinpmpaa.Hps
open Go Go.RowKit
set_option linter.unusedVariables false
set_option maxRecDepth 1000000

/-- A hop whose numbers are as they should be. -/
def okh (f : T) : Bool := decide (-1000 ≤ f.1 ∧ f.1 ≤ 1000) && (decide (0 ≤ f.2.1 ∧ f.2.1 ≤ 1000) && decide (0 ≤ f.2.2 ∧ f.2.2 ≤ 100000))
def BoolEnd (b : Bool) (w : World) (e : Ending) (w' : World) : Prop := e = .returned (.bool b) ∧ Below w.heap.size w w'
theorem ret_b {a b : Bool} (h : a = b) : Ending.returned (.bool a) = .returned (.bool b) := by rw [h]
theorem okh1 {x y z : Int} (h : ¬ (-1000 ≤ x ∧ x ≤ 1000)) : okh (x, y, z) = false := by unfold okh; simp [h]
theorem okh2 {x y z : Int} (h : ¬ (0 ≤ y ∧ y ≤ 1000)) : okh (x, y, z) = false := by unfold okh; simp [h]
theorem okh3 {x y z : Int} (h : ¬ (0 ≤ z ∧ z ≤ 100000)) : okh (x, y, z) = false := by unfold okh; simp [h]
theorem okh4 {x y z : Int} (h1 : -1000 ≤ x ∧ x ≤ 1000) (h2 : 0 ≤ y ∧ y ≤ 1000) (h3 : 0 ≤ z ∧ z ≤ 100000) : okh (x, y, z) = true := by unfold okh; simp [h1, h2, h3]

set_option maxHeartbeats 2000000 in
theorem spec_hop (x y z : Int) (w : World) :
    Calls Try.prog 11 #[fv (x, y, z)] w (BoolEnd (okh (x, y, z)) w) := by
  unfold fv
  have HB : Hid (Below w.heap.size w (w.alloc (.cells #[.int .i64 x, .int .i64 y, .int .i64 z] 25))) := Lib.hid ((Below.refl _ _).alloc (Nat.le_refl _) _)
  by_cases h1 : -1000 ≤ x ∧ x ≤ 1000
  case neg =>
    have HE := Lib.hid (okh1 (x := x) (y := y) (z := z) h1)
    have HN : Hid (x < -1000 ∨ 1000 < x) := Lib.hid (by omega)
    clear h1
    go_enter Try.func11, Try.ntmps11
    go_wp2_with (fail)
    go_at_call 44
    refine (NumDiv.in_no _ _ _ _ HN.out).mono ?_
    rintro e w' ⟨rfl, rfl⟩
    go_wp2
    go_ret
    exact ⟨ret_b HE.out.symm, HB.out⟩
  by_cases h2 : 0 ≤ y ∧ y ≤ 1000
  case neg =>
    have HE := Lib.hid (okh2 (x := x) (y := y) (z := z) h2)
    have HN : Hid (y < 0 ∨ 1000 < y) := Lib.hid (by omega)
    clear h2
    go_enter Try.func11, Try.ntmps11
    go_wp2_with (fail)
    go_at_call 44
    refine (NumDiv.in_yes _ _ _ _ h1.1 h1.2).mono ?_
    rintro e w' ⟨rfl, rfl⟩
    go_wp2_with (fail)
    go_at_call 44
    refine (NumDiv.in_no _ _ _ _ HN.out).mono ?_
    rintro e w' ⟨rfl, rfl⟩
    go_wp2
    go_ret
    exact ⟨ret_b HE.out.symm, HB.out⟩
  by_cases h3 : 0 ≤ z ∧ z ≤ 100000
  case neg =>
    have HE := Lib.hid (okh3 (x := x) (y := y) (z := z) h3)
    have HN : Hid (z < 0 ∨ 100000 < z) := Lib.hid (by omega)
    clear h3
    go_enter Try.func11, Try.ntmps11
    go_wp2_with (fail)
    go_at_call 44
    refine (NumDiv.in_yes _ _ _ _ h1.1 h1.2).mono ?_
    rintro e w' ⟨rfl, rfl⟩
    go_wp2_with (fail)
    go_at_call 44
    refine (NumDiv.in_yes _ _ _ _ h2.1 h2.2).mono ?_
    rintro e w' ⟨rfl, rfl⟩
    go_wp2_with (fail)
    go_at_call 44
    refine (NumDiv.in_no _ _ _ _ HN.out).mono ?_
    rintro e w' ⟨rfl, rfl⟩
    go_wp2
    go_ret
    exact ⟨ret_b HE.out.symm, HB.out⟩
  have HE := Lib.hid (okh4 h1 h2 h3)
  go_enter Try.func11, Try.ntmps11
  go_wp2_with (fail)
  go_at_call 44
  refine (NumDiv.in_yes _ _ _ _ h1.1 h1.2).mono ?_
  rintro e w' ⟨rfl, rfl⟩
  go_wp2_with (fail)
  go_at_call 44
  refine (NumDiv.in_yes _ _ _ _ h2.1 h2.2).mono ?_
  rintro e w' ⟨rfl, rfl⟩
  go_wp2_with (fail)
  go_at_call 44
  refine (NumDiv.in_yes _ _ _ _ h3.1 h3.2).mono ?_
  rintro e w' ⟨rfl, rfl⟩
  go_wp2
  go_ret
  exact ⟨ret_b HE.out.symm, HB.out⟩

set_option maxHeartbeats 2000000 in
theorem impl_hop (x y z : Int) (w : World) :
    Calls Try.prog 13 #[fv (x, y, z)] w (BoolEnd (okh (x, y, z)) w) := by
  unfold fv
  have HB : Hid (Below w.heap.size w (w.alloc (.cells #[.int .i64 x, .int .i64 y, .int .i64 z] 25))) := Lib.hid ((Below.refl _ _).alloc (Nat.le_refl _) _)
  by_cases h1a : -1000 ≤ x
  case neg =>
    have HE := Lib.hid (okh1 (x := x) (y := y) (z := z) (fun h => h1a h.1))
    go_enter Try.func13, Try.ntmps13
    go_wp2
    go_ret
    exact ⟨ret_b HE.out.symm, HB.out⟩
  by_cases h1b : x ≤ 1000
  case neg =>
    have HE := Lib.hid (okh1 (x := x) (y := y) (z := z) (fun h => h1b h.2))
    go_enter Try.func13, Try.ntmps13
    go_wp2
    go_ret
    exact ⟨ret_b HE.out.symm, HB.out⟩
  by_cases h2 : 0 ≤ y ∧ y ≤ 1000
  case neg =>
    have HE := Lib.hid (okh2 (x := x) (y := y) (z := z) h2)
    have HN : Hid (y < 0 ∨ 1000 < y) := Lib.hid (by omega)
    clear h2
    go_enter Try.func13, Try.ntmps13
    go_wp2_with (fail)
    go_at_call 45
    refine (Win.within_no _ _ _ HN.out).mono ?_
    rintro e w' ⟨rfl, rfl⟩
    go_wp2
    go_ret
    exact ⟨ret_b HE.out.symm, HB.out⟩
  by_cases h3 : 0 ≤ z ∧ z ≤ 100000
  case neg =>
    have HE := Lib.hid (okh3 (x := x) (y := y) (z := z) h3)
    have HN : Hid (z < 0 ∨ 100000 < z) := Lib.hid (by omega)
    clear h3
    go_enter Try.func13, Try.ntmps13
    go_wp2_with (fail)
    go_at_call 45
    refine (Win.within_yes _ _ _ h2.1 h2.2).mono ?_
    rintro e w' ⟨rfl, rfl⟩
    go_wp2_with (fail)
    go_at_call 45
    refine (Win.within_no _ _ _ HN.out).mono ?_
    rintro e w' ⟨rfl, rfl⟩
    go_wp2
    go_ret
    exact ⟨ret_b HE.out.symm, HB.out⟩
  have HE := Lib.hid (okh4 ⟨h1a, h1b⟩ h2 h3)
  go_enter Try.func13, Try.ntmps13
  go_wp2_with (fail)
  go_at_call 45
  refine (Win.within_yes _ _ _ h2.1 h2.2).mono ?_
  rintro e w' ⟨rfl, rfl⟩
  go_wp2_with (fail)
  go_at_call 45
  refine (Win.within_yes _ _ _ h3.1 h3.2).mono ?_
  rintro e w' ⟨rfl, rfl⟩
  go_wp2
  go_ret
  exact ⟨ret_b HE.out.symm, HB.out⟩
end Go.Proofs.Ytnffoifkinpmpaa.Hps
