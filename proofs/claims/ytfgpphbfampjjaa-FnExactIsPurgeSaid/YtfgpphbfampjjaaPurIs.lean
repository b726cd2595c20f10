/-
  CONTRACTS of both sides' IsPurge; nothing that was there before is changed.
-/
import Derived.Test.YtfgpphbfampjjaaPur
import Derived.Test.YtfgpphbfampjjaaNumIn
import Derived.LoopTactic
import Derived.Outline
namespace Go.Proofs.Ytfgpphbfampjjaa.Pur
open Go Go.RowKit
set_option linter.unusedVariables false

/-- A purge whose parts are as they should be. -/
def okp (f : T) : Bool := decide (1 ≤ f.1 ∧ f.1 ≤ 1000000000000) && (decide (1 ≤ f.2.1 ∧ f.2.1 ≤ 3) && (decide (f.2.2.length ≤ 160) && (decide (f.2.1 ≠ 1) || decide (f.2.2 = []))))
def BoolEnd (b : Bool) (w : World) (e : Ending) (w' : World) : Prop := e = .returned (.bool b) ∧ Below w.heap.size w w'
theorem ret_b {a b : Bool} (h : a = b) : Ending.returned (.bool a) = .returned (.bool b) := by rw [h]
theorem bsz (y : List UInt8) : (⟨y.toArray⟩ : ByteArray).size = y.length := by simp [ByteArray.size]

set_option maxHeartbeats 2000000 in
theorem spec_isp (x y : Int) (t : List UInt8) (w : World) (ht : t.length ≤ 1048576) :
    Calls Try.prog 12 #[fv (x, y, t)] w (BoolEnd (okp (x, y, t)) w) := by
  unfold fv
  have HB : Hid (Below w.heap.size w (w.alloc (.cells #[.int .i64 x, .int .i64 y, .string ⟨t.toArray⟩] 26))) := Lib.hid ((Below.refl _ _).alloc (Nat.le_refl _) _)
  by_cases h1 : 1 ≤ x ∧ x ≤ 1000000000000
  case neg =>
    have HE : Hid (okp (x, y, t) = false) := Lib.hid (by unfold okp; simp [h1])
    have HN : Hid (x < 1 ∨ 1000000000000 < x) := Lib.hid (by omega)
    clear h1
    go_enter Try.func12, Try.ntmps12
    go_wp2_with (go_at_call 45; (with_reducible refine (NumDiv.in_no _ _ _ _ HN.out).mono ?_); rintro e w' ⟨rfl, rfl⟩)
    go_ret
    exact ⟨ret_b HE.out.symm, HB.out⟩
  obtain ⟨h1, h1'⟩ := h1
  by_cases h2 : 1 ≤ y ∧ y ≤ 3
  case neg =>
    have HE : Hid (okp (x, y, t) = false) := Lib.hid (by unfold okp; simp [h2])
    have HN : Hid (y < 1 ∨ 3 < y) := Lib.hid (by omega)
    clear h2
    go_enter Try.func12, Try.ntmps12
    go_wp2_with (fail)
    go_at_call 45
    refine (NumDiv.in_yes _ _ _ _ h1 h1').mono ?_
    rintro e w' ⟨rfl, rfl⟩
    go_wp2_with (fail)
    go_at_call 45
    refine (NumDiv.in_no _ _ _ _ HN.out).mono ?_
    rintro e w' ⟨rfl, rfl⟩
    go_wp2
    go_ret
    exact ⟨ret_b HE.out.symm, HB.out⟩
  obtain ⟨h2, h2'⟩ := h2
  by_cases h3 : (t.length : Int) ≤ 160
  case neg =>
    have HE : Hid (okp (x, y, t) = false) := Lib.hid (by unfold okp; simp; omega)
    go_enter Try.func12, Try.ntmps12
    go_wp2_with (fail)
    go_at_call 45
    refine (NumDiv.in_yes _ _ _ _ h1 h1').mono ?_
    rintro e w' ⟨rfl, rfl⟩
    go_wp2_with (fail)
    go_at_call 45
    refine (NumDiv.in_yes _ _ _ _ h2 h2').mono ?_
    rintro e w' ⟨rfl, rfl⟩
    go_wp2
    go_ret
    exact ⟨ret_b HE.out.symm, HB.out⟩
  by_cases h4 : y = 1
  · subst h4
    by_cases h5 : t = []
    · subst h5
      have HE : Hid (okp (x, 1, []) = true) := Lib.hid (by unfold okp; simp; omega)
      go_enter Try.func12, Try.ntmps12
      go_wp2_with (fail)
      go_at_call 45
      refine (NumDiv.in_yes _ _ _ _ h1 h1').mono ?_
      rintro e w' ⟨rfl, rfl⟩
      go_wp2_with (fail)
      go_at_call 45
      refine (NumDiv.in_yes _ _ _ _ h2 h2').mono ?_
      rintro e w' ⟨rfl, rfl⟩
      go_wp2
      go_ret
      exact ⟨ret_b HE.out.symm, HB.out⟩
    · have HE : Hid (okp (x, 1, t) = false) := Lib.hid (by unfold okp; simp [h5])
      have hq : (t == []) = false := by simpa using h5
      clear h5
      go_enter Try.func12, Try.ntmps12
      go_wp2_with (fail)
      go_at_call 45
      refine (NumDiv.in_yes _ _ _ _ h1 h1').mono ?_
      rintro e w' ⟨rfl, rfl⟩
      go_wp2_with (fail)
      go_at_call 45
      refine (NumDiv.in_yes _ _ _ _ h2 h2').mono ?_
      rintro e w' ⟨rfl, rfl⟩
      go_wp2
      go_ret
      exact ⟨ret_b HE.out.symm, HB.out⟩
  · have HE : Hid (okp (x, y, t) = true) := Lib.hid (by unfold okp; simp; omega)
    have hq : (y != 1) = true := by simpa using h4
    clear h4
    go_enter Try.func12, Try.ntmps12
    go_wp2_with (fail)
    go_at_call 45
    refine (NumDiv.in_yes _ _ _ _ h1 h1').mono ?_
    rintro e w' ⟨rfl, rfl⟩
    go_wp2_with (fail)
    go_at_call 45
    refine (NumDiv.in_yes _ _ _ _ h2 h2').mono ?_
    rintro e w' ⟨rfl, rfl⟩
    go_wp2
    go_ret
    exact ⟨ret_b HE.out.symm, HB.out⟩

set_option maxHeartbeats 2000000 in
theorem impl_isp (x y : Int) (t : List UInt8) (w : World) (ht : t.length ≤ 1048576) :
    Calls Try.prog 14 #[fv (x, y, t)] w (BoolEnd (okp (x, y, t)) w) := by
  unfold fv
  have HB : Hid (Below w.heap.size w (w.alloc (.cells #[.int .i64 x, .int .i64 y, .string ⟨t.toArray⟩] 26))) := Lib.hid ((Below.refl _ _).alloc (Nat.le_refl _) _)
  by_cases h2 : 1 ≤ y ∧ y ≤ 3
  case neg =>
    have HE : Hid (okp (x, y, t) = false) := Lib.hid (by unfold okp; simp [h2])
    have q1 : (y == 1) = false := by simp; omega
    have q2 : (y == 2) = false := by simp; omega
    have q3 : (y == 3) = false := by simp; omega
    clear h2
    go_enter Try.func14, Try.ntmps14
    go_wp2
    go_ret
    exact ⟨ret_b HE.out.symm, HB.out⟩
  have hy : y = 1 ∨ y = 2 ∨ y = 3 := by omega
  clear h2
  by_cases h1 : 1 ≤ x
  case neg =>
    have HE : Hid (okp (x, y, t) = false) := Lib.hid (by unfold okp; simp [h1])
    rcases hy with rfl | rfl | rfl
    all_goals
      go_enter Try.func14, Try.ntmps14
      go_wp2
      go_ret
      exact ⟨ret_b HE.out.symm, HB.out⟩
  by_cases h1' : x ≤ 1000000000000
  case neg =>
    have HE : Hid (okp (x, y, t) = false) := Lib.hid (by unfold okp; simp [h1'])
    rcases hy with rfl | rfl | rfl
    all_goals
      go_enter Try.func14, Try.ntmps14
      go_wp2
      go_ret
      exact ⟨ret_b HE.out.symm, HB.out⟩
  by_cases h3 : (t.length : Int) ≤ 160
  case neg =>
    have HE : Hid (okp (x, y, t) = false) := Lib.hid (by unfold okp; simp; omega)
    rcases hy with rfl | rfl | rfl
    all_goals
      go_enter Try.func14, Try.ntmps14
      go_wp2
      go_ret
      exact ⟨ret_b HE.out.symm, HB.out⟩
  rcases hy with rfl | rfl | rfl
  · by_cases h5 : t = []
    · subst h5
      have HE : Hid (okp (x, 1, []) = true) := Lib.hid (by unfold okp; simp; omega)
      go_enter Try.func14, Try.ntmps14
      go_wp2
      go_ret
      exact ⟨ret_b HE.out.symm, HB.out⟩
    · have HE : Hid (okp (x, 1, t) = false) := Lib.hid (by unfold okp; simp [h5])
      have hq : (t == []) = false := by simpa using h5
      clear h5
      go_enter Try.func14, Try.ntmps14
      go_wp2
      go_ret
      exact ⟨ret_b HE.out.symm, HB.out⟩
  · have HE : Hid (okp (x, 2, t) = true) := Lib.hid (by unfold okp; simp; omega)
    go_enter Try.func14, Try.ntmps14
    go_wp2
    go_ret
    exact ⟨ret_b HE.out.symm, HB.out⟩
  · have HE : Hid (okp (x, 3, t) = true) := Lib.hid (by unfold okp; simp; omega)
    go_enter Try.func14, Try.ntmps14
    go_wp2
    go_ret
    exact ⟨ret_b HE.out.symm, HB.out⟩
end Go.Proofs.Ytfgpphbfampjjaa.Pur
