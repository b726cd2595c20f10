/-
  CONTRACTS of both sides' ControlOf; nothing that was there before is changed.
-/
import Derived.Test.YtoledhjjbneggaaVer
import Derived.Test.YtoledhjjbneggaaJoinI
import Derived.Test.YtoledhjjbneggaaKept
import Derived.LoopTactic
namespace Go.Proofs.Ytoledhjjbneggaa.Ver
open Go Go.RowKit
set_option linter.unusedVariables false

def pri : List UInt8 := [112, 114, 105, 118, 97, 116, 101]
/-- The rule for caches of a page: c is its control, p tells that it is private. -/
def ctl (p : Bool) (c : List UInt8) : List UInt8 := if p then (if c = [] then pri else pri ++ [44, 32] ++ c) else c
def CtlEnd (t : List UInt8) (w : World) (e : Ending) (w' : World) : Prop := e = .returned (.string ⟨t.toArray⟩) ∧ Below w.heap.size w w'
theorem ret_ctl {a b : List UInt8} (h : a = b) : Ending.returned (.string ⟨a.toArray⟩) = .returned (.string ⟨b.toArray⟩) := by rw [h]
theorem ctl_join (c : List UInt8) : Tx.join [pri, c] = pri ++ [44, 32] ++ c := by
  simp [Tx.join, Lib.join, pri]

theorem lit2 (a b : List UInt8) {w : World} {T : TypeId} {n : Nat} (hn : w.heap.size = n) : Strs.Holds (w.alloc (.cells #[.string ⟨a.toArray⟩, .string ⟨b.toArray⟩] T)) (n + 1) (.slice (some ⟨n, 0, none⟩) 2 2) [a, b] := by
  subst hn
  refine Or.inr ⟨by simp, _, 0, 2, rfl, by omega, by simp, fun j hj => ?_⟩
  rw [World.cell?_alloc_new]
  match j, hj with
  | 0, _ => rfl
  | 1, _ => rfl
  | j + 2, h => exact absurd h (by simp)

set_option maxHeartbeats 1000000 in
theorem spec_ctl (x c k : List UInt8) (p : Bool) (u v : Value) (w : World) (hc : c.length ≤ 1048576) :
    Calls Try.prog 15 #[.agg #[.string ⟨x.toArray⟩, .string ⟨c.toArray⟩, .string ⟨k.toArray⟩, .bool p, u, v]] w (CtlEnd (ctl p c) w) := by
  have HB : Hid (Below w.heap.size w (w.alloc (.cells #[.string ⟨x.toArray⟩, .string ⟨c.toArray⟩, .string ⟨k.toArray⟩, .bool p, u, v] 39))) := Lib.hid ((Below.refl _ _).alloc (Nat.le_refl _) _)
  cases p with
  | false =>
    go_enter Try.func15, Try.ntmps15
    go_wp2
    go_ret
    exact ⟨ret_ctl (by simp [ctl]), HB.out⟩
  | true =>
    by_cases h2 : c = []
    · subst h2
      go_enter Try.func15, Try.ntmps15
      go_wp2
      go_ret
      exact ⟨ret_ctl (by simp [ctl, pri]), HB.out⟩
    · have HE : Hid (ctl true c = [112, 114, 105, 118, 97, 116, 101, 44, 32] ++ c) := Lib.hid (by simp [ctl, h2, pri])
      have q2 : c.isEmpty = false := by simpa using h2
      have a2 := Tx.addtwo [112, 114, 105, 118, 97, 116, 101, 44, 32] c (by simp only [List.length_cons, List.length_nil]; omega)
      generalize [112, 114, 105, 118, 97, 116, 101, 44, 32] ++ c = v1 at a2 HE
      go_enter Try.func15, Try.ntmps15
      go_wp2
      go_ret
      exact ⟨ret_ctl HE.out.symm, HB.out⟩

set_option maxHeartbeats 1000000 in
theorem impl_ctl (x c k : List UInt8) (p : Bool) (u v : Value) (w : World) (hc : c.length ≤ 1048576) :
    Calls Try.prog 17 #[.agg #[.string ⟨x.toArray⟩, .string ⟨c.toArray⟩, .string ⟨k.toArray⟩, .bool p, u, v]] w (CtlEnd (ctl p c) w) := by
  have HB : Hid (Below w.heap.size w (w.alloc (.cells #[.string ⟨x.toArray⟩, .string ⟨c.toArray⟩, .string ⟨k.toArray⟩, .bool p, u, v] 39))) := Lib.hid ((Below.refl _ _).alloc (Nat.le_refl _) _)
  cases p with
  | false =>
    go_enter Try.func17, Try.ntmps17
    go_wp2
    go_ret
    exact ⟨ret_ctl (by simp [ctl]), HB.out⟩
  | true =>
    by_cases h2 : c = []
    · subst h2
      go_enter Try.func17, Try.ntmps17
      go_wp2
      go_ret
      exact ⟨ret_ctl (by simp [ctl, pri]), HB.out⟩
    · have HE : Hid (ctl true c = Tx.join [pri, c]) := Lib.hid (by rw [ctl_join]; simp [ctl, h2])
      have q2 : c.isEmpty = false := by simpa using h2
      go_enter Try.func17, Try.ntmps17
      go_wp2_with (fail)
      go_at_call 34
      refine (Tx.impl_join _ (w.heap.size + 1 + 1) [pri, c] _ (lit2 pri c (by simp)) (by simp [Strs.total, pri]; omega)).mono ?_
      rintro e w1 ⟨rfl, hb1⟩
      have HB1 := Lib.hid ((HB.out.alloc HB.out.size (.cells #[.string ⟨#[112, 114, 105, 118, 97, 116, 101]⟩, .string ⟨c.toArray⟩] 9)).trans (hb1.mono (by simp; omega)))
      clear hb1
      go_wp2
      go_ret
      exact ⟨ret_ctl HE.out.symm, HB1.out⟩
end Go.Proofs.Ytoledhjjbneggaa.Ver
