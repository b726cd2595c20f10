/-
  CONTRACTS of both sides' BodyOf; nothing that was there before is changed.
-/
import Derived.Test.YtoledhjjbneggaaVer
import Derived.Test.YtoledhjjbneggaaJoinM
import Derived.LoopTactic
namespace Go.Proofs.Ytoledhjjbneggaa.Ver
open Go Go.RowKit
set_option linter.unusedVariables false

/-- The text of a version as a variant has it. -/
def bod (x l v : List UInt8) : List UInt8 := (if v = [] then [] else v ++ [58, 32]) ++ (if l = [] then x else ([91] ++ l) ++ [93] ++ x)
def BodEnd (t : List UInt8) (w : World) (e : Ending) (w' : World) : Prop := e = .returned (.string ⟨t.toArray⟩) ∧ Below w.heap.size w w'
theorem ret_bod {a b : List UInt8} (h : a = b) : Ending.returned (.string ⟨a.toArray⟩) = .returned (.string ⟨b.toArray⟩) := by rw [h]
set_option maxHeartbeats 1000000 in
theorem spec_bod (a : Int) (x : List UInt8) (g : Bool) (l v : List UInt8) (w : World) (hx : x.length ≤ 1048576) (hl : l.length ≤ 1048576) (hv : v.length ≤ 1048576) :
    Calls Try.prog 11 #[.agg #[.int .i64 a, .string ⟨x.toArray⟩, .bool g], .string ⟨l.toArray⟩, .string ⟨v.toArray⟩] w (BodEnd (bod x l v) w) := by
  have HB : Hid (Below w.heap.size w (w.alloc (.cells #[.int .i64 a, .string ⟨x.toArray⟩, .bool g] 28))) := Lib.hid ((Below.refl _ _).alloc (Nat.le_refl _) _)
  have HY : Hid (∀ y, bod x l v = y → BodEnd y w = BodEnd (bod x l v) w) := Lib.hid (fun y h => by rw [h])
  by_cases h1 : l = []
  · by_cases h2 : v = []
    · have HE : Hid (bod x l v = x) := Lib.hid (by unfold bod; rw [if_pos h1, if_pos h2]; rfl)
      subst h1 h2
      go_enter Try.func11, Try.ntmps11
      go_wp2
      go_ret
      exact ⟨ret_bod HE.out.symm, HB.out⟩
    · have HE : Hid (bod x l v = v ++ [58, 32] ++ x) := Lib.hid (by unfold bod; rw [if_pos h1, if_neg h2])
      subst h1
      have a1 := Tx.addtwo v [58, 32] (by simp only [List.length_cons, List.length_nil]; omega)
      have a2 := Tx.addtwo (v ++ [58, 32]) x (by simp only [List.length_append, List.length_cons, List.length_nil]; omega)
      generalize v ++ [58, 32] = v1 at a1 a2 HE
      generalize v1 ++ x = v2 at a2 HE
      have q2 : v.isEmpty = false := by simpa using h2
      go_enter Try.func11, Try.ntmps11
      go_wp2
      go_ret
      exact ⟨ret_bod HE.out.symm, HB.out⟩
  · have q1 : l.isEmpty = false := by simpa using h1
    have b1 := Tx.addtwo [91] l (by simp only [List.length_cons, List.length_nil]; omega)
    have b2 := Tx.addtwo ([91] ++ l) [93] (by simp only [List.length_append, List.length_cons, List.length_nil]; omega)
    have b3 := Tx.addtwo ([91] ++ l ++ [93]) x (by simp only [List.length_append, List.length_cons, List.length_nil]; omega)
    by_cases h2 : v = []
    · have HE : Hid (bod x l v = [91] ++ l ++ [93] ++ x) := Lib.hid (by unfold bod; rw [if_neg h1, if_pos h2]; rfl)
      subst h2
      generalize [91] ++ l = l1 at b1 b2 b3 HE
      generalize l1 ++ [93] = l2 at b2 b3 HE
      generalize l2 ++ x = l3 at b3 HE
      go_enter Try.func11, Try.ntmps11
      go_wp2
      go_ret
      exact ⟨ret_bod HE.out.symm, HB.out⟩
    · have HE : Hid (bod x l v = v ++ [58, 32] ++ ([91] ++ l ++ [93] ++ x)) := Lib.hid (by unfold bod; rw [if_neg h1, if_neg h2])
      have q2 : v.isEmpty = false := by simpa using h2
      have a1 := Tx.addtwo v [58, 32] (by simp only [List.length_cons, List.length_nil]; omega)
      have a2 := Tx.addtwo (v ++ [58, 32]) ([91] ++ l ++ [93] ++ x) (by simp only [List.length_append, List.length_cons, List.length_nil]; omega)
      generalize [91] ++ l = l1 at b1 b2 b3 a2 HE
      generalize l1 ++ [93] = l2 at b2 b3 a2 HE
      generalize l2 ++ x = l3 at b3 a2 HE
      generalize v ++ [58, 32] = v1 at a1 a2 HE
      generalize v1 ++ l3 = v2 at a2 HE
      go_enter Try.func11, Try.ntmps11
      go_wp2
      go_ret
      exact ⟨ret_bod HE.out.symm, HB.out⟩

set_option maxHeartbeats 1000000 in
theorem impl_bod (a : Int) (x : List UInt8) (g : Bool) (l v : List UInt8) (w : World) (hx : x.length ≤ 1048576) (hl : l.length ≤ 1048576) (hv : v.length ≤ 1048576) :
    Calls Try.prog 13 #[.agg #[.int .i64 a, .string ⟨x.toArray⟩, .bool g], .string ⟨l.toArray⟩, .string ⟨v.toArray⟩] w (BodEnd (bod x l v) w) := by
  have HB : Hid (Below w.heap.size w (w.alloc (.cells #[.int .i64 a, .string ⟨x.toArray⟩, .bool g] 28))) := Lib.hid ((Below.refl _ _).alloc (Nat.le_refl _) _)
  have HY : Hid (∀ y, bod x l v = y → BodEnd y w = BodEnd (bod x l v) w) := Lib.hid (fun y h => by rw [h])
  by_cases h1 : l = []
  · by_cases h2 : v = []
    · have HE : Hid (bod x l v = x) := Lib.hid (by unfold bod; rw [if_pos h1, if_pos h2]; rfl)
      subst h1 h2
      go_enter Try.func13, Try.ntmps13
      go_wp2
      go_ret
      exact ⟨ret_bod HE.out.symm, HB.out⟩
    · have HE : Hid (bod x l v = v ++ [58, 32] ++ x) := Lib.hid (by unfold bod; rw [if_pos h1, if_neg h2])
      subst h1
      have a1 := Tx.addtwo v [58, 32] (by simp only [List.length_cons, List.length_nil]; omega)
      have a2 := Tx.addtwo (v ++ [58, 32]) x (by simp only [List.length_append, List.length_cons, List.length_nil]; omega)
      generalize v ++ [58, 32] = v1 at a1 a2 HE
      generalize v1 ++ x = v2 at a2 HE
      have q2 : v.isEmpty = false := by simpa using h2
      go_enter Try.func13, Try.ntmps13
      go_wp2
      go_ret
      exact ⟨ret_bod HE.out.symm, HB.out⟩
  · have q1 : l.isEmpty = false := by simpa using h1
    have b1 := Tx.addtwo [91] l (by simp only [List.length_cons, List.length_nil]; omega)
    have b2 := Tx.addtwo ([91] ++ l) [93] (by simp only [List.length_append, List.length_cons, List.length_nil]; omega)
    have b3 := Tx.addtwo ([91] ++ l ++ [93]) x (by simp only [List.length_append, List.length_cons, List.length_nil]; omega)
    by_cases h2 : v = []
    · have HE : Hid (bod x l v = [91] ++ l ++ [93] ++ x) := Lib.hid (by unfold bod; rw [if_neg h1, if_pos h2]; rfl)
      subst h2
      generalize [91] ++ l = l1 at b1 b2 b3 HE
      generalize l1 ++ [93] = l2 at b2 b3 HE
      generalize l2 ++ x = l3 at b3 HE
      go_enter Try.func13, Try.ntmps13
      go_wp2
      go_ret
      exact ⟨ret_bod HE.out.symm, HB.out⟩
    · have HE : Hid (bod x l v = v ++ [58, 32] ++ ([91] ++ l ++ [93] ++ x)) := Lib.hid (by unfold bod; rw [if_neg h1, if_neg h2])
      have q2 : v.isEmpty = false := by simpa using h2
      have a1 := Tx.addtwo v [58, 32] (by simp only [List.length_cons, List.length_nil]; omega)
      have a2 := Tx.addtwo (v ++ [58, 32]) ([91] ++ l ++ [93] ++ x) (by simp only [List.length_append, List.length_cons, List.length_nil]; omega)
      generalize [91] ++ l = l1 at b1 b2 b3 a2 HE
      generalize l1 ++ [93] = l2 at b2 b3 a2 HE
      generalize l2 ++ x = l3 at b3 a2 HE
      generalize v ++ [58, 32] = v1 at a1 a2 HE
      generalize v1 ++ l3 = v2 at a2 HE
      go_enter Try.func13, Try.ntmps13
      go_wp2
      go_ret
      exact ⟨ret_bod HE.out.symm, HB.out⟩
end Go.Proofs.Ytoledhjjbneggaa.Ver
