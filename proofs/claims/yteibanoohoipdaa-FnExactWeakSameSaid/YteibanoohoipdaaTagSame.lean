/-
  CONTRACTS of both sides' StrongSame and WeakSame; nothing that was there before is changed.
-/
import Derived.Test.YteibanoohoipdaaTagIs
namespace Go.Proofs.Yteibanoohoipdaa.Tgs
open Go Go.RowKit
set_option linter.unusedVariables false

def samestrong (f g : T) : Bool := !f.1 && (!g.1 && f.2 == g.2)
def sameweak (f g : T) : Bool := f.2 == g.2
theorem two_boxes (w : World) (a b : Array Value) (T1 : TypeId) : Below w.heap.size w ((w.alloc (.cells a T1)).alloc (.cells b T1)) := ((Below.refl _ _).alloc (Nat.le_refl _) _).alloc (by simp) _
theorem text_ne {y v : List UInt8} (h : y ≠ v) : ((⟨y.toArray⟩ : ByteArray) = ⟨v.toArray⟩) = False := by
  apply eq_false; intro e
  apply h
  have := congrArg (fun s : ByteArray => s.data.toList) e
  simpa using this

set_option maxHeartbeats 1000000 in
theorem spec_strong (x : Bool) (y : List UInt8) (u : Bool) (v : List UInt8) (w : World) :
    Calls Try.prog 14 #[.agg #[.bool x, .string ⟨y.toArray⟩], .agg #[.bool u, .string ⟨v.toArray⟩]] w (BoolEnd (samestrong (x, y) (u, v)) w) := by
  have HB := Lib.hid (two_boxes w #[.bool x, .string ⟨y.toArray⟩] #[.bool u, .string ⟨v.toArray⟩] 26)
  cases x <;> cases u
  all_goals
    go_enter Try.func14, Try.ntmps14
    go_wp2
    go_ret
    exact ⟨ret_bool (by simp [samestrong]), HB.out⟩

set_option maxHeartbeats 1000000 in
theorem impl_strong (x : Bool) (y : List UInt8) (u : Bool) (v : List UInt8) (w : World) :
    Calls Try.prog 15 #[.agg #[.bool x, .string ⟨y.toArray⟩], .agg #[.bool u, .string ⟨v.toArray⟩]] w (BoolEnd (samestrong (x, y) (u, v)) w) := by
  have HB := Lib.hid (two_boxes w #[.bool x, .string ⟨y.toArray⟩] #[.bool u, .string ⟨v.toArray⟩] 26)
  by_cases hyv : y = v
  · subst hyv
    cases x <;> cases u
    all_goals
      go_enter Try.func15, Try.ntmps15
      go_wp2
      go_ret
      exact ⟨ret_bool (by simp [samestrong]), HB.out⟩
  have HN : Hid (∀ p q, samestrong (p, y) (q, v) = false) := Lib.hid (fun p q => by simp [samestrong, hyv])
  cases x <;> cases u
  all_goals
    go_enter Try.func15, Try.ntmps15
    go_wp2
    go_ret
    exact ⟨ret_bool (by rw [HN.out]), HB.out⟩

set_option maxHeartbeats 1000000 in
theorem spec_weak (x : Bool) (y : List UInt8) (u : Bool) (v : List UInt8) (w : World) :
    Calls Try.prog 16 #[.agg #[.bool x, .string ⟨y.toArray⟩], .agg #[.bool u, .string ⟨v.toArray⟩]] w (BoolEnd (sameweak (x, y) (u, v)) w) := by
  have HB := Lib.hid (two_boxes w #[.bool x, .string ⟨y.toArray⟩] #[.bool u, .string ⟨v.toArray⟩] 26)
  go_enter Try.func16, Try.ntmps16
  go_wp2
  go_ret
  exact ⟨ret_bool (by simp [sameweak]), HB.out⟩

set_option maxHeartbeats 1000000 in
theorem impl_weak (x : Bool) (y : List UInt8) (u : Bool) (v : List UInt8) (w : World) :
    Calls Try.prog 17 #[.agg #[.bool x, .string ⟨y.toArray⟩], .agg #[.bool u, .string ⟨v.toArray⟩]] w (BoolEnd (sameweak (x, y) (u, v)) w) := by
  have HB := Lib.hid (two_boxes w #[.bool x, .string ⟨y.toArray⟩] #[.bool u, .string ⟨v.toArray⟩] 26)
  by_cases hyv : y = v
  · subst hyv
    go_enter Try.func17, Try.ntmps17
    go_wp2
    go_ret
    exact ⟨ret_bool (by simp [sameweak]), two_boxes _ _ _ _⟩
  · have HN : Hid (sameweak (x, y) (u, v) = false) := Lib.hid (by simp [sameweak, hyv])
    go_enter Try.func17, Try.ntmps17
    go_wp2
    go_ret
    exact ⟨ret_bool (by rw [HN.out]), two_boxes _ _ _ _⟩
end Go.Proofs.Yteibanoohoipdaa.Tgs
