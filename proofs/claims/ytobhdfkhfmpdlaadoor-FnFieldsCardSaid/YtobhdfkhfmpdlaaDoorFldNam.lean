/-
  CONTRACTS of what is a field's name (the model's l5Name, the program's isFieldName): a token without letters in upper case.
-/
import Derived.Test.YtobhdfkhfmpdlaaDoorTokFn
import Derived.Test.YtobhdfkhfmpdlaaDoorLowI
import Derived.Test.YtobhdfkhfmpdlaaDoorLowS
import Derived.LoopTactic
namespace Go.Proofs.YtobhdfkhfmpdlaaDoor.Tx
open Go Go.RowKit
set_option linter.unusedVariables false
set_option maxRecDepth 1000000

def nameOk (l : List UInt8) : Bool := token l && (lower l == l)

theorem spec_name (l : List UInt8) (w : World) (hs : l.length ≤ 1048576) :
    Calls Tryd.prog 55 #[.string ⟨l.toArray⟩] w fun e w' => e = .returned (.bool (nameOk l)) ∧ Below w.heap.size w w' := by
  have hsz : (⟨l.toArray⟩ : ByteArray).size ≤ 9223372036854775806 := by simp [ByteArray.size]; omega
  have c1 := spec_token ⟨l.toArray⟩ w hsz
  have c2 := spec_lower ⟨l.toArray⟩ w hsz
  have C1 : Hid (Calls Tryd.prog 34 #[.string ⟨l.toArray⟩] w fun e w' => e = .returned (.bool (token l)) ∧ w = w') := Lib.hid c1
  have C2 : Hid (Calls Tryd.prog 32 #[.string ⟨l.toArray⟩] w fun e w' => e = .returned (.string ⟨(lower l).toArray⟩) ∧ Below w.heap.size w w') := Lib.hid c2
  clear c1 c2 hsz
  unfold nameOk
  generalize token l = t at C1 ⊢
  generalize lower l = m at C2 ⊢
  cases t
  · go_enter Tryd.func55, Tryd.ntmps55
    go_wp2_with (go_at_call 34; refine C1.out.mono ?_; rintro e w' ⟨rfl, rfl⟩)
    go_ret
    exact ⟨rfl, Below.refl _ _⟩
  · by_cases e : m = l
    · subst e
      go_enter Tryd.func55, Tryd.ntmps55
      go_wp2_with (first
        | (go_at_call 34; refine C1.out.mono ?_; rintro e w' ⟨rfl, rfl⟩)
        | (go_at_call 32; refine C2.out.mono ?_; rintro e w2 ⟨rfl, hb⟩))
      go_ret
      exact ⟨by simp, hb⟩
    · have hq : (m == l) = false := by simpa using e
      go_enter Tryd.func55, Tryd.ntmps55
      go_wp2_with (first
        | (go_at_call 34; refine C1.out.mono ?_; rintro e w' ⟨rfl, rfl⟩)
        | (go_at_call 32; refine C2.out.mono ?_; rintro e w2 ⟨rfl, hb⟩))
      go_ret
      exact ⟨by rw [hq]; rfl, hb⟩

theorem impl_name (l : List UInt8) (w : World) (hs : l.length ≤ 1048576) :
    Calls Tryd.prog 59 #[.string ⟨l.toArray⟩] w fun e w' => e = .returned (.bool (nameOk l)) ∧ Below w.heap.size w w' := by
  have hsz : (⟨l.toArray⟩ : ByteArray).size ≤ 9223372036854775806 := by simp [ByteArray.size]; omega
  have c1 := impl_token ⟨l.toArray⟩ w hsz
  have c2 := impl_lower ⟨l.toArray⟩ w hsz
  have C1 : Hid (Calls Tryd.prog 64 #[.string ⟨l.toArray⟩] w fun e w' => e = .returned (.bool (token l)) ∧ w = w') := Lib.hid c1
  have C2 : Hid (Calls Tryd.prog 11 #[.string ⟨l.toArray⟩] w fun e w' => e = .returned (.string ⟨(lower l).toArray⟩) ∧ Below w.heap.size w w') := Lib.hid c2
  clear c1 c2 hsz
  unfold nameOk
  generalize token l = t at C1 ⊢
  generalize lower l = m at C2 ⊢
  cases t
  · go_enter Tryd.func59, Tryd.ntmps59
    go_wp2_with (go_at_call 64; refine C1.out.mono ?_; rintro e w' ⟨rfl, rfl⟩)
    go_ret
    exact ⟨rfl, Below.refl _ _⟩
  · by_cases e : m = l
    · subst e
      go_enter Tryd.func59, Tryd.ntmps59
      go_wp2_with (first
        | (go_at_call 64; refine C1.out.mono ?_; rintro e w' ⟨rfl, rfl⟩)
        | (go_at_call 11; refine C2.out.mono ?_; rintro e w2 ⟨rfl, hb⟩))
      go_ret
      exact ⟨by simp, hb⟩
    · have hq : (m == l) = false := by simpa using e
      go_enter Tryd.func59, Tryd.ntmps59
      go_wp2_with (first
        | (go_at_call 64; refine C1.out.mono ?_; rintro e w' ⟨rfl, rfl⟩)
        | (go_at_call 11; refine C2.out.mono ?_; rintro e w2 ⟨rfl, hb⟩))
      go_ret
      exact ⟨by rw [hq]; rfl, hb⟩
end Go.Proofs.YtobhdfkhfmpdlaaDoor.Tx
