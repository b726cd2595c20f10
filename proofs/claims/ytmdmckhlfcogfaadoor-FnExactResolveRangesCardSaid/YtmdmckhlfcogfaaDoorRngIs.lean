/-
  CONTRACTS of errors.Is where the target is the program's error errNoBytes: at that error itself, and at no error. And WHAT the contracts ask of the world: that error is there, a pointer of the library's own make.
-/
import Derived.Test.YtmdmckhlfcogfaaDoorBase
import Derived.WalkKit
import Derived.LaidEql
import Derived.LaidMore
import Derived.Stop.LaidErr
import Derived.Stop.Asserts
import Derived.RowKitTokens
namespace Go.Proofs.YtmdmckhlfcogfaaDoor.Rng
open Go Go.RowKit
set_option linter.unusedVariables false

section
open Go.Extern.Stop Go.Stop Go.Extern
-- 9: how many package-level variables this seat's dump has (another seat: another number)
theorem is_typeOf (v : Value) (w : World) : (Extern.ReflectliteType.typeOf #[.iface 146 v]).run Tryd.prog w = .ok (.iface 85 (.agg #[.pointer (some ⟨9, 146, none⟩)])) w := by kernel_rfl
theorem is_ext (w : World) : (((Extern.ReflectliteType.method fun t => do Extern.Rtype.noPackHeld "Comparable" t; pure (.bool (← typeInfo t).comparable)) #[.agg #[.pointer (some ⟨9, 146, none⟩)]]).run Tryd.prog w).andThen (fun v w' => .ok (Next.value v) w') = .ok (.value (.bool true)) w := by kernel_rfl
theorem is_call (w : World) : (callFunc 132 #[.agg #[.pointer (some ⟨9, 146, none⟩)]]).run Tryd.prog w = .ok (.value (.bool true)) w := by
  have h32 := @run_callFunc_extern Tryd.prog 132 _ (Extern.ReflectliteType.method fun t => do Extern.Rtype.noPackHeld "Comparable" t; pure (.bool (← typeInfo t).comparable)) Tryd.func132 (by kernel_rfl) (by kernel_rfl) (by kernel_rfl) (by kernel_rfl)
  refine (h32 _ _).trans ?_
  exact is_ext w
theorem is_comp : (Tryd.prog.info? 146).map (·.comparable) = some true := by kernel_rfl
theorem is_size : (Tryd.prog.info? 148).map (·.size) = some 1 := by kernel_rfl
theorem is_method (n : Nat) (v : Value) (w : World) : (Go.method (n + 1) 85 v "Comparable").run Tryd.prog w = .ok (132, v) w := by kernel_rfl

set_option maxRecDepth 100000 in
theorem is_same (a : Addr) (w : World) :
    Calls Tryd.prog 29 #[.iface 146 (.pointer (some a)), .iface 146 (.pointer (some a))] w fun e w' => e = .returned (.bool true) ∧ w' = w := by
  obtain ⟨i, hi, hcmp⟩ := Option.map_eq_some_iff.1 is_comp
  obtain ⟨j, hj, hjs⟩ := Option.map_eq_some_iff.1 is_size
  have h8 := @run_callFunc_extern Tryd.prog 40 _ Extern.ReflectliteType.typeOf Tryd.func40 (by kernel_rfl) (by kernel_rfl) (by kernel_rfl) (by kernel_rfl)
  have tT := is_typeOf
  have cT := is_call
  have mR := is_method
  have heq := run_eql_iface_ptr_same (P := Tryd.prog) w a Tryd.underlying50 Tryd.underlying146 hi hcmp hj
  go_enter Tryd.func29, Tryd.ntmps29
  go_wp2
  refine wp_loop_rounds 1 ?_
  rw [rounds_succ]
  go_wp2
  go_ret
  exact ⟨rfl, rfl⟩

set_option maxRecDepth 100000 in
theorem is_nil (b : Addr) (w : World) :
    Calls Tryd.prog 29 #[.nilIface, .iface 146 (.pointer (some b))] w fun e w' => e = .returned (.bool false) ∧ w' = w := by
  have hn := run_eql_iface_nil_left (P := Tryd.prog) w 146 (.pointer (some b)) Tryd.underlying50
  go_enter Tryd.func29, Tryd.ntmps29
  go_wp2
  go_ret
  exact ⟨rfl, rfl⟩
end
end Go.Proofs.YtmdmckhlfcogfaaDoor.Rng
