/-
  CONTRACTS of both sides' EntryAge; nothing that was there before is changed.
-/
import Derived.Test.YtfgpphbfampjjaaCage
import Derived.Test.YtfgpphbfampjjaaRec
namespace Go.Proofs.Ytfgpphbfampjjaa.Ent
open Go Go.RowKit
set_option linter.unusedVariables false
def NumEnd (z : Int) (w : World) (e : Ending) (w' : World) : Prop := e = .returned (.int .i64 z) ∧ Below w.heap.size w w'
theorem spec_ea (k : List UInt8) (s : Value) (c : Int) (u : Value) (b : List UInt8) (p : Value) (n i g q t : Int) (w : World) (wi : (Lit.int .i64 i).wf = true) (wg : (Lit.int .i64 g).wf = true) (wt : (Lit.int .i64 t).wf = true) :
    Calls Try.prog 36 #[.agg #[.string ⟨k.toArray⟩, s, .int .i64 c, u, .string ⟨b.toArray⟩, p, .int .i64 n, .int .i64 i, .int .i64 g, .int .i64 q], .int .i64 t] w (NumEnd (Age.cage i g t) w) := by
  have HB0 := Lib.hid ((Below.refl w.heap.size w).alloc (Nat.le_refl _) (.cells #[.string ⟨k.toArray⟩, s, .int .i64 c, u, .string ⟨b.toArray⟩, p, .int .i64 n, .int .i64 i, .int .i64 g, .int .i64 q] 66))
  have HC := Lib.hid (fun W => Age.spec_cage i g t W wi wg wt)
  generalize Age.cage i g t = z at HC ⊢
  clear wi wg wt
  go_enter Try.func36, Try.ntmps36
  go_wp2_with (fail)
  go_at_call 66
  refine (HC.out _).mono ?_
  rintro e w1 ⟨rfl, rfl⟩
  go_wp2
  go_ret
  exact ⟨rfl, HB0.out⟩
theorem impl_ea (k : List UInt8) (s : Value) (c : Int) (u : Value) (b : List UInt8) (p : Value) (n i g q t : Int) (w : World) (wi : (Lit.int .i64 i).wf = true) (wg : (Lit.int .i64 g).wf = true) (wt : (Lit.int .i64 t).wf = true) :
    Calls Try.prog 38 #[.agg #[.string ⟨k.toArray⟩, s, .int .i64 c, u, .string ⟨b.toArray⟩, p, .int .i64 n, .int .i64 i, .int .i64 g, .int .i64 q], .int .i64 t] w (NumEnd (Age.cage i g t) w) := by
  have HB0 := Lib.hid ((Below.refl w.heap.size w).alloc (Nat.le_refl _) (.cells #[.string ⟨k.toArray⟩, s, .int .i64 c, u, .string ⟨b.toArray⟩, p, .int .i64 n, .int .i64 i, .int .i64 g, .int .i64 q] 66))
  have HC := Lib.hid (fun W => Age.impl_cage i g t W wi wg wt)
  generalize Age.cage i g t = z at HC ⊢
  clear wi wg wt
  go_enter Try.func38, Try.ntmps38
  go_wp2_with (fail)
  go_at_call 70
  refine (HC.out _).mono ?_
  rintro e w1 ⟨rfl, rfl⟩
  go_wp2
  go_ret
  exact ⟨rfl, HB0.out⟩
end Go.Proofs.Ytfgpphbfampjjaa.Ent
