/-
  No cell of these rows narrows 'for every input' (looked for: loops, veiled, ifaces, maps, wideKeys, modest, calm, conditions, laid).
  DERIVED. THE GIVEN ROWS OF THIS SEAT. 3 by the template 'for every input the law returns true; each argument reads behind the call as it read before'; 0 by the template 'total and deterministic' (their statements: YtkmkmgbehnedoaaTotals.lean).
  GIVEN WITH THE SEED: the statements are not yours to turn. If you find one false, say at which input.
  Laid BY PROGRAM, IN A SANDBOX (cutbox-rows.mjs): the forced cells as the released guide's own fill.sh prints them over the translation f1b39695eac3a4af… (all of the seat's roots in one cut). By AI agents, Wed Nov 11 2026. No macro, syntax, notation, axiom, sorry.
-/
import Derived.Test.YtkmkmgbehnedoaaChecked
import GoSem.Claim
import GoSem.ClaimJoined
import GoSem.ClaimMapViews
import Derived.JoinedTies
import Derived.KernelRfl
namespace Go.Proofs.Ytkmkmgbehnedoaa
/- THE CELL 'sum', in the pinned program and in every row, IS THE sha256 OF THE DUMP (.gsa) THAT YtkmkmgbehnedoaaProg.lean LOADS. Nothing in Lean hashes anything: it is a label: what it is worth is what the hold of that sum in a sandbox is worth. -/
noncomputable def Try.pinned : Pinned := { name := "ytkmkmgbehnedoaa", sum := "f1b39695eac3a4af11bc9b058a02297f0d13d8943efdbedffaf3a5bfe05d4515", checked := Try.checked }
namespace Rows
def none {H : Type} : Left H := { results := [], args := [] }

/-- 'laws.FnExactFormatDirectives': WHATEVER THE INPUT: true; the input reads as it did. -/
def fnExactFormatDirectivesSpec : ChangeSpec := { name := "fnExactFormatDirectives", fn := fun _ => fun
  | [d] => { results := [.lit (.bool true)], args := [d] }
  | _ => none }
def fnExactFormatDirectivesRow : OpenClaim := { program := "ytkmkmgbehnedoaa", sum := "f1b39695eac3a4af11bc9b058a02297f0d13d8943efdbedffaf3a5bfe05d4515", func := "loop.example/g03012/laws.FnExactFormatDirectives", spec := "fnExactFormatDirectives", inPlace := ["internal/bytealg.IndexByteString", "internal/abi.NoEscape", "internal/bytealg.MakeNoZero"], apart := false }
def FnExactFormatDirectivesSaid : Prop := fnExactFormatDirectivesRow.holds Try.pinned (OpenSpec.ofChange fnExactFormatDirectivesSpec)

/-- ITS FALSE NEIGHBOUR: 'it returns false'. Refute it at one input. -/
def fnExactFormatDirectivesWrong : ChangeSpec := { name := "fnExactFormatDirectives", fn := fun _ => fun
  | [d] => { results := [.lit (.bool false)], args := [d] }
  | _ => none }
def FnExactFormatDirectivesWrongFalsely : Prop := fnExactFormatDirectivesRow.holds Try.pinned (OpenSpec.ofChange fnExactFormatDirectivesWrong)

/-- 'laws.FnExactFindDirective': WHATEVER THE INPUT: true; the input reads as it did. -/
def fnExactFindDirectiveSpec : ChangeSpec := { name := "fnExactFindDirective", fn := fun _ => fun
  | [d1, d2] => { results := [.lit (.bool true)], args := [d1, d2] }
  | _ => none }
def fnExactFindDirectiveRow : OpenClaim := { program := "ytkmkmgbehnedoaa", sum := "f1b39695eac3a4af11bc9b058a02297f0d13d8943efdbedffaf3a5bfe05d4515", func := "loop.example/g03012/laws.FnExactFindDirective", spec := "fnExactFindDirective", apart := false }
def FnExactFindDirectiveSaid : Prop := fnExactFindDirectiveRow.holds Try.pinned (OpenSpec.ofChange fnExactFindDirectiveSpec)

/-- ITS FALSE NEIGHBOUR: 'it returns false'. Refute it at one input. -/
def fnExactFindDirectiveWrong : ChangeSpec := { name := "fnExactFindDirective", fn := fun _ => fun
  | [d1, d2] => { results := [.lit (.bool false)], args := [d1, d2] }
  | _ => none }
def FnExactFindDirectiveWrongFalsely : Prop := fnExactFindDirectiveRow.holds Try.pinned (OpenSpec.ofChange fnExactFindDirectiveWrong)

/-- 'laws.FnExactHasDirective': WHATEVER THE INPUT: true; the input reads as it did. -/
def fnExactHasDirectiveSpec : ChangeSpec := { name := "fnExactHasDirective", fn := fun _ => fun
  | [d1, d2] => { results := [.lit (.bool true)], args := [d1, d2] }
  | _ => none }
def fnExactHasDirectiveRow : OpenClaim := { program := "ytkmkmgbehnedoaa", sum := "f1b39695eac3a4af11bc9b058a02297f0d13d8943efdbedffaf3a5bfe05d4515", func := "loop.example/g03012/laws.FnExactHasDirective", spec := "fnExactHasDirective", apart := false }
def FnExactHasDirectiveSaid : Prop := fnExactHasDirectiveRow.holds Try.pinned (OpenSpec.ofChange fnExactHasDirectiveSpec)

/-- ITS FALSE NEIGHBOUR: 'it returns false'. Refute it at one input. -/
def fnExactHasDirectiveWrong : ChangeSpec := { name := "fnExactHasDirective", fn := fun _ => fun
  | [d1, d2] => { results := [.lit (.bool false)], args := [d1, d2] }
  | _ => none }
def FnExactHasDirectiveWrongFalsely : Prop := fnExactHasDirectiveRow.holds Try.pinned (OpenSpec.ofChange fnExactHasDirectiveWrong)

/- THE SECOND FORM. 'bulk': how many values and letters a reading holds, each counted each time it is reached (what is shared counts as often as it is met; a slice's spare places count too). A statement '..UptoSaid' is the law's where the arguments, and the package variables that the reading takes, are together of bulk at most 1048576: NARROWER than '..Said'. Prove '..Said' where nothing that the law and all that it calls make is longer than what came in: it says more and counts as full. Else prove '..UptoSaid'. A law counts once. -/
mutual
def uptoBulk {H : Type} : DataW H → Nat
  | .lit (.string bytes) => bytes.length + 1
  | .lit _ => 1
  | .nil => 1
  | .ptr d => uptoBulk d + 1
  | .slice elems spare => uptoBulkAll elems + uptoBulkAll spare + 1
  | .agg parts => uptoBulkAll parts + 1
  | .iface _ d => uptoBulk d + 1
  | .map entries => uptoBulkEntries entries + 1
  | .held _ => 1
def uptoBulkAll {H : Type} : List (DataW H) → Nat
  | [] => 0
  | d :: r => uptoBulk d + uptoBulkAll r
def uptoBulkEntries {H : Type} : List (Lit × DataW H) → Nat
  | [] => 0
  | x :: r => uptoBulkEntry x + uptoBulkEntries r
def uptoBulkEntry {H : Type} : Lit × DataW H → Nat
  | (.string bytes, d) => bytes.length + uptoBulk d + 1
  | (_, d) => uptoBulk d + 1
 end
def uptoSmall : (H : Type) → List (DataW H) → Bool := fun _ ds => decide (uptoBulkAll ds ≤ 1048576)
def OpenSpec.upto (s : _root_.Go.ChangeSpec) : _root_.Go.OpenSpec := { _root_.Go.OpenSpec.ofChange s with cond := some uptoSmall }

/-- 'laws.FnExactFormatDirectives', WHERE WHAT IT READS IS OF BULK AT MOST 1048576: true; the input reads as it did. -/
def fnExactFormatDirectivesUptoRow : OpenClaim := { program := "ytkmkmgbehnedoaa", sum := "f1b39695eac3a4af11bc9b058a02297f0d13d8943efdbedffaf3a5bfe05d4515", func := "loop.example/g03012/laws.FnExactFormatDirectives", spec := "fnExactFormatDirectives", inPlace := ["internal/bytealg.IndexByteString", "internal/abi.NoEscape", "internal/bytealg.MakeNoZero"], apart := false, narrowed := true }
def FnExactFormatDirectivesUptoSaid : Prop := fnExactFormatDirectivesUptoRow.holds Try.pinned (OpenSpec.upto fnExactFormatDirectivesSpec)

/-- 'laws.FnExactFindDirective', WHERE WHAT IT READS IS OF BULK AT MOST 1048576: true; the input reads as it did. -/
def fnExactFindDirectiveUptoRow : OpenClaim := { program := "ytkmkmgbehnedoaa", sum := "f1b39695eac3a4af11bc9b058a02297f0d13d8943efdbedffaf3a5bfe05d4515", func := "loop.example/g03012/laws.FnExactFindDirective", spec := "fnExactFindDirective", apart := false, narrowed := true }
def FnExactFindDirectiveUptoSaid : Prop := fnExactFindDirectiveUptoRow.holds Try.pinned (OpenSpec.upto fnExactFindDirectiveSpec)

/-- 'laws.FnExactHasDirective', WHERE WHAT IT READS IS OF BULK AT MOST 1048576: true; the input reads as it did. -/
def fnExactHasDirectiveUptoRow : OpenClaim := { program := "ytkmkmgbehnedoaa", sum := "f1b39695eac3a4af11bc9b058a02297f0d13d8943efdbedffaf3a5bfe05d4515", func := "loop.example/g03012/laws.FnExactHasDirective", spec := "fnExactHasDirective", apart := false, narrowed := true }
def FnExactHasDirectiveUptoSaid : Prop := fnExactHasDirectiveUptoRow.holds Try.pinned (OpenSpec.upto fnExactHasDirectiveSpec)

end Rows
end Go.Proofs.Ytkmkmgbehnedoaa
