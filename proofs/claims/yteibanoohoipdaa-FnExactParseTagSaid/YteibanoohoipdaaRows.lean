/-
  No cell of these rows narrows 'for every input' (looked for: loops, veiled, ifaces, maps, wideKeys, modest, calm, conditions, laid).
  DERIVED. THE GIVEN ROWS OF THIS SEAT. 5 by the template 'for every input the law returns true; each argument reads behind the call as it read before'; 0 by the template 'total and deterministic' (their statements: YteibanoohoipdaaTotals.lean).
  GIVEN WITH THE SEED: the statements are not yours to turn. If you find one false, say at which input.
  Laid BY PROGRAM, IN A SANDBOX (cutbox-rows.mjs): the forced cells as the released guide's own fill.sh prints them over the translation 44dda1bab9499d6f… (all of the seat's roots in one cut). By AI agents, Wed Nov 11 2026. No macro, syntax, notation, axiom, sorry.
-/
import Derived.Test.YteibanoohoipdaaChecked
import GoSem.Claim
import GoSem.ClaimJoined
import GoSem.ClaimMapViews
import Derived.JoinedTies
import Derived.KernelRfl
namespace Go.Proofs.Yteibanoohoipdaa
/- THE CELL 'sum', in the pinned program and in every row, IS THE sha256 OF THE DUMP (.gsa) THAT YteibanoohoipdaaProg.lean LOADS. Nothing in Lean hashes anything: it is a label: what it is worth is what the hold of that sum in a sandbox is worth. -/
noncomputable def Try.pinned : Pinned := { name := "yteibanoohoipdaa", sum := "44dda1bab9499d6ff34e31ddc895f7cb51417cc6e9368275f09c72413a89296b", checked := Try.checked }
namespace Rows
def none {H : Type} : Left H := { results := [], args := [] }

/-- 'laws.FnExactIsTag': WHATEVER THE INPUT: true; the input reads as it did. -/
def fnExactIsTagSpec : ChangeSpec := { name := "fnExactIsTag", fn := fun _ => fun
  | [d] => { results := [.lit (.bool true)], args := [d] }
  | _ => none }
def fnExactIsTagRow : OpenClaim := { program := "yteibanoohoipdaa", sum := "44dda1bab9499d6ff34e31ddc895f7cb51417cc6e9368275f09c72413a89296b", func := "loop.example/g03012/laws.FnExactIsTag", spec := "fnExactIsTag", apart := false }
def FnExactIsTagSaid : Prop := fnExactIsTagRow.holds Try.pinned (OpenSpec.ofChange fnExactIsTagSpec)

/-- ITS FALSE NEIGHBOUR: 'it returns false'. Refute it at one input. -/
def fnExactIsTagWrong : ChangeSpec := { name := "fnExactIsTag", fn := fun _ => fun
  | [d] => { results := [.lit (.bool false)], args := [d] }
  | _ => none }
def FnExactIsTagWrongFalsely : Prop := fnExactIsTagRow.holds Try.pinned (OpenSpec.ofChange fnExactIsTagWrong)

/-- 'laws.FnExactFormatTag': WHATEVER THE INPUT: true; the input reads as it did. -/
def fnExactFormatTagSpec : ChangeSpec := { name := "fnExactFormatTag", fn := fun _ => fun
  | [d] => { results := [.lit (.bool true)], args := [d] }
  | _ => none }
def fnExactFormatTagRow : OpenClaim := { program := "yteibanoohoipdaa", sum := "44dda1bab9499d6ff34e31ddc895f7cb51417cc6e9368275f09c72413a89296b", func := "loop.example/g03012/laws.FnExactFormatTag", spec := "fnExactFormatTag", apart := false }
def FnExactFormatTagSaid : Prop := fnExactFormatTagRow.holds Try.pinned (OpenSpec.ofChange fnExactFormatTagSpec)

/-- ITS FALSE NEIGHBOUR: 'it returns false'. Refute it at one input. -/
def fnExactFormatTagWrong : ChangeSpec := { name := "fnExactFormatTag", fn := fun _ => fun
  | [d] => { results := [.lit (.bool false)], args := [d] }
  | _ => none }
def FnExactFormatTagWrongFalsely : Prop := fnExactFormatTagRow.holds Try.pinned (OpenSpec.ofChange fnExactFormatTagWrong)

/-- 'laws.FnExactStrongSame': WHATEVER THE INPUT: true; the input reads as it did. -/
def fnExactStrongSameSpec : ChangeSpec := { name := "fnExactStrongSame", fn := fun _ => fun
  | [d1, d2] => { results := [.lit (.bool true)], args := [d1, d2] }
  | _ => none }
def fnExactStrongSameRow : OpenClaim := { program := "yteibanoohoipdaa", sum := "44dda1bab9499d6ff34e31ddc895f7cb51417cc6e9368275f09c72413a89296b", func := "loop.example/g03012/laws.FnExactStrongSame", spec := "fnExactStrongSame", apart := false }
def FnExactStrongSameSaid : Prop := fnExactStrongSameRow.holds Try.pinned (OpenSpec.ofChange fnExactStrongSameSpec)

/-- ITS FALSE NEIGHBOUR: 'it returns false'. Refute it at one input. -/
def fnExactStrongSameWrong : ChangeSpec := { name := "fnExactStrongSame", fn := fun _ => fun
  | [d1, d2] => { results := [.lit (.bool false)], args := [d1, d2] }
  | _ => none }
def FnExactStrongSameWrongFalsely : Prop := fnExactStrongSameRow.holds Try.pinned (OpenSpec.ofChange fnExactStrongSameWrong)

/-- 'laws.FnExactWeakSame': WHATEVER THE INPUT: true; the input reads as it did. -/
def fnExactWeakSameSpec : ChangeSpec := { name := "fnExactWeakSame", fn := fun _ => fun
  | [d1, d2] => { results := [.lit (.bool true)], args := [d1, d2] }
  | _ => none }
def fnExactWeakSameRow : OpenClaim := { program := "yteibanoohoipdaa", sum := "44dda1bab9499d6ff34e31ddc895f7cb51417cc6e9368275f09c72413a89296b", func := "loop.example/g03012/laws.FnExactWeakSame", spec := "fnExactWeakSame", apart := false }
def FnExactWeakSameSaid : Prop := fnExactWeakSameRow.holds Try.pinned (OpenSpec.ofChange fnExactWeakSameSpec)

/-- ITS FALSE NEIGHBOUR: 'it returns false'. Refute it at one input. -/
def fnExactWeakSameWrong : ChangeSpec := { name := "fnExactWeakSame", fn := fun _ => fun
  | [d1, d2] => { results := [.lit (.bool false)], args := [d1, d2] }
  | _ => none }
def FnExactWeakSameWrongFalsely : Prop := fnExactWeakSameRow.holds Try.pinned (OpenSpec.ofChange fnExactWeakSameWrong)

/-- 'laws.FnExactParseTag': WHATEVER THE INPUT: true; the input reads as it did. -/
def fnExactParseTagSpec : ChangeSpec := { name := "fnExactParseTag", fn := fun _ => fun
  | [d] => { results := [.lit (.bool true)], args := [d] }
  | _ => none }
def fnExactParseTagRow : OpenClaim := { program := "yteibanoohoipdaa", sum := "44dda1bab9499d6ff34e31ddc895f7cb51417cc6e9368275f09c72413a89296b", func := "loop.example/g03012/laws.FnExactParseTag", spec := "fnExactParseTag", apart := false }
def FnExactParseTagSaid : Prop := fnExactParseTagRow.holds Try.pinned (OpenSpec.ofChange fnExactParseTagSpec)

/-- ITS FALSE NEIGHBOUR: 'it returns false'. Refute it at one input. -/
def fnExactParseTagWrong : ChangeSpec := { name := "fnExactParseTag", fn := fun _ => fun
  | [d] => { results := [.lit (.bool false)], args := [d] }
  | _ => none }
def FnExactParseTagWrongFalsely : Prop := fnExactParseTagRow.holds Try.pinned (OpenSpec.ofChange fnExactParseTagWrong)

/- THE SECOND FORM. 'bulk': how many values and letters a reading holds, each counted each time it is reached (what is shared counts as often as it is met; a slice's spare places count too). A statement '..UptoSaid' is the law's where the arguments, and the package variables that the reading takes, are together of bulk at most 1048576: NARROWER than '..Said'. Prove '..Said' where nothing that the law and all that it calls make is longer than what came in: it says more and counts as full. Else prove '..UptoSaid'. A law counts once. -/
mutual
def uptoBulk {H : Type} : DataW H → Nat
  | .lit (.string bytes) => bytes.length + 1
  | .lit _ => 1
  | .nil => 1
  | .ptr d => uptoBulk d + 1
  | .slice elems spare => uptoBulkAll elems + uptoBulkAll spare + 1
  | .agg parts => uptoBulkAll parts + 1
  | .iface _ d => uptoBulk d + 1
  | .map entries => uptoBulkEntries entries + 1
  | .held _ => 1
def uptoBulkAll {H : Type} : List (DataW H) → Nat
  | [] => 0
  | d :: r => uptoBulk d + uptoBulkAll r
def uptoBulkEntries {H : Type} : List (Lit × DataW H) → Nat
  | [] => 0
  | x :: r => uptoBulkEntry x + uptoBulkEntries r
def uptoBulkEntry {H : Type} : Lit × DataW H → Nat
  | (.string bytes, d) => bytes.length + uptoBulk d + 1
  | (_, d) => uptoBulk d + 1
 end
def uptoSmall : (H : Type) → List (DataW H) → Bool := fun _ ds => decide (uptoBulkAll ds ≤ 1048576)
def OpenSpec.upto (s : _root_.Go.ChangeSpec) : _root_.Go.OpenSpec := { _root_.Go.OpenSpec.ofChange s with cond := some uptoSmall }

/-- 'laws.FnExactIsTag', WHERE WHAT IT READS IS OF BULK AT MOST 1048576: true; the input reads as it did. -/
def fnExactIsTagUptoRow : OpenClaim := { program := "yteibanoohoipdaa", sum := "44dda1bab9499d6ff34e31ddc895f7cb51417cc6e9368275f09c72413a89296b", func := "loop.example/g03012/laws.FnExactIsTag", spec := "fnExactIsTag", apart := false, narrowed := true }
def FnExactIsTagUptoSaid : Prop := fnExactIsTagUptoRow.holds Try.pinned (OpenSpec.upto fnExactIsTagSpec)

/-- 'laws.FnExactFormatTag', WHERE WHAT IT READS IS OF BULK AT MOST 1048576: true; the input reads as it did. -/
def fnExactFormatTagUptoRow : OpenClaim := { program := "yteibanoohoipdaa", sum := "44dda1bab9499d6ff34e31ddc895f7cb51417cc6e9368275f09c72413a89296b", func := "loop.example/g03012/laws.FnExactFormatTag", spec := "fnExactFormatTag", apart := false, narrowed := true }
def FnExactFormatTagUptoSaid : Prop := fnExactFormatTagUptoRow.holds Try.pinned (OpenSpec.upto fnExactFormatTagSpec)

/-- 'laws.FnExactStrongSame', WHERE WHAT IT READS IS OF BULK AT MOST 1048576: true; the input reads as it did. -/
def fnExactStrongSameUptoRow : OpenClaim := { program := "yteibanoohoipdaa", sum := "44dda1bab9499d6ff34e31ddc895f7cb51417cc6e9368275f09c72413a89296b", func := "loop.example/g03012/laws.FnExactStrongSame", spec := "fnExactStrongSame", apart := false, narrowed := true }
def FnExactStrongSameUptoSaid : Prop := fnExactStrongSameUptoRow.holds Try.pinned (OpenSpec.upto fnExactStrongSameSpec)

/-- 'laws.FnExactWeakSame', WHERE WHAT IT READS IS OF BULK AT MOST 1048576: true; the input reads as it did. -/
def fnExactWeakSameUptoRow : OpenClaim := { program := "yteibanoohoipdaa", sum := "44dda1bab9499d6ff34e31ddc895f7cb51417cc6e9368275f09c72413a89296b", func := "loop.example/g03012/laws.FnExactWeakSame", spec := "fnExactWeakSame", apart := false, narrowed := true }
def FnExactWeakSameUptoSaid : Prop := fnExactWeakSameUptoRow.holds Try.pinned (OpenSpec.upto fnExactWeakSameSpec)

/-- 'laws.FnExactParseTag', WHERE WHAT IT READS IS OF BULK AT MOST 1048576: true; the input reads as it did. -/
def fnExactParseTagUptoRow : OpenClaim := { program := "yteibanoohoipdaa", sum := "44dda1bab9499d6ff34e31ddc895f7cb51417cc6e9368275f09c72413a89296b", func := "loop.example/g03012/laws.FnExactParseTag", spec := "fnExactParseTag", apart := false, narrowed := true }
def FnExactParseTagUptoSaid : Prop := fnExactParseTagUptoRow.holds Try.pinned (OpenSpec.upto fnExactParseTagSpec)

end Rows
end Go.Proofs.Yteibanoohoipdaa
