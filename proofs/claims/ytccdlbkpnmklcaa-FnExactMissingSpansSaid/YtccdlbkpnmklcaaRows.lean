/-
  No cell of these rows narrows 'for every input' (looked for: loops, veiled, ifaces, maps, wideKeys, modest, calm, conditions, laid).
  DERIVED. THE GIVEN ROWS OF THIS SEAT. 7 by the template 'for every input the law returns true; each argument reads behind the call as it read before'; 0 by the template 'total and deterministic' (their statements: YtccdlbkpnmklcaaTotals.lean).
  GIVEN WITH THE SEED: the statements are not yours to turn. If you find one false, say at which input.
  Laid BY PROGRAM, IN A SANDBOX (cutbox-rows.mjs): the forced cells as the released guide's own fill.sh prints them over the translation 04825fbad8207951… (all of the seat's roots in one cut). By AI agents, Wed Nov 11 2026. No macro, syntax, notation, axiom, sorry.
-/
import Derived.Test.YtccdlbkpnmklcaaChecked
import GoSem.Claim
import GoSem.ClaimJoined
import GoSem.ClaimMapViews
import Derived.JoinedTies
import Derived.KernelRfl
namespace Go.Proofs.Ytccdlbkpnmklcaa
/- THE CELL 'sum', in the pinned program and in every row, IS THE sha256 OF THE DUMP (.gsa) THAT YtccdlbkpnmklcaaProg.lean LOADS. Nothing in Lean hashes anything: it is a label: what it is worth is what the hold of that sum in a sandbox is worth. -/
noncomputable def Try.pinned : Pinned := { name := "ytccdlbkpnmklcaa", sum := "04825fbad8207951cd52d0ec375a9dc6cab4ee468bbfa8fd2264ad7164831993", checked := Try.checked }
namespace Rows
def none {H : Type} : Left H := { results := [], args := [] }

/-- 'laws.FnIntervals': WHATEVER THE INPUT: true; the input reads as it did. -/
def fnIntervalsSpec : ChangeSpec := { name := "fnIntervals", fn := fun _ => fun
  | [d] => { results := [.lit (.bool true)], args := [d] }
  | _ => none }
def fnIntervalsRow : OpenClaim := { program := "ytccdlbkpnmklcaa", sum := "04825fbad8207951cd52d0ec375a9dc6cab4ee468bbfa8fd2264ad7164831993", func := "loop.example/g03012/laws.FnIntervals", spec := "fnIntervals", unfollowed := true, recurses := true, apart := false }
def FnIntervalsSaid : Prop := fnIntervalsRow.holds Try.pinned (OpenSpec.ofChange fnIntervalsSpec)

/-- ITS FALSE NEIGHBOUR: 'it returns false'. Refute it at one input. -/
def fnIntervalsWrong : ChangeSpec := { name := "fnIntervals", fn := fun _ => fun
  | [d] => { results := [.lit (.bool false)], args := [d] }
  | _ => none }
def FnIntervalsWrongFalsely : Prop := fnIntervalsRow.holds Try.pinned (OpenSpec.ofChange fnIntervalsWrong)

/-- 'laws.FnExactIsSpanSet': WHATEVER THE INPUT: true; the input reads as it did. -/
def fnExactIsSpanSetSpec : ChangeSpec := { name := "fnExactIsSpanSet", fn := fun _ => fun
  | [d] => { results := [.lit (.bool true)], args := [d] }
  | _ => none }
def fnExactIsSpanSetRow : OpenClaim := { program := "ytccdlbkpnmklcaa", sum := "04825fbad8207951cd52d0ec375a9dc6cab4ee468bbfa8fd2264ad7164831993", func := "loop.example/g03012/laws.FnExactIsSpanSet", spec := "fnExactIsSpanSet", apart := false }
def FnExactIsSpanSetSaid : Prop := fnExactIsSpanSetRow.holds Try.pinned (OpenSpec.ofChange fnExactIsSpanSetSpec)

/-- ITS FALSE NEIGHBOUR: 'it returns false'. Refute it at one input. -/
def fnExactIsSpanSetWrong : ChangeSpec := { name := "fnExactIsSpanSet", fn := fun _ => fun
  | [d] => { results := [.lit (.bool false)], args := [d] }
  | _ => none }
def FnExactIsSpanSetWrongFalsely : Prop := fnExactIsSpanSetRow.holds Try.pinned (OpenSpec.ofChange fnExactIsSpanSetWrong)

/-- 'laws.FnExactAddSpan': WHATEVER THE INPUT: true; the input reads as it did. -/
def fnExactAddSpanSpec : ChangeSpec := { name := "fnExactAddSpan", fn := fun _ => fun
  | [d1, d2] => { results := [.lit (.bool true)], args := [d1, d2] }
  | _ => none }
def fnExactAddSpanRow : OpenClaim := { program := "ytccdlbkpnmklcaa", sum := "04825fbad8207951cd52d0ec375a9dc6cab4ee468bbfa8fd2264ad7164831993", func := "loop.example/g03012/laws.FnExactAddSpan", spec := "fnExactAddSpan", unfollowed := true, recurses := true, apart := false }
def FnExactAddSpanSaid : Prop := fnExactAddSpanRow.holds Try.pinned (OpenSpec.ofChange fnExactAddSpanSpec)

/-- ITS FALSE NEIGHBOUR: 'it returns false'. Refute it at one input. -/
def fnExactAddSpanWrong : ChangeSpec := { name := "fnExactAddSpan", fn := fun _ => fun
  | [d1, d2] => { results := [.lit (.bool false)], args := [d1, d2] }
  | _ => none }
def FnExactAddSpanWrongFalsely : Prop := fnExactAddSpanRow.holds Try.pinned (OpenSpec.ofChange fnExactAddSpanWrong)

/-- 'laws.FnExactUniteSpans': WHATEVER THE INPUT: true; the input reads as it did. -/
def fnExactUniteSpansSpec : ChangeSpec := { name := "fnExactUniteSpans", fn := fun _ => fun
  | [d] => { results := [.lit (.bool true)], args := [d] }
  | _ => none }
def fnExactUniteSpansRow : OpenClaim := { program := "ytccdlbkpnmklcaa", sum := "04825fbad8207951cd52d0ec375a9dc6cab4ee468bbfa8fd2264ad7164831993", func := "loop.example/g03012/laws.FnExactUniteSpans", spec := "fnExactUniteSpans", unfollowed := true, recurses := true, apart := false }
def FnExactUniteSpansSaid : Prop := fnExactUniteSpansRow.holds Try.pinned (OpenSpec.ofChange fnExactUniteSpansSpec)

/-- ITS FALSE NEIGHBOUR: 'it returns false'. Refute it at one input. -/
def fnExactUniteSpansWrong : ChangeSpec := { name := "fnExactUniteSpans", fn := fun _ => fun
  | [d] => { results := [.lit (.bool false)], args := [d] }
  | _ => none }
def FnExactUniteSpansWrongFalsely : Prop := fnExactUniteSpansRow.holds Try.pinned (OpenSpec.ofChange fnExactUniteSpansWrong)

/-- 'laws.FnExactCoversSpan': WHATEVER THE INPUT: true; the input reads as it did. -/
def fnExactCoversSpanSpec : ChangeSpec := { name := "fnExactCoversSpan", fn := fun _ => fun
  | [d1, d2] => { results := [.lit (.bool true)], args := [d1, d2] }
  | _ => none }
def fnExactCoversSpanRow : OpenClaim := { program := "ytccdlbkpnmklcaa", sum := "04825fbad8207951cd52d0ec375a9dc6cab4ee468bbfa8fd2264ad7164831993", func := "loop.example/g03012/laws.FnExactCoversSpan", spec := "fnExactCoversSpan", unfollowed := true, recurses := true, apart := false }
def FnExactCoversSpanSaid : Prop := fnExactCoversSpanRow.holds Try.pinned (OpenSpec.ofChange fnExactCoversSpanSpec)

/-- ITS FALSE NEIGHBOUR: 'it returns false'. Refute it at one input. -/
def fnExactCoversSpanWrong : ChangeSpec := { name := "fnExactCoversSpan", fn := fun _ => fun
  | [d1, d2] => { results := [.lit (.bool false)], args := [d1, d2] }
  | _ => none }
def FnExactCoversSpanWrongFalsely : Prop := fnExactCoversSpanRow.holds Try.pinned (OpenSpec.ofChange fnExactCoversSpanWrong)

/-- 'laws.FnExactMissingSpans': WHATEVER THE INPUT: true; the input reads as it did. -/
def fnExactMissingSpansSpec : ChangeSpec := { name := "fnExactMissingSpans", fn := fun _ => fun
  | [d1, d2] => { results := [.lit (.bool true)], args := [d1, d2] }
  | _ => none }
def fnExactMissingSpansRow : OpenClaim := { program := "ytccdlbkpnmklcaa", sum := "04825fbad8207951cd52d0ec375a9dc6cab4ee468bbfa8fd2264ad7164831993", func := "loop.example/g03012/laws.FnExactMissingSpans", spec := "fnExactMissingSpans", apart := false }
def FnExactMissingSpansSaid : Prop := fnExactMissingSpansRow.holds Try.pinned (OpenSpec.ofChange fnExactMissingSpansSpec)

/-- ITS FALSE NEIGHBOUR: 'it returns false'. Refute it at one input. -/
def fnExactMissingSpansWrong : ChangeSpec := { name := "fnExactMissingSpans", fn := fun _ => fun
  | [d1, d2] => { results := [.lit (.bool false)], args := [d1, d2] }
  | _ => none }
def FnExactMissingSpansWrongFalsely : Prop := fnExactMissingSpansRow.holds Try.pinned (OpenSpec.ofChange fnExactMissingSpansWrong)

/-- 'laws.FnExactSpanSize': WHATEVER THE INPUT: true; the input reads as it did. -/
def fnExactSpanSizeSpec : ChangeSpec := { name := "fnExactSpanSize", fn := fun _ => fun
  | [d] => { results := [.lit (.bool true)], args := [d] }
  | _ => none }
def fnExactSpanSizeRow : OpenClaim := { program := "ytccdlbkpnmklcaa", sum := "04825fbad8207951cd52d0ec375a9dc6cab4ee468bbfa8fd2264ad7164831993", func := "loop.example/g03012/laws.FnExactSpanSize", spec := "fnExactSpanSize", apart := false }
def FnExactSpanSizeSaid : Prop := fnExactSpanSizeRow.holds Try.pinned (OpenSpec.ofChange fnExactSpanSizeSpec)

/-- ITS FALSE NEIGHBOUR: 'it returns false'. Refute it at one input. -/
def fnExactSpanSizeWrong : ChangeSpec := { name := "fnExactSpanSize", fn := fun _ => fun
  | [d] => { results := [.lit (.bool false)], args := [d] }
  | _ => none }
def FnExactSpanSizeWrongFalsely : Prop := fnExactSpanSizeRow.holds Try.pinned (OpenSpec.ofChange fnExactSpanSizeWrong)

/- THE SECOND FORM. 'bulk': how many values and letters a reading holds, each counted each time it is reached (what is shared counts as often as it is met; a slice's spare places count too). A statement '..UptoSaid' is the law's where the arguments, and the package variables that the reading takes, are together of bulk at most 1048576: NARROWER than '..Said'. Prove '..Said' where nothing that the law and all that it calls make is longer than what came in: it says more and counts as full. Else prove '..UptoSaid'. A law counts once. -/
mutual
def uptoBulk {H : Type} : DataW H → Nat
  | .lit (.string bytes) => bytes.length + 1
  | .lit _ => 1
  | .nil => 1
  | .ptr d => uptoBulk d + 1
  | .slice elems spare => uptoBulkAll elems + uptoBulkAll spare + 1
  | .agg parts => uptoBulkAll parts + 1
  | .iface _ d => uptoBulk d + 1
  | .map entries => uptoBulkEntries entries + 1
  | .held _ => 1
def uptoBulkAll {H : Type} : List (DataW H) → Nat
  | [] => 0
  | d :: r => uptoBulk d + uptoBulkAll r
def uptoBulkEntries {H : Type} : List (Lit × DataW H) → Nat
  | [] => 0
  | x :: r => uptoBulkEntry x + uptoBulkEntries r
def uptoBulkEntry {H : Type} : Lit × DataW H → Nat
  | (.string bytes, d) => bytes.length + uptoBulk d + 1
  | (_, d) => uptoBulk d + 1
 end
def uptoSmall : (H : Type) → List (DataW H) → Bool := fun _ ds => decide (uptoBulkAll ds ≤ 1048576)
def OpenSpec.upto (s : _root_.Go.ChangeSpec) : _root_.Go.OpenSpec := { _root_.Go.OpenSpec.ofChange s with cond := some uptoSmall }

/-- 'laws.FnIntervals', WHERE WHAT IT READS IS OF BULK AT MOST 1048576: true; the input reads as it did. -/
def fnIntervalsUptoRow : OpenClaim := { program := "ytccdlbkpnmklcaa", sum := "04825fbad8207951cd52d0ec375a9dc6cab4ee468bbfa8fd2264ad7164831993", func := "loop.example/g03012/laws.FnIntervals", spec := "fnIntervals", unfollowed := true, recurses := true, apart := false, narrowed := true }
def FnIntervalsUptoSaid : Prop := fnIntervalsUptoRow.holds Try.pinned (OpenSpec.upto fnIntervalsSpec)

/-- 'laws.FnExactIsSpanSet', WHERE WHAT IT READS IS OF BULK AT MOST 1048576: true; the input reads as it did. -/
def fnExactIsSpanSetUptoRow : OpenClaim := { program := "ytccdlbkpnmklcaa", sum := "04825fbad8207951cd52d0ec375a9dc6cab4ee468bbfa8fd2264ad7164831993", func := "loop.example/g03012/laws.FnExactIsSpanSet", spec := "fnExactIsSpanSet", apart := false, narrowed := true }
def FnExactIsSpanSetUptoSaid : Prop := fnExactIsSpanSetUptoRow.holds Try.pinned (OpenSpec.upto fnExactIsSpanSetSpec)

/-- 'laws.FnExactAddSpan', WHERE WHAT IT READS IS OF BULK AT MOST 1048576: true; the input reads as it did. -/
def fnExactAddSpanUptoRow : OpenClaim := { program := "ytccdlbkpnmklcaa", sum := "04825fbad8207951cd52d0ec375a9dc6cab4ee468bbfa8fd2264ad7164831993", func := "loop.example/g03012/laws.FnExactAddSpan", spec := "fnExactAddSpan", unfollowed := true, recurses := true, apart := false, narrowed := true }
def FnExactAddSpanUptoSaid : Prop := fnExactAddSpanUptoRow.holds Try.pinned (OpenSpec.upto fnExactAddSpanSpec)

/-- 'laws.FnExactUniteSpans', WHERE WHAT IT READS IS OF BULK AT MOST 1048576: true; the input reads as it did. -/
def fnExactUniteSpansUptoRow : OpenClaim := { program := "ytccdlbkpnmklcaa", sum := "04825fbad8207951cd52d0ec375a9dc6cab4ee468bbfa8fd2264ad7164831993", func := "loop.example/g03012/laws.FnExactUniteSpans", spec := "fnExactUniteSpans", unfollowed := true, recurses := true, apart := false, narrowed := true }
def FnExactUniteSpansUptoSaid : Prop := fnExactUniteSpansUptoRow.holds Try.pinned (OpenSpec.upto fnExactUniteSpansSpec)

/-- 'laws.FnExactCoversSpan', WHERE WHAT IT READS IS OF BULK AT MOST 1048576: true; the input reads as it did. -/
def fnExactCoversSpanUptoRow : OpenClaim := { program := "ytccdlbkpnmklcaa", sum := "04825fbad8207951cd52d0ec375a9dc6cab4ee468bbfa8fd2264ad7164831993", func := "loop.example/g03012/laws.FnExactCoversSpan", spec := "fnExactCoversSpan", unfollowed := true, recurses := true, apart := false, narrowed := true }
def FnExactCoversSpanUptoSaid : Prop := fnExactCoversSpanUptoRow.holds Try.pinned (OpenSpec.upto fnExactCoversSpanSpec)

/-- 'laws.FnExactMissingSpans', WHERE WHAT IT READS IS OF BULK AT MOST 1048576: true; the input reads as it did. -/
def fnExactMissingSpansUptoRow : OpenClaim := { program := "ytccdlbkpnmklcaa", sum := "04825fbad8207951cd52d0ec375a9dc6cab4ee468bbfa8fd2264ad7164831993", func := "loop.example/g03012/laws.FnExactMissingSpans", spec := "fnExactMissingSpans", apart := false, narrowed := true }
def FnExactMissingSpansUptoSaid : Prop := fnExactMissingSpansUptoRow.holds Try.pinned (OpenSpec.upto fnExactMissingSpansSpec)

/-- 'laws.FnExactSpanSize', WHERE WHAT IT READS IS OF BULK AT MOST 1048576: true; the input reads as it did. -/
def fnExactSpanSizeUptoRow : OpenClaim := { program := "ytccdlbkpnmklcaa", sum := "04825fbad8207951cd52d0ec375a9dc6cab4ee468bbfa8fd2264ad7164831993", func := "loop.example/g03012/laws.FnExactSpanSize", spec := "fnExactSpanSize", apart := false, narrowed := true }
def FnExactSpanSizeUptoSaid : Prop := fnExactSpanSizeUptoRow.holds Try.pinned (OpenSpec.upto fnExactSpanSizeSpec)

end Rows
end Go.Proofs.Ytccdlbkpnmklcaa
