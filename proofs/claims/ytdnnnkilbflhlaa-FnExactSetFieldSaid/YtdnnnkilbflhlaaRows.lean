/-
  No cell of these rows narrows 'for every input' (looked for: loops, veiled, ifaces, maps, wideKeys, modest, calm, conditions, laid).
  DERIVED. THE GIVEN ROWS OF THIS SEAT. 6 by the template 'for every input the law returns true; each argument reads behind the call as it read before'; 0 by the template 'total and deterministic' (their statements: YtdnnnkilbflhlaaTotals.lean).
  GIVEN WITH THE SEED: the statements are not yours to turn. If you find one false, say at which input.
  Laid BY PROGRAM, IN A SANDBOX (cutbox-rows.mjs): the forced cells as the released guide's own fill.sh prints them over the translation 191947d140932ce5… (all of the seat's roots in one cut). By AI agents, Wed Nov 11 2026. No macro, syntax, notation, axiom, sorry.
-/
import Derived.Test.YtdnnnkilbflhlaaChecked
import GoSem.Claim
import GoSem.ClaimJoined
import GoSem.ClaimMapViews
import Derived.JoinedTies
import Derived.KernelRfl
namespace Go.Proofs.Ytdnnnkilbflhlaa
/- THE CELL 'sum', in the pinned program and in every row, IS THE sha256 OF THE DUMP (.gsa) THAT YtdnnnkilbflhlaaProg.lean LOADS. Nothing in Lean hashes anything: it is a label: what it is worth is what the hold of that sum in a sandbox is worth. -/
noncomputable def Try.pinned : Pinned := { name := "ytdnnnkilbflhlaa", sum := "191947d140932ce5942d01927ef5a5b8928f9893333d51adf16238d56b4a17df", checked := Try.checked }
namespace Rows
def none {H : Type} : Left H := { results := [], args := [] }

/-- 'laws.FnExactGetField': WHATEVER THE INPUT: true; the input reads as it did. -/
def fnExactGetFieldSpec : ChangeSpec := { name := "fnExactGetField", fn := fun _ => fun
  | [d1, d2] => { results := [.lit (.bool true)], args := [d1, d2] }
  | _ => none }
def fnExactGetFieldRow : OpenClaim := { program := "ytdnnnkilbflhlaa", sum := "191947d140932ce5942d01927ef5a5b8928f9893333d51adf16238d56b4a17df", func := "loop.example/g03012/laws.FnExactGetField", spec := "fnExactGetField", inPlace := ["internal/abi.NoEscape", "internal/bytealg.MakeNoZero"], unfollowed := true, recurses := true, apart := false }
def FnExactGetFieldSaid : Prop := fnExactGetFieldRow.holds Try.pinned (OpenSpec.ofChange fnExactGetFieldSpec)

/-- ITS FALSE NEIGHBOUR: 'it returns false'. Refute it at one input. -/
def fnExactGetFieldWrong : ChangeSpec := { name := "fnExactGetField", fn := fun _ => fun
  | [d1, d2] => { results := [.lit (.bool false)], args := [d1, d2] }
  | _ => none }
def FnExactGetFieldWrongFalsely : Prop := fnExactGetFieldRow.holds Try.pinned (OpenSpec.ofChange fnExactGetFieldWrong)

/-- 'laws.FnExactDropField': WHATEVER THE INPUT: true; the input reads as it did. -/
def fnExactDropFieldSpec : ChangeSpec := { name := "fnExactDropField", fn := fun _ => fun
  | [d1, d2] => { results := [.lit (.bool true)], args := [d1, d2] }
  | _ => none }
def fnExactDropFieldRow : OpenClaim := { program := "ytdnnnkilbflhlaa", sum := "191947d140932ce5942d01927ef5a5b8928f9893333d51adf16238d56b4a17df", func := "loop.example/g03012/laws.FnExactDropField", spec := "fnExactDropField", unfollowed := true, recurses := true, apart := false }
def FnExactDropFieldSaid : Prop := fnExactDropFieldRow.holds Try.pinned (OpenSpec.ofChange fnExactDropFieldSpec)

/-- ITS FALSE NEIGHBOUR: 'it returns false'. Refute it at one input. -/
def fnExactDropFieldWrong : ChangeSpec := { name := "fnExactDropField", fn := fun _ => fun
  | [d1, d2] => { results := [.lit (.bool false)], args := [d1, d2] }
  | _ => none }
def FnExactDropFieldWrongFalsely : Prop := fnExactDropFieldRow.holds Try.pinned (OpenSpec.ofChange fnExactDropFieldWrong)

/-- 'laws.FnExactSetField': WHATEVER THE INPUT: true; the input reads as it did. -/
def fnExactSetFieldSpec : ChangeSpec := { name := "fnExactSetField", fn := fun _ => fun
  | [d1, d2, d3] => { results := [.lit (.bool true)], args := [d1, d2, d3] }
  | _ => none }
def fnExactSetFieldRow : OpenClaim := { program := "ytdnnnkilbflhlaa", sum := "191947d140932ce5942d01927ef5a5b8928f9893333d51adf16238d56b4a17df", func := "loop.example/g03012/laws.FnExactSetField", spec := "fnExactSetField", unfollowed := true, recurses := true, apart := false }
def FnExactSetFieldSaid : Prop := fnExactSetFieldRow.holds Try.pinned (OpenSpec.ofChange fnExactSetFieldSpec)

/-- ITS FALSE NEIGHBOUR: 'it returns false'. Refute it at one input. -/
def fnExactSetFieldWrong : ChangeSpec := { name := "fnExactSetField", fn := fun _ => fun
  | [d1, d2, d3] => { results := [.lit (.bool false)], args := [d1, d2, d3] }
  | _ => none }
def FnExactSetFieldWrongFalsely : Prop := fnExactSetFieldRow.holds Try.pinned (OpenSpec.ofChange fnExactSetFieldWrong)

/-- 'laws.FnExactSameFields': WHATEVER THE INPUT: true; the input reads as it did. -/
def fnExactSameFieldsSpec : ChangeSpec := { name := "fnExactSameFields", fn := fun _ => fun
  | [d1, d2] => { results := [.lit (.bool true)], args := [d1, d2] }
  | _ => none }
def fnExactSameFieldsRow : OpenClaim := { program := "ytdnnnkilbflhlaa", sum := "191947d140932ce5942d01927ef5a5b8928f9893333d51adf16238d56b4a17df", func := "loop.example/g03012/laws.FnExactSameFields", spec := "fnExactSameFields", apart := false }
def FnExactSameFieldsSaid : Prop := fnExactSameFieldsRow.holds Try.pinned (OpenSpec.ofChange fnExactSameFieldsSpec)

/-- ITS FALSE NEIGHBOUR: 'it returns false'. Refute it at one input. -/
def fnExactSameFieldsWrong : ChangeSpec := { name := "fnExactSameFields", fn := fun _ => fun
  | [d1, d2] => { results := [.lit (.bool false)], args := [d1, d2] }
  | _ => none }
def FnExactSameFieldsWrongFalsely : Prop := fnExactSameFieldsRow.holds Try.pinned (OpenSpec.ofChange fnExactSameFieldsWrong)

/-- 'laws.FnExactMergeFields': WHATEVER THE INPUT: true; the input reads as it did. -/
def fnExactMergeFieldsSpec : ChangeSpec := { name := "fnExactMergeFields", fn := fun _ => fun
  | [d1, d2] => { results := [.lit (.bool true)], args := [d1, d2] }
  | _ => none }
def fnExactMergeFieldsRow : OpenClaim := { program := "ytdnnnkilbflhlaa", sum := "191947d140932ce5942d01927ef5a5b8928f9893333d51adf16238d56b4a17df", func := "loop.example/g03012/laws.FnExactMergeFields", spec := "fnExactMergeFields", unfollowed := true, recurses := true, apart := false }
def FnExactMergeFieldsSaid : Prop := fnExactMergeFieldsRow.holds Try.pinned (OpenSpec.ofChange fnExactMergeFieldsSpec)

/-- ITS FALSE NEIGHBOUR: 'it returns false'. Refute it at one input. -/
def fnExactMergeFieldsWrong : ChangeSpec := { name := "fnExactMergeFields", fn := fun _ => fun
  | [d1, d2] => { results := [.lit (.bool false)], args := [d1, d2] }
  | _ => none }
def FnExactMergeFieldsWrongFalsely : Prop := fnExactMergeFieldsRow.holds Try.pinned (OpenSpec.ofChange fnExactMergeFieldsWrong)

/-- 'laws.FnExactFormatFields': WHATEVER THE INPUT: true; the input reads as it did. -/
def fnExactFormatFieldsSpec : ChangeSpec := { name := "fnExactFormatFields", fn := fun _ => fun
  | [d] => { results := [.lit (.bool true)], args := [d] }
  | _ => none }
def fnExactFormatFieldsRow : OpenClaim := { program := "ytdnnnkilbflhlaa", sum := "191947d140932ce5942d01927ef5a5b8928f9893333d51adf16238d56b4a17df", func := "loop.example/g03012/laws.FnExactFormatFields", spec := "fnExactFormatFields", inPlace := ["internal/abi.NoEscape"], apart := false }
def FnExactFormatFieldsSaid : Prop := fnExactFormatFieldsRow.holds Try.pinned (OpenSpec.ofChange fnExactFormatFieldsSpec)

/-- ITS FALSE NEIGHBOUR: 'it returns false'. Refute it at one input. -/
def fnExactFormatFieldsWrong : ChangeSpec := { name := "fnExactFormatFields", fn := fun _ => fun
  | [d] => { results := [.lit (.bool false)], args := [d] }
  | _ => none }
def FnExactFormatFieldsWrongFalsely : Prop := fnExactFormatFieldsRow.holds Try.pinned (OpenSpec.ofChange fnExactFormatFieldsWrong)

/- THE SECOND FORM. 'bulk': how many values and letters a reading holds, each counted each time it is reached (what is shared counts as often as it is met; a slice's spare places count too). A statement '..UptoSaid' is the law's where the arguments, and the package variables that the reading takes, are together of bulk at most 1048576: NARROWER than '..Said'. Prove '..Said' where nothing that the law and all that it calls make is longer than what came in: it says more and counts as full. Else prove '..UptoSaid'. A law counts once. -/
mutual
def uptoBulk {H : Type} : DataW H → Nat
  | .lit (.string bytes) => bytes.length + 1
  | .lit _ => 1
  | .nil => 1
  | .ptr d => uptoBulk d + 1
  | .slice elems spare => uptoBulkAll elems + uptoBulkAll spare + 1
  | .agg parts => uptoBulkAll parts + 1
  | .iface _ d => uptoBulk d + 1
  | .map entries => uptoBulkEntries entries + 1
  | .held _ => 1
def uptoBulkAll {H : Type} : List (DataW H) → Nat
  | [] => 0
  | d :: r => uptoBulk d + uptoBulkAll r
def uptoBulkEntries {H : Type} : List (Lit × DataW H) → Nat
  | [] => 0
  | x :: r => uptoBulkEntry x + uptoBulkEntries r
def uptoBulkEntry {H : Type} : Lit × DataW H → Nat
  | (.string bytes, d) => bytes.length + uptoBulk d + 1
  | (_, d) => uptoBulk d + 1
 end
def uptoSmall : (H : Type) → List (DataW H) → Bool := fun _ ds => decide (uptoBulkAll ds ≤ 1048576)
def OpenSpec.upto (s : _root_.Go.ChangeSpec) : _root_.Go.OpenSpec := { _root_.Go.OpenSpec.ofChange s with cond := some uptoSmall }

/-- 'laws.FnExactGetField', WHERE WHAT IT READS IS OF BULK AT MOST 1048576: true; the input reads as it did. -/
def fnExactGetFieldUptoRow : OpenClaim := { program := "ytdnnnkilbflhlaa", sum := "191947d140932ce5942d01927ef5a5b8928f9893333d51adf16238d56b4a17df", func := "loop.example/g03012/laws.FnExactGetField", spec := "fnExactGetField", inPlace := ["internal/abi.NoEscape", "internal/bytealg.MakeNoZero"], unfollowed := true, recurses := true, apart := false, narrowed := true }
def FnExactGetFieldUptoSaid : Prop := fnExactGetFieldUptoRow.holds Try.pinned (OpenSpec.upto fnExactGetFieldSpec)

/-- 'laws.FnExactDropField', WHERE WHAT IT READS IS OF BULK AT MOST 1048576: true; the input reads as it did. -/
def fnExactDropFieldUptoRow : OpenClaim := { program := "ytdnnnkilbflhlaa", sum := "191947d140932ce5942d01927ef5a5b8928f9893333d51adf16238d56b4a17df", func := "loop.example/g03012/laws.FnExactDropField", spec := "fnExactDropField", unfollowed := true, recurses := true, apart := false, narrowed := true }
def FnExactDropFieldUptoSaid : Prop := fnExactDropFieldUptoRow.holds Try.pinned (OpenSpec.upto fnExactDropFieldSpec)

/-- 'laws.FnExactSetField', WHERE WHAT IT READS IS OF BULK AT MOST 1048576: true; the input reads as it did. -/
def fnExactSetFieldUptoRow : OpenClaim := { program := "ytdnnnkilbflhlaa", sum := "191947d140932ce5942d01927ef5a5b8928f9893333d51adf16238d56b4a17df", func := "loop.example/g03012/laws.FnExactSetField", spec := "fnExactSetField", unfollowed := true, recurses := true, apart := false, narrowed := true }
def FnExactSetFieldUptoSaid : Prop := fnExactSetFieldUptoRow.holds Try.pinned (OpenSpec.upto fnExactSetFieldSpec)

/-- 'laws.FnExactSameFields', WHERE WHAT IT READS IS OF BULK AT MOST 1048576: true; the input reads as it did. -/
def fnExactSameFieldsUptoRow : OpenClaim := { program := "ytdnnnkilbflhlaa", sum := "191947d140932ce5942d01927ef5a5b8928f9893333d51adf16238d56b4a17df", func := "loop.example/g03012/laws.FnExactSameFields", spec := "fnExactSameFields", apart := false, narrowed := true }
def FnExactSameFieldsUptoSaid : Prop := fnExactSameFieldsUptoRow.holds Try.pinned (OpenSpec.upto fnExactSameFieldsSpec)

/-- 'laws.FnExactMergeFields', WHERE WHAT IT READS IS OF BULK AT MOST 1048576: true; the input reads as it did. -/
def fnExactMergeFieldsUptoRow : OpenClaim := { program := "ytdnnnkilbflhlaa", sum := "191947d140932ce5942d01927ef5a5b8928f9893333d51adf16238d56b4a17df", func := "loop.example/g03012/laws.FnExactMergeFields", spec := "fnExactMergeFields", unfollowed := true, recurses := true, apart := false, narrowed := true }
def FnExactMergeFieldsUptoSaid : Prop := fnExactMergeFieldsUptoRow.holds Try.pinned (OpenSpec.upto fnExactMergeFieldsSpec)

/-- 'laws.FnExactFormatFields', WHERE WHAT IT READS IS OF BULK AT MOST 1048576: true; the input reads as it did. -/
def fnExactFormatFieldsUptoRow : OpenClaim := { program := "ytdnnnkilbflhlaa", sum := "191947d140932ce5942d01927ef5a5b8928f9893333d51adf16238d56b4a17df", func := "loop.example/g03012/laws.FnExactFormatFields", spec := "fnExactFormatFields", inPlace := ["internal/abi.NoEscape"], apart := false, narrowed := true }
def FnExactFormatFieldsUptoSaid : Prop := fnExactFormatFieldsUptoRow.holds Try.pinned (OpenSpec.upto fnExactFormatFieldsSpec)

end Rows
end Go.Proofs.Ytdnnnkilbflhlaa
