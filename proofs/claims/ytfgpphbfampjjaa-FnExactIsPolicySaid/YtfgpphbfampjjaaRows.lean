/-
  No cell of these rows narrows 'for every input' (looked for: loops, veiled, ifaces, maps, wideKeys, modest, calm, conditions, laid).
  DERIVED. THE GIVEN ROWS OF THIS SEAT. 8 by the template 'for every input the law returns true; each argument reads behind the call as it read before'; 0 by the template 'total and deterministic' (their statements: YtfgpphbfampjjaaTotals.lean).
  GIVEN WITH THE SEED: the statements are not yours to turn. If you find one false, say at which input.
  Laid BY PROGRAM, IN A SANDBOX (cutbox-rows.mjs): the forced cells as the released guide's own fill.sh prints them over the translation 4b6e3358fa5d8da3… (all of the seat's roots in one cut). By AI agents, Wed Nov 11 2026. No macro, syntax, notation, axiom, sorry.
-/
import Derived.Test.YtfgpphbfampjjaaChecked
import GoSem.Claim
import GoSem.ClaimJoined
import GoSem.ClaimMapViews
import Derived.JoinedTies
import Derived.KernelRfl
namespace Go.Proofs.Ytfgpphbfampjjaa
/- THE CELL 'sum', in the pinned program and in every row, IS THE sha256 OF THE DUMP (.gsa) THAT YtfgpphbfampjjaaProg.lean LOADS. Nothing in Lean hashes anything: it is a label: what it is worth is what the hold of that sum in a sandbox is worth. -/
noncomputable def Try.pinned : Pinned := { name := "ytfgpphbfampjjaa", sum := "4b6e3358fa5d8da30d046ce6305d66e5acbc780ced1a850a473246b39fb32cd6", checked := Try.checked }
namespace Rows
def none {H : Type} : Left H := { results := [], args := [] }

/-- 'laws.FnExactIsPurge': WHATEVER THE INPUT: true; the input reads as it did. -/
def fnExactIsPurgeSpec : ChangeSpec := { name := "fnExactIsPurge", fn := fun _ => fun
  | [d] => { results := [.lit (.bool true)], args := [d] }
  | _ => none }
def fnExactIsPurgeRow : OpenClaim := { program := "ytfgpphbfampjjaa", sum := "4b6e3358fa5d8da30d046ce6305d66e5acbc780ced1a850a473246b39fb32cd6", func := "loop.example/g03012/laws.FnExactIsPurge", spec := "fnExactIsPurge", apart := false }
def FnExactIsPurgeSaid : Prop := fnExactIsPurgeRow.holds Try.pinned (OpenSpec.ofChange fnExactIsPurgeSpec)

/-- ITS FALSE NEIGHBOUR: 'it returns false'. Refute it at one input. -/
def fnExactIsPurgeWrong : ChangeSpec := { name := "fnExactIsPurge", fn := fun _ => fun
  | [d] => { results := [.lit (.bool false)], args := [d] }
  | _ => none }
def FnExactIsPurgeWrongFalsely : Prop := fnExactIsPurgeRow.holds Try.pinned (OpenSpec.ofChange fnExactIsPurgeWrong)

/-- 'laws.FnExactArePurges': WHATEVER THE INPUT: true; the input reads as it did. -/
def fnExactArePurgesSpec : ChangeSpec := { name := "fnExactArePurges", fn := fun _ => fun
  | [d] => { results := [.lit (.bool true)], args := [d] }
  | _ => none }
def fnExactArePurgesRow : OpenClaim := { program := "ytfgpphbfampjjaa", sum := "4b6e3358fa5d8da30d046ce6305d66e5acbc780ced1a850a473246b39fb32cd6", func := "loop.example/g03012/laws.FnExactArePurges", spec := "fnExactArePurges", apart := false }
def FnExactArePurgesSaid : Prop := fnExactArePurgesRow.holds Try.pinned (OpenSpec.ofChange fnExactArePurgesSpec)

/-- ITS FALSE NEIGHBOUR: 'it returns false'. Refute it at one input. -/
def fnExactArePurgesWrong : ChangeSpec := { name := "fnExactArePurges", fn := fun _ => fun
  | [d] => { results := [.lit (.bool false)], args := [d] }
  | _ => none }
def FnExactArePurgesWrongFalsely : Prop := fnExactArePurgesRow.holds Try.pinned (OpenSpec.ofChange fnExactArePurgesWrong)

/-- 'laws.FnExactAddPurge': WHATEVER THE INPUT: true; the input reads as it did. -/
def fnExactAddPurgeSpec : ChangeSpec := { name := "fnExactAddPurge", fn := fun _ => fun
  | [d1, d2] => { results := [.lit (.bool true)], args := [d1, d2] }
  | _ => none }
def fnExactAddPurgeRow : OpenClaim := { program := "ytfgpphbfampjjaa", sum := "4b6e3358fa5d8da30d046ce6305d66e5acbc780ced1a850a473246b39fb32cd6", func := "loop.example/g03012/laws.FnExactAddPurge", spec := "fnExactAddPurge", inPlace := ["slices.overlaps[loop.example/g03012/impl.Purge]"], apart := false }
def FnExactAddPurgeSaid : Prop := fnExactAddPurgeRow.holds Try.pinned (OpenSpec.ofChange fnExactAddPurgeSpec)

/-- ITS FALSE NEIGHBOUR: 'it returns false'. Refute it at one input. -/
def fnExactAddPurgeWrong : ChangeSpec := { name := "fnExactAddPurge", fn := fun _ => fun
  | [d1, d2] => { results := [.lit (.bool false)], args := [d1, d2] }
  | _ => none }
def FnExactAddPurgeWrongFalsely : Prop := fnExactAddPurgeRow.holds Try.pinned (OpenSpec.ofChange fnExactAddPurgeWrong)

/-- 'laws.FnExactIsSketch': WHATEVER THE INPUT: true; the input reads as it did. -/
def fnExactIsSketchSpec : ChangeSpec := { name := "fnExactIsSketch", fn := fun _ => fun
  | [d] => { results := [.lit (.bool true)], args := [d] }
  | _ => none }
def fnExactIsSketchRow : OpenClaim := { program := "ytfgpphbfampjjaa", sum := "4b6e3358fa5d8da30d046ce6305d66e5acbc780ced1a850a473246b39fb32cd6", func := "loop.example/g03012/laws.FnExactIsSketch", spec := "fnExactIsSketch", apart := false }
def FnExactIsSketchSaid : Prop := fnExactIsSketchRow.holds Try.pinned (OpenSpec.ofChange fnExactIsSketchSpec)

/-- ITS FALSE NEIGHBOUR: 'it returns false'. Refute it at one input. -/
def fnExactIsSketchWrong : ChangeSpec := { name := "fnExactIsSketch", fn := fun _ => fun
  | [d] => { results := [.lit (.bool false)], args := [d] }
  | _ => none }
def FnExactIsSketchWrongFalsely : Prop := fnExactIsSketchRow.holds Try.pinned (OpenSpec.ofChange fnExactIsSketchWrong)

/-- 'laws.FnExactTouchKey': WHATEVER THE INPUT: true; the input reads as it did. -/
def fnExactTouchKeySpec : ChangeSpec := { name := "fnExactTouchKey", fn := fun _ => fun
  | [d1, d2] => { results := [.lit (.bool true)], args := [d1, d2] }
  | _ => none }
def fnExactTouchKeyRow : OpenClaim := { program := "ytfgpphbfampjjaa", sum := "4b6e3358fa5d8da30d046ce6305d66e5acbc780ced1a850a473246b39fb32cd6", func := "loop.example/g03012/laws.FnExactTouchKey", spec := "fnExactTouchKey", apart := false }
def FnExactTouchKeySaid : Prop := fnExactTouchKeyRow.holds Try.pinned (OpenSpec.ofChange fnExactTouchKeySpec)

/-- ITS FALSE NEIGHBOUR: 'it returns false'. Refute it at one input. -/
def fnExactTouchKeyWrong : ChangeSpec := { name := "fnExactTouchKey", fn := fun _ => fun
  | [d1, d2] => { results := [.lit (.bool false)], args := [d1, d2] }
  | _ => none }
def FnExactTouchKeyWrongFalsely : Prop := fnExactTouchKeyRow.holds Try.pinned (OpenSpec.ofChange fnExactTouchKeyWrong)

/-- 'laws.FnExactEstimateKey': WHATEVER THE INPUT: true; the input reads as it did. -/
def fnExactEstimateKeySpec : ChangeSpec := { name := "fnExactEstimateKey", fn := fun _ => fun
  | [d1, d2] => { results := [.lit (.bool true)], args := [d1, d2] }
  | _ => none }
def fnExactEstimateKeyRow : OpenClaim := { program := "ytfgpphbfampjjaa", sum := "4b6e3358fa5d8da30d046ce6305d66e5acbc780ced1a850a473246b39fb32cd6", func := "loop.example/g03012/laws.FnExactEstimateKey", spec := "fnExactEstimateKey", apart := false }
def FnExactEstimateKeySaid : Prop := fnExactEstimateKeyRow.holds Try.pinned (OpenSpec.ofChange fnExactEstimateKeySpec)

/-- ITS FALSE NEIGHBOUR: 'it returns false'. Refute it at one input. -/
def fnExactEstimateKeyWrong : ChangeSpec := { name := "fnExactEstimateKey", fn := fun _ => fun
  | [d1, d2] => { results := [.lit (.bool false)], args := [d1, d2] }
  | _ => none }
def FnExactEstimateKeyWrongFalsely : Prop := fnExactEstimateKeyRow.holds Try.pinned (OpenSpec.ofChange fnExactEstimateKeyWrong)

/-- 'laws.FnExactEntryAge': WHATEVER THE INPUT: true; the input reads as it did. -/
def fnExactEntryAgeSpec : ChangeSpec := { name := "fnExactEntryAge", fn := fun _ => fun
  | [d1, d2] => { results := [.lit (.bool true)], args := [d1, d2] }
  | _ => none }
def fnExactEntryAgeRow : OpenClaim := { program := "ytfgpphbfampjjaa", sum := "4b6e3358fa5d8da30d046ce6305d66e5acbc780ced1a850a473246b39fb32cd6", func := "loop.example/g03012/laws.FnExactEntryAge", spec := "fnExactEntryAge", apart := false }
def FnExactEntryAgeSaid : Prop := fnExactEntryAgeRow.holds Try.pinned (OpenSpec.ofChange fnExactEntryAgeSpec)

/-- ITS FALSE NEIGHBOUR: 'it returns false'. Refute it at one input. -/
def fnExactEntryAgeWrong : ChangeSpec := { name := "fnExactEntryAge", fn := fun _ => fun
  | [d1, d2] => { results := [.lit (.bool false)], args := [d1, d2] }
  | _ => none }
def FnExactEntryAgeWrongFalsely : Prop := fnExactEntryAgeRow.holds Try.pinned (OpenSpec.ofChange fnExactEntryAgeWrong)

/-- 'laws.FnExactIsPolicy': WHATEVER THE INPUT: true; the input reads as it did. -/
def fnExactIsPolicySpec : ChangeSpec := { name := "fnExactIsPolicy", fn := fun _ => fun
  | [d] => { results := [.lit (.bool true)], args := [d] }
  | _ => none }
def fnExactIsPolicyRow : OpenClaim := { program := "ytfgpphbfampjjaa", sum := "4b6e3358fa5d8da30d046ce6305d66e5acbc780ced1a850a473246b39fb32cd6", func := "loop.example/g03012/laws.FnExactIsPolicy", spec := "fnExactIsPolicy", apart := false }
def FnExactIsPolicySaid : Prop := fnExactIsPolicyRow.holds Try.pinned (OpenSpec.ofChange fnExactIsPolicySpec)

/-- ITS FALSE NEIGHBOUR: 'it returns false'. Refute it at one input. -/
def fnExactIsPolicyWrong : ChangeSpec := { name := "fnExactIsPolicy", fn := fun _ => fun
  | [d] => { results := [.lit (.bool false)], args := [d] }
  | _ => none }
def FnExactIsPolicyWrongFalsely : Prop := fnExactIsPolicyRow.holds Try.pinned (OpenSpec.ofChange fnExactIsPolicyWrong)

/- THE SECOND FORM. 'bulk': how many values and letters a reading holds, each counted each time it is reached (what is shared counts as often as it is met; a slice's spare places count too). A statement '..UptoSaid' is the law's where the arguments, and the package variables that the reading takes, are together of bulk at most 1048576: NARROWER than '..Said'. Prove '..Said' where nothing that the law and all that it calls make is longer than what came in: it says more and counts as full. Else prove '..UptoSaid'. A law counts once. -/
mutual
def uptoBulk {H : Type} : DataW H → Nat
  | .lit (.string bytes) => bytes.length + 1
  | .lit _ => 1
  | .nil => 1
  | .ptr d => uptoBulk d + 1
  | .slice elems spare => uptoBulkAll elems + uptoBulkAll spare + 1
  | .agg parts => uptoBulkAll parts + 1
  | .iface _ d => uptoBulk d + 1
  | .map entries => uptoBulkEntries entries + 1
  | .held _ => 1
def uptoBulkAll {H : Type} : List (DataW H) → Nat
  | [] => 0
  | d :: r => uptoBulk d + uptoBulkAll r
def uptoBulkEntries {H : Type} : List (Lit × DataW H) → Nat
  | [] => 0
  | x :: r => uptoBulkEntry x + uptoBulkEntries r
def uptoBulkEntry {H : Type} : Lit × DataW H → Nat
  | (.string bytes, d) => bytes.length + uptoBulk d + 1
  | (_, d) => uptoBulk d + 1
 end
def uptoSmall : (H : Type) → List (DataW H) → Bool := fun _ ds => decide (uptoBulkAll ds ≤ 1048576)
def OpenSpec.upto (s : _root_.Go.ChangeSpec) : _root_.Go.OpenSpec := { _root_.Go.OpenSpec.ofChange s with cond := some uptoSmall }

/-- 'laws.FnExactIsPurge', WHERE WHAT IT READS IS OF BULK AT MOST 1048576: true; the input reads as it did. -/
def fnExactIsPurgeUptoRow : OpenClaim := { program := "ytfgpphbfampjjaa", sum := "4b6e3358fa5d8da30d046ce6305d66e5acbc780ced1a850a473246b39fb32cd6", func := "loop.example/g03012/laws.FnExactIsPurge", spec := "fnExactIsPurge", apart := false, narrowed := true }
def FnExactIsPurgeUptoSaid : Prop := fnExactIsPurgeUptoRow.holds Try.pinned (OpenSpec.upto fnExactIsPurgeSpec)

/-- 'laws.FnExactArePurges', WHERE WHAT IT READS IS OF BULK AT MOST 1048576: true; the input reads as it did. -/
def fnExactArePurgesUptoRow : OpenClaim := { program := "ytfgpphbfampjjaa", sum := "4b6e3358fa5d8da30d046ce6305d66e5acbc780ced1a850a473246b39fb32cd6", func := "loop.example/g03012/laws.FnExactArePurges", spec := "fnExactArePurges", apart := false, narrowed := true }
def FnExactArePurgesUptoSaid : Prop := fnExactArePurgesUptoRow.holds Try.pinned (OpenSpec.upto fnExactArePurgesSpec)

/-- 'laws.FnExactAddPurge', WHERE WHAT IT READS IS OF BULK AT MOST 1048576: true; the input reads as it did. -/
def fnExactAddPurgeUptoRow : OpenClaim := { program := "ytfgpphbfampjjaa", sum := "4b6e3358fa5d8da30d046ce6305d66e5acbc780ced1a850a473246b39fb32cd6", func := "loop.example/g03012/laws.FnExactAddPurge", spec := "fnExactAddPurge", inPlace := ["slices.overlaps[loop.example/g03012/impl.Purge]"], apart := false, narrowed := true }
def FnExactAddPurgeUptoSaid : Prop := fnExactAddPurgeUptoRow.holds Try.pinned (OpenSpec.upto fnExactAddPurgeSpec)

/-- 'laws.FnExactIsSketch', WHERE WHAT IT READS IS OF BULK AT MOST 1048576: true; the input reads as it did. -/
def fnExactIsSketchUptoRow : OpenClaim := { program := "ytfgpphbfampjjaa", sum := "4b6e3358fa5d8da30d046ce6305d66e5acbc780ced1a850a473246b39fb32cd6", func := "loop.example/g03012/laws.FnExactIsSketch", spec := "fnExactIsSketch", apart := false, narrowed := true }
def FnExactIsSketchUptoSaid : Prop := fnExactIsSketchUptoRow.holds Try.pinned (OpenSpec.upto fnExactIsSketchSpec)

/-- 'laws.FnExactTouchKey', WHERE WHAT IT READS IS OF BULK AT MOST 1048576: true; the input reads as it did. -/
def fnExactTouchKeyUptoRow : OpenClaim := { program := "ytfgpphbfampjjaa", sum := "4b6e3358fa5d8da30d046ce6305d66e5acbc780ced1a850a473246b39fb32cd6", func := "loop.example/g03012/laws.FnExactTouchKey", spec := "fnExactTouchKey", apart := false, narrowed := true }
def FnExactTouchKeyUptoSaid : Prop := fnExactTouchKeyUptoRow.holds Try.pinned (OpenSpec.upto fnExactTouchKeySpec)

/-- 'laws.FnExactEstimateKey', WHERE WHAT IT READS IS OF BULK AT MOST 1048576: true; the input reads as it did. -/
def fnExactEstimateKeyUptoRow : OpenClaim := { program := "ytfgpphbfampjjaa", sum := "4b6e3358fa5d8da30d046ce6305d66e5acbc780ced1a850a473246b39fb32cd6", func := "loop.example/g03012/laws.FnExactEstimateKey", spec := "fnExactEstimateKey", apart := false, narrowed := true }
def FnExactEstimateKeyUptoSaid : Prop := fnExactEstimateKeyUptoRow.holds Try.pinned (OpenSpec.upto fnExactEstimateKeySpec)

/-- 'laws.FnExactEntryAge', WHERE WHAT IT READS IS OF BULK AT MOST 1048576: true; the input reads as it did. -/
def fnExactEntryAgeUptoRow : OpenClaim := { program := "ytfgpphbfampjjaa", sum := "4b6e3358fa5d8da30d046ce6305d66e5acbc780ced1a850a473246b39fb32cd6", func := "loop.example/g03012/laws.FnExactEntryAge", spec := "fnExactEntryAge", apart := false, narrowed := true }
def FnExactEntryAgeUptoSaid : Prop := fnExactEntryAgeUptoRow.holds Try.pinned (OpenSpec.upto fnExactEntryAgeSpec)

/-- 'laws.FnExactIsPolicy', WHERE WHAT IT READS IS OF BULK AT MOST 1048576: true; the input reads as it did. -/
def fnExactIsPolicyUptoRow : OpenClaim := { program := "ytfgpphbfampjjaa", sum := "4b6e3358fa5d8da30d046ce6305d66e5acbc780ced1a850a473246b39fb32cd6", func := "loop.example/g03012/laws.FnExactIsPolicy", spec := "fnExactIsPolicy", apart := false, narrowed := true }
def FnExactIsPolicyUptoSaid : Prop := fnExactIsPolicyUptoRow.holds Try.pinned (OpenSpec.upto fnExactIsPolicySpec)

end Rows
end Go.Proofs.Ytfgpphbfampjjaa
