/-
  NARROWER THAN 'FOR EVERY INPUT', by the rows' own cells (each row's printed sentence says how): FnLists: laid · FnExactTrimText: laid · FnExactSplitList: laid · FnExactSplitPair: laid.
  DERIVED. THE GIVEN ROWS OF THIS SEAT. 4 by the template 'for every input the law returns true; each argument reads behind the call as it read before'; 0 by the template 'total and deterministic' (their statements: YtajojhfddedgbaaDoorTotals.lean).
  GIVEN WITH THE SEED: the statements are not yours to turn. If you find one false, say at which input.
  Laid BY PROGRAM, IN A SANDBOX (cutbox-rows.mjs): the forced cells as the released guide's own fill.sh prints them over the translation dd27fadfd966942b… (all of the seat's roots in one cut). By AI agents, Wed Nov 11 2026. No macro, syntax, notation, axiom, sorry.
-/
import Derived.Test.YtajojhfddedgbaaDoorChecked
import GoSem.PinnedTables
import GoSem.Claim
import GoSem.ClaimJoined
import GoSem.ClaimMapViews
import Derived.JoinedTies
import Derived.KernelRfl
namespace Go.Proofs.YtajojhfddedgbaaDoor
/- THE CELL 'sum', in the pinned program and in every row, IS THE sha256 OF THE DUMP (.gsa) THAT YtajojhfddedgbaaDoorProg.lean LOADS. Nothing in Lean hashes anything: it is a label: what it is worth is what the hold of that sum in a sandbox is worth. -/
noncomputable def Tryd.pinned : Pinned := { name := "ytajojhfddedgbaadoor", sum := "dd27fadfd966942b91172aefbe6eb18cc83fc960d93b2905e45ac5e30054a206", checked := Tryd.checked }
namespace Rows
def none {H : Type} : Left H := { results := [], args := [] }

/- WHAT THE LISTED PACKAGE-LEVEL VARIABLES READ AS WHEN THE CALL BEGINS. Each datum BY PROGRAM (the guide's laid-datum.mjs) off the statement by which the dump's own 'gosem.cut.vars' lays the variable. In a bare row this is a premise. The card (YtajojhfddedgbaaDoorCards.lean) ties it to the program's text. -/
def laid_unicode_utf8_acceptRanges {H : Type} : DataW H := .agg [.agg [.lit (.int .u8 128), .lit (.int .u8 191)], .agg [.lit (.int .u8 160), .lit (.int .u8 191)], .agg [.lit (.int .u8 128), .lit (.int .u8 159)], .agg [.lit (.int .u8 144), .lit (.int .u8 191)], .agg [.lit (.int .u8 128), .lit (.int .u8 143)], .agg [.lit (.int .u8 0), .lit (.int .u8 0)], .agg [.lit (.int .u8 0), .lit (.int .u8 0)], .agg [.lit (.int .u8 0), .lit (.int .u8 0)], .agg [.lit (.int .u8 0), .lit (.int .u8 0)], .agg [.lit (.int .u8 0), .lit (.int .u8 0)], .agg [.lit (.int .u8 0), .lit (.int .u8 0)], .agg [.lit (.int .u8 0), .lit (.int .u8 0)], .agg [.lit (.int .u8 0), .lit (.int .u8 0)], .agg [.lit (.int .u8 0), .lit (.int .u8 0)], .agg [.lit (.int .u8 0), .lit (.int .u8 0)], .agg [.lit (.int .u8 0), .lit (.int .u8 0)]]
/-- One of Go's own tables, pinned by name: the form's constant. -/
def laid_unicode_utf8_first : DataW Unit := Go.Pinned.utf8First

/-- 'laws.FnLists': WHATEVER THE INPUT: true; the input reads as it did. -/
def fnListsSpec : ChangeSpec := { name := "fnLists", fn := fun _ => fun
  | [d] => { results := [.lit (.bool true)], args := [d] }
  | _ => none }
def fnListsRow : OpenClaim := { program := "ytajojhfddedgbaadoor", sum := "dd27fadfd966942b91172aefbe6eb18cc83fc960d93b2905e45ac5e30054a206", func := "loop.example/g03012/laws.FnLists", spec := "fnLists", inPlace := ["internal/bytealg.IndexByteString", "internal/bytealg.IndexString", "internal/abi.NoEscape", "internal/bytealg.MakeNoZero"], named := ["unicode/utf8.first", "unicode/utf8.acceptRanges", "internal/bytealg.MaxLen"], apart := false, laid := [("unicode/utf8.acceptRanges", laid_unicode_utf8_acceptRanges), ("unicode/utf8.first", laid_unicode_utf8_first)] }
def FnListsSaid : Prop := fnListsRow.holds Tryd.pinned (OpenSpec.ofChange fnListsSpec)

/-- ITS FALSE NEIGHBOUR: 'it returns false'. Refute it at one input. -/
def fnListsWrong : ChangeSpec := { name := "fnLists", fn := fun _ => fun
  | [d] => { results := [.lit (.bool false)], args := [d] }
  | _ => none }
def FnListsWrongFalsely : Prop := fnListsRow.holds Tryd.pinned (OpenSpec.ofChange fnListsWrong)

/-- 'laws.FnExactTrimText': WHATEVER THE INPUT: true; the input reads as it did. -/
def fnExactTrimTextSpec : ChangeSpec := { name := "fnExactTrimText", fn := fun _ => fun
  | [d] => { results := [.lit (.bool true)], args := [d] }
  | _ => none }
def fnExactTrimTextRow : OpenClaim := { program := "ytajojhfddedgbaadoor", sum := "dd27fadfd966942b91172aefbe6eb18cc83fc960d93b2905e45ac5e30054a206", func := "loop.example/g03012/laws.FnExactTrimText", spec := "fnExactTrimText", inPlace := ["internal/bytealg.IndexByteString", "internal/bytealg.IndexString"], named := ["unicode/utf8.first", "unicode/utf8.acceptRanges", "internal/bytealg.MaxLen"], apart := false, laid := [("unicode/utf8.acceptRanges", laid_unicode_utf8_acceptRanges), ("unicode/utf8.first", laid_unicode_utf8_first)] }
def FnExactTrimTextSaid : Prop := fnExactTrimTextRow.holds Tryd.pinned (OpenSpec.ofChange fnExactTrimTextSpec)

/-- ITS FALSE NEIGHBOUR: 'it returns false'. Refute it at one input. -/
def fnExactTrimTextWrong : ChangeSpec := { name := "fnExactTrimText", fn := fun _ => fun
  | [d] => { results := [.lit (.bool false)], args := [d] }
  | _ => none }
def FnExactTrimTextWrongFalsely : Prop := fnExactTrimTextRow.holds Tryd.pinned (OpenSpec.ofChange fnExactTrimTextWrong)

/-- 'laws.FnExactSplitList': WHATEVER THE INPUT: true; the input reads as it did. -/
def fnExactSplitListSpec : ChangeSpec := { name := "fnExactSplitList", fn := fun _ => fun
  | [d] => { results := [.lit (.bool true)], args := [d] }
  | _ => none }
def fnExactSplitListRow : OpenClaim := { program := "ytajojhfddedgbaadoor", sum := "dd27fadfd966942b91172aefbe6eb18cc83fc960d93b2905e45ac5e30054a206", func := "loop.example/g03012/laws.FnExactSplitList", spec := "fnExactSplitList", inPlace := ["internal/bytealg.IndexByteString", "internal/bytealg.IndexString"], named := ["unicode/utf8.first", "unicode/utf8.acceptRanges", "internal/bytealg.MaxLen"], apart := false, laid := [("unicode/utf8.acceptRanges", laid_unicode_utf8_acceptRanges), ("unicode/utf8.first", laid_unicode_utf8_first)] }
def FnExactSplitListSaid : Prop := fnExactSplitListRow.holds Tryd.pinned (OpenSpec.ofChange fnExactSplitListSpec)

/-- ITS FALSE NEIGHBOUR: 'it returns false'. Refute it at one input. -/
def fnExactSplitListWrong : ChangeSpec := { name := "fnExactSplitList", fn := fun _ => fun
  | [d] => { results := [.lit (.bool false)], args := [d] }
  | _ => none }
def FnExactSplitListWrongFalsely : Prop := fnExactSplitListRow.holds Tryd.pinned (OpenSpec.ofChange fnExactSplitListWrong)

/-- 'laws.FnExactSplitPair': WHATEVER THE INPUT: true; the input reads as it did. -/
def fnExactSplitPairSpec : ChangeSpec := { name := "fnExactSplitPair", fn := fun _ => fun
  | [d] => { results := [.lit (.bool true)], args := [d] }
  | _ => none }
def fnExactSplitPairRow : OpenClaim := { program := "ytajojhfddedgbaadoor", sum := "dd27fadfd966942b91172aefbe6eb18cc83fc960d93b2905e45ac5e30054a206", func := "loop.example/g03012/laws.FnExactSplitPair", spec := "fnExactSplitPair", inPlace := ["internal/bytealg.IndexByteString", "internal/bytealg.IndexString"], named := ["internal/bytealg.MaxLen", "unicode/utf8.first", "unicode/utf8.acceptRanges"], apart := false, laid := [("unicode/utf8.acceptRanges", laid_unicode_utf8_acceptRanges), ("unicode/utf8.first", laid_unicode_utf8_first)] }
def FnExactSplitPairSaid : Prop := fnExactSplitPairRow.holds Tryd.pinned (OpenSpec.ofChange fnExactSplitPairSpec)

/-- ITS FALSE NEIGHBOUR: 'it returns false'. Refute it at one input. -/
def fnExactSplitPairWrong : ChangeSpec := { name := "fnExactSplitPair", fn := fun _ => fun
  | [d] => { results := [.lit (.bool false)], args := [d] }
  | _ => none }
def FnExactSplitPairWrongFalsely : Prop := fnExactSplitPairRow.holds Tryd.pinned (OpenSpec.ofChange fnExactSplitPairWrong)

/- THE SECOND FORM. 'bulk': how many values and letters a reading holds, each counted each time it is reached (what is shared counts as often as it is met; a slice's spare places count too). A statement '..UptoSaid' is the law's where the arguments, and the package variables that the reading takes, are together of bulk at most 1048576: NARROWER than '..Said'. Prove '..Said' where nothing that the law and all that it calls make is longer than what came in: it says more and counts as full. Else prove '..UptoSaid'. A law counts once. -/
mutual
def uptoBulk {H : Type} : DataW H → Nat
  | .lit (.string bytes) => bytes.length + 1
  | .lit _ => 1
  | .nil => 1
  | .ptr d => uptoBulk d + 1
  | .slice elems spare => uptoBulkAll elems + uptoBulkAll spare + 1
  | .agg parts => uptoBulkAll parts + 1
  | .iface _ d => uptoBulk d + 1
  | .map entries => uptoBulkEntries entries + 1
  | .held _ => 1
def uptoBulkAll {H : Type} : List (DataW H) → Nat
  | [] => 0
  | d :: r => uptoBulk d + uptoBulkAll r
def uptoBulkEntries {H : Type} : List (Lit × DataW H) → Nat
  | [] => 0
  | x :: r => uptoBulkEntry x + uptoBulkEntries r
def uptoBulkEntry {H : Type} : Lit × DataW H → Nat
  | (.string bytes, d) => bytes.length + uptoBulk d + 1
  | (_, d) => uptoBulk d + 1
 end
def uptoSmall : (H : Type) → List (DataW H) → Bool := fun _ ds => decide (uptoBulkAll ds ≤ 1048576)
def OpenSpec.upto (s : _root_.Go.ChangeSpec) : _root_.Go.OpenSpec := { _root_.Go.OpenSpec.ofChange s with cond := some uptoSmall }

/-- 'laws.FnLists', WHERE WHAT IT READS IS OF BULK AT MOST 1048576: true; the input reads as it did. -/
def fnListsUptoRow : OpenClaim := { program := "ytajojhfddedgbaadoor", sum := "dd27fadfd966942b91172aefbe6eb18cc83fc960d93b2905e45ac5e30054a206", func := "loop.example/g03012/laws.FnLists", spec := "fnLists", inPlace := ["internal/bytealg.IndexByteString", "internal/bytealg.IndexString", "internal/abi.NoEscape", "internal/bytealg.MakeNoZero"], named := ["unicode/utf8.first", "unicode/utf8.acceptRanges", "internal/bytealg.MaxLen"], apart := false, laid := [("unicode/utf8.acceptRanges", laid_unicode_utf8_acceptRanges), ("unicode/utf8.first", laid_unicode_utf8_first)], narrowed := true }
def FnListsUptoSaid : Prop := fnListsUptoRow.holds Tryd.pinned (OpenSpec.upto fnListsSpec)

/-- 'laws.FnExactTrimText', WHERE WHAT IT READS IS OF BULK AT MOST 1048576: true; the input reads as it did. -/
def fnExactTrimTextUptoRow : OpenClaim := { program := "ytajojhfddedgbaadoor", sum := "dd27fadfd966942b91172aefbe6eb18cc83fc960d93b2905e45ac5e30054a206", func := "loop.example/g03012/laws.FnExactTrimText", spec := "fnExactTrimText", inPlace := ["internal/bytealg.IndexByteString", "internal/bytealg.IndexString"], named := ["unicode/utf8.first", "unicode/utf8.acceptRanges", "internal/bytealg.MaxLen"], apart := false, laid := [("unicode/utf8.acceptRanges", laid_unicode_utf8_acceptRanges), ("unicode/utf8.first", laid_unicode_utf8_first)], narrowed := true }
def FnExactTrimTextUptoSaid : Prop := fnExactTrimTextUptoRow.holds Tryd.pinned (OpenSpec.upto fnExactTrimTextSpec)

/-- 'laws.FnExactSplitList', WHERE WHAT IT READS IS OF BULK AT MOST 1048576: true; the input reads as it did. -/
def fnExactSplitListUptoRow : OpenClaim := { program := "ytajojhfddedgbaadoor", sum := "dd27fadfd966942b91172aefbe6eb18cc83fc960d93b2905e45ac5e30054a206", func := "loop.example/g03012/laws.FnExactSplitList", spec := "fnExactSplitList", inPlace := ["internal/bytealg.IndexByteString", "internal/bytealg.IndexString"], named := ["unicode/utf8.first", "unicode/utf8.acceptRanges", "internal/bytealg.MaxLen"], apart := false, laid := [("unicode/utf8.acceptRanges", laid_unicode_utf8_acceptRanges), ("unicode/utf8.first", laid_unicode_utf8_first)], narrowed := true }
def FnExactSplitListUptoSaid : Prop := fnExactSplitListUptoRow.holds Tryd.pinned (OpenSpec.upto fnExactSplitListSpec)

/-- 'laws.FnExactSplitPair', WHERE WHAT IT READS IS OF BULK AT MOST 1048576: true; the input reads as it did. -/
def fnExactSplitPairUptoRow : OpenClaim := { program := "ytajojhfddedgbaadoor", sum := "dd27fadfd966942b91172aefbe6eb18cc83fc960d93b2905e45ac5e30054a206", func := "loop.example/g03012/laws.FnExactSplitPair", spec := "fnExactSplitPair", inPlace := ["internal/bytealg.IndexByteString", "internal/bytealg.IndexString"], named := ["internal/bytealg.MaxLen", "unicode/utf8.first", "unicode/utf8.acceptRanges"], apart := false, laid := [("unicode/utf8.acceptRanges", laid_unicode_utf8_acceptRanges), ("unicode/utf8.first", laid_unicode_utf8_first)], narrowed := true }
def FnExactSplitPairUptoSaid : Prop := fnExactSplitPairUptoRow.holds Tryd.pinned (OpenSpec.upto fnExactSplitPairSpec)

end Rows
end Go.Proofs.YtajojhfddedgbaaDoor
