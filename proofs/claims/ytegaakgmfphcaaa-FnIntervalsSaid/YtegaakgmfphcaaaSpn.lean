/-
  PLAIN FACTS on slices of Span (written by rec.py): what a slice holds, how that is kept, and how a slice that the call itself has built is such a one.
-/
import Derived.Test.YtegaakgmfphcaaaRec
namespace Go.Proofs.Ytegaakgmfphcaaa.Spn
open Go Go.RowKit
set_option linter.unusedVariables false
set_option maxRecDepth 1000000

theorem info_r : (Try.prog.info? 26).map (fun i => (i.zero, i.size, i.bytes)) = some (some (.agg #[.int .i64 0, .int .i64 0]), 2, 16) := by kernel_rfl

abbrev T : Type := Int × Int
def nov : T := (0, 0)
def cs (f : T) : List Value := [.int .i64 (f.1), .int .i64 (f.2)]
def fv (f : T) : Value := .agg #[.int .i64 (f.1), .int .i64 (f.2)]
theorem cs_len (f : T) : (cs f).length = 2 := rfl
theorem cs_one (f : T) : ∀ u ∈ cs f, u.oneCell' = true := by
  intro u hu; simp [cs] at hu; rcases hu with rfl | rfl <;> rfl
def fcs (l : List T) : List Value := Rec.flat cs l
theorem fcs_len (l : List T) : (fcs l).length = l.length * 2 := Rec.flat_len cs_len l
theorem fcs_more (l : List T) (f : T) : fcs (l ++ [f]) = fcs l ++ [.int .i64 (f.1), .int .i64 (f.2)] := Rec.flat_more l f
theorem fcs_one (l : List T) : ∀ u ∈ fcs l, u.oneCell' = true := Rec.flat_one cs_one l
theorem fcs_put {l : List T} {k : Nat} (f : T) (h : k < l.length) : ((fcs l).set (k * 2) (.int .i64 (f.1))).set (k * 2 + 1) (.int .i64 (f.2)) = fcs (l.set k f) := Rec.flat_put cs_len f h
def Ok (f : T) : Prop := (-9223372036854775808 ≤ f.1 ∧ f.1 ≤ 9223372036854775807) ∧ (-9223372036854775808 ≤ f.2 ∧ f.2 ≤ 9223372036854775807)
/-- The cells from (b, off) on are these. -/
def At (w : World) (b off : Nat) (l : List T) : Prop := Rec.At 2 cs nov w b off l
/-- The slice v reads as l; its cells lie below block B. -/
def Holds (w : World) (B : Nat) (v : Value) (l : List T) : Prop := Rec.Holds 2 cs nov w B v l
abbrev Own (w : World) (B : Nat) (v : Value) (l : List T) : Prop := w.ownsRow B 26 2 v l.length (fcs l)
theorem holds_iff {w : World} {B : Nat} {v : Value} {l : List T} (h : Holds w B v l) : (l = [] ∧ ∃ a cap, v = .slice a 0 cap) ∨ (0 < l.length ∧ ∃ b off cap, v = .slice (some ⟨b, off, none⟩) l.length cap ∧ b < B ∧ l.length ≤ cap ∧ At w b off l) := h
theorem holds_nil (w : World) (B : Nat) (a : Option Addr) (cap : Nat) : Holds w B (.slice a 0 cap) [] := Or.inl ⟨rfl, _, _, rfl⟩
theorem at_cells {w : World} {b off : Nat} {l : List T} (h : At w b off l) {j : Nat} (hj : j < l.length) : w.cell? ⟨b, off + j * 2, none⟩ = some (.int .i64 ((l.getD j nov).1)) ∧ w.cell? ⟨b, off + j * 2 + 1, none⟩ = some (.int .i64 ((l.getD j nov).2)) := ⟨h j hj 0 _ rfl, h j hj 1 _ rfl⟩
theorem at_lt {w : World} {b off : Nat} {l : List T} (h : At w b off l) (h0 : 0 < l.length) : b < w.heap.size := Rec.at_lt cs_len (by decide) h h0
theorem at_below {w w' : World} {B b off : Nat} {l : List T} (h : At w b off l) (hb : Below B w w') (hlt : b < B) : At w' b off l := Rec.at_below h hb hlt
theorem holds_more {w : World} {B B' : Nat} {v : Value} {l : List T} (h : Holds w B v l) (hB : B ≤ B') : Holds w B' v l := Rec.holds_more h hB
theorem holds_below {w w' : World} {B : Nat} {v : Value} {l : List T} (h : Holds w B v l) (hb : Below B w w') : Holds w' B v l := Rec.holds_below h hb
theorem holds_grown {w w' : World} {B : Nat} {v : Value} {l : List T} {row : Option Nat} (h : Holds w B v l) (hg : w.grownBy w' row) (hr : ∀ k, row = some k → B ≤ k) : Holds w' B v l := Rec.holds_grown h hg hr
theorem own_len {w : World} {B : Nat} {v : Value} {l : List T} {n : Nat} (h : w.ownsRow B 26 2 v n (fcs l)) : n = l.length := Rec.own_len cs_len (by decide) h
theorem own_cells {w : World} {B g cap : Nat} {l : List T} {n : Nat} (h : w.ownsRow B 26 2 (.slice (some ⟨g, 0, none⟩) n cap) n (fcs l)) {j : Nat} (hj : j < n) : w.cell? ⟨g, j * 2, none⟩ = some (.int .i64 ((l.getD j nov).1)) ∧ w.cell? ⟨g, j * 2 + 1, none⟩ = some (.int .i64 ((l.getD j nov).2)) :=
  ⟨Rec.own_cell (z := nov) (i := 0) cs_len (by decide) h hj rfl, Rec.own_cell (z := nov) (i := 1) cs_len (by decide) h hj rfl⟩
theorem own_holds {w : World} {B : Nat} {v : Value} {l : List T} (h : Own w B v l) : Holds w w.heap.size v l := Rec.own_holds cs_len (by decide) h
theorem own_mono {w : World} {B B' : Nat} {v : Value} {l : List T} (h : Own w B v l) (hB : B' ≤ B) : Own w B' v l := Rec.own_mono h hB
theorem row_below {w w' : World} {B n : Nat} {v : Value} {xs : List Value} (h : w.ownsRow B 26 2 v n xs) (hb : Below w.heap.size w w') : w'.ownsRow B 26 2 v n xs := Rec.row_below h hb
theorem row_grown {w w' : World} {B n : Nat} {v : Value} {xs : List Value} {row : Option Nat} (h : w.ownsRow B 26 2 v n xs) (hg : w.grownBy w' row) (hr : ∀ g, v.ownBlock = some g → some g ≠ row) : w'.ownsRow B 26 2 v n xs := Rec.row_grown h hg hr
theorem push_own {B : Nat} {a w w1 : World} {v v' : Value} {l : List T} {f : T} {o : Obj} (hown : Own w B v l) (hb : Below a.heap.size a w) (hB : a.heap.size ≤ B)
    (h' : w1.ownsRow B 26 2 v' (l.length + 1) (fcs l ++ [.int .i64 (f.1), .int .i64 (f.2)])) (hg : (w.alloc o).grownBy w1 v.ownBlock) : Own w1 B v' (l ++ [f]) ∧ Below a.heap.size a w1 := Rec.push_own hown hb hB h' hg
theorem own_lit_nil (w : World) : Own (w.alloc (.cells #[] 26)) w.heap.size (.slice (some ⟨w.heap.size, 0, none⟩) 0 0) [] := Rec.own_lit_nil w _
theorem holds_drew {w : World} {B : Nat} {v : Value} {l : List T} (h : Holds w B v l) : Holds w.drew B v l := h
theorem row_drew {w : World} {B n : Nat} {v : Value} {xs : List Value} (h : w.ownsRow B 26 2 v n xs) : w.drew.ownsRow B 26 2 v n xs := h
def part (l : List T) (k : Nat) : List T := Rec.part nov l k
theorem part_len (l : List T) {k : Nat} (h : k ≤ l.length) : (part l k).length = l.length := Rec.part_len l h
theorem part_all (l : List T) : part l l.length = l := Rec.part_all l
theorem part_more {l : List T} {k : Nat} (h : k < l.length) : (part l k).set k (l.getD k nov) = part l (k + 1) := Rec.part_more h
theorem made_part (l : List T) : (madeCells (Value.agg #[.int .i64 0, .int .i64 0]).cells (l.length * 2)).toList = fcs (part l 0) := Rec.made_part cs_len (by decide) l _ rfl
def wt (f : T) : Nat := 0
def total (l : List T) : Nat := Rec.total wt l
theorem len_le_total (l : List T) : l.length ≤ total l := Rec.len_le_total wt l
theorem mem_total {l : List T} {f : T} (h : f ∈ l) : wt f ≤ total l := Rec.mem_total wt h
end Go.Proofs.Ytegaakgmfphcaaa.Spn
