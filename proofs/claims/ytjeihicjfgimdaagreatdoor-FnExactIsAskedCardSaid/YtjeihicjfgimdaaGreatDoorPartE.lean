/-
  CONTRACTS AND PLAIN FACTS, several texts in one; each says in its own words what it proves.
-/
import Derived.Test.YtjeihicjfgimdaaGreatDoorPartD
import Derived.Test.YtjeihicjfgimdaaGreatDoorPartC
import Derived.LoopTactic
import Derived.Outline
set_option linter.unusedSimpArgs false
set_option linter.unusedVariables false

/-
  PLAIN FACTS: a block of cells that the call has laid, read behind what only adds, behind a write into it, and behind a write elsewhere.
-/
namespace Go.Proofs.YtjeihicjfgimdaaGreatDoor.Kept
open Go Go.RowKit
set_option linter.unusedVariables false
set_option maxRecDepth 1000000

/-- The block g holds these values, and may be written. -/
structure Box (W : World) (g : Nat) (xs : List Value) : Prop where
  cell : ∀ j u, xs[j]? = some u → W.cell? ⟨g, j, none⟩ = some u
  frz : ∀ j, W.frozen? ⟨g, j, none⟩ = false
  lt : g < W.heap.size
theorem Box.new {w : World} {T : TypeId} {a : Array Value} : Box (w.alloc (.cells a T)) w.heap.size a.toList :=
  ⟨fun j u h => by rw [World.cell?_alloc_new]; simpa using h, fun j => by simp [go_sem], by simp⟩
theorem Box.below {W W' : World} {g : Nat} {xs : List Value} (h : Box W g xs) (hb : Below W.heap.size W W') : Box W' g xs :=
  ⟨fun j u e => (hb.cell (p := ⟨g, j, none⟩) h.lt).trans (h.cell j u e), fun j => (hb.frozen (p := ⟨g, j, none⟩) h.lt).trans (h.frz j), Nat.lt_of_lt_of_le h.lt hb.size⟩
theorem Box.alloc {W : World} {g : Nat} {xs : List Value} (h : Box W g xs) (o : Obj) : Box (W.alloc o) g xs := h.below ((Below.refl _ _).alloc (Nat.le_refl _) _)
theorem Box.same {W : World} {g k : Nat} {xs : List Value} (h : Box W g xs) (hk : k < xs.length) (v : Value) : Box (W.setCell ⟨g, k, none⟩ v) g (xs.set k v) :=
  ⟨fun j u e => by
    by_cases hj : j = k
    · subst hj
      obtain ⟨u0, hu0⟩ : ∃ u0, xs[j]? = some u0 := ⟨xs[j], by simp [hk]⟩
      rw [World.cell?_setCell_same _ _ _ (h.cell j u0 hu0)]
      simpa [hk] using e
    · rw [World.cell?_setCell_other _ _ _ _ (fun e => hj (by cases e; rfl))]
      exact h.cell j u (by rw [List.getElem?_set_ne (fun e => hj e.symm)] at e; exact e), fun j => by rw [World.frozen?_setCell]; exact h.frz j, by rw [World.size_setCell]; exact h.lt⟩
theorem Box.other {W : World} {g g' k : Nat} {xs : List Value} (h : Box W g xs) (hne : g' ≠ g) (v : Value) : Box (W.setCell ⟨g', k, none⟩ v) g xs :=
  ⟨fun j u e => by rw [World.cell?_setCell_other _ _ _ _ (fun e => hne (by cases e; rfl))]; exact h.cell j u e, fun j => by rw [World.frozen?_setCell]; exact h.frz j, by rw [World.size_setCell]; exact h.lt⟩
end Go.Proofs.YtjeihicjfgimdaaGreatDoor.Kept

/-
  PLAIN FACTS on slices of Purge (written by rec.py): what a slice holds, how that is kept, and how a slice that the call itself has built is such a one.
-/
namespace Go.Proofs.YtjeihicjfgimdaaGreatDoor.Pur
open Go Go.RowKit
set_option linter.unusedVariables false
set_option maxRecDepth 1000000

theorem info_r : (Tryz.prog.info? 97).map (fun i => (i.zero, i.size, i.bytes)) = some (some (.agg #[.int .i64 0, .int .i64 0, .string ⟨#[]⟩]), 3, 32) := by kernel_rfl

abbrev T : Type := Int × Int × List UInt8
def nov : T := (0, 0, [])
def cs (f : T) : List Value := [.int .i64 (f.1), .int .i64 (f.2.1), .string ⟨(f.2.2).toArray⟩]
def fv (f : T) : Value := .agg #[.int .i64 (f.1), .int .i64 (f.2.1), .string ⟨(f.2.2).toArray⟩]
theorem cs_len (f : T) : (cs f).length = 3 := rfl
theorem cs_one (f : T) : ∀ u ∈ cs f, u.oneCell' = true := by
  intro u hu; simp [cs] at hu; rcases hu with rfl | rfl | rfl <;> rfl
def fcs (l : List T) : List Value := Rec.flat cs l
theorem fcs_len (l : List T) : (fcs l).length = l.length * 3 := Rec.flat_len cs_len l
theorem fcs_more (l : List T) (f : T) : fcs (l ++ [f]) = fcs l ++ [.int .i64 (f.1), .int .i64 (f.2.1), .string ⟨(f.2.2).toArray⟩] := Rec.flat_more l f
theorem fcs_one (l : List T) : ∀ u ∈ fcs l, u.oneCell' = true := Rec.flat_one cs_one l
theorem fcs_put {l : List T} {k : Nat} (f : T) (h : k < l.length) : (((fcs l).set (k * 3) (.int .i64 (f.1))).set (k * 3 + 1) (.int .i64 (f.2.1))).set (k * 3 + 2) (.string ⟨(f.2.2).toArray⟩) = fcs (l.set k f) := Rec.flat_put cs_len f h
def Ok (f : T) : Prop := (-9223372036854775808 ≤ f.1 ∧ f.1 ≤ 9223372036854775807) ∧ (-9223372036854775808 ≤ f.2.1 ∧ f.2.1 ≤ 9223372036854775807) ∧ f.2.2.length ≤ maxLen
/-- The cells from (b, off) on are these. -/
def At (w : World) (b off : Nat) (l : List T) : Prop := Rec.At 3 cs nov w b off l
/-- The slice v reads as l; its cells lie below block B. -/
def Holds (w : World) (B : Nat) (v : Value) (l : List T) : Prop := Rec.Holds 3 cs nov w B v l
abbrev Own (w : World) (B : Nat) (v : Value) (l : List T) : Prop := w.ownsRow B 97 3 v l.length (fcs l)
theorem holds_iff {w : World} {B : Nat} {v : Value} {l : List T} (h : Holds w B v l) : (l = [] ∧ ∃ a cap, v = .slice a 0 cap) ∨ (0 < l.length ∧ ∃ b off cap, v = .slice (some ⟨b, off, none⟩) l.length cap ∧ b < B ∧ l.length ≤ cap ∧ At w b off l) := h
theorem holds_nil (w : World) (B : Nat) (a : Option Addr) (cap : Nat) : Holds w B (.slice a 0 cap) [] := Or.inl ⟨rfl, _, _, rfl⟩
theorem at_cells {w : World} {b off : Nat} {l : List T} (h : At w b off l) {j : Nat} (hj : j < l.length) : w.cell? ⟨b, off + j * 3, none⟩ = some (.int .i64 ((l.getD j nov).1)) ∧ w.cell? ⟨b, off + j * 3 + 1, none⟩ = some (.int .i64 ((l.getD j nov).2.1)) ∧ w.cell? ⟨b, off + j * 3 + 2, none⟩ = some (.string ⟨((l.getD j nov).2.2).toArray⟩) := ⟨h j hj 0 _ rfl, h j hj 1 _ rfl, h j hj 2 _ rfl⟩
theorem at_lt {w : World} {b off : Nat} {l : List T} (h : At w b off l) (h0 : 0 < l.length) : b < w.heap.size := Rec.at_lt cs_len (by decide) h h0
theorem at_below {w w' : World} {B b off : Nat} {l : List T} (h : At w b off l) (hb : Below B w w') (hlt : b < B) : At w' b off l := Rec.at_below h hb hlt
theorem holds_more {w : World} {B B' : Nat} {v : Value} {l : List T} (h : Holds w B v l) (hB : B ≤ B') : Holds w B' v l := Rec.holds_more h hB
theorem holds_below {w w' : World} {B : Nat} {v : Value} {l : List T} (h : Holds w B v l) (hb : Below B w w') : Holds w' B v l := Rec.holds_below h hb
theorem holds_grown {w w' : World} {B : Nat} {v : Value} {l : List T} {row : Option Nat} (h : Holds w B v l) (hg : w.grownBy w' row) (hr : ∀ k, row = some k → B ≤ k) : Holds w' B v l := Rec.holds_grown h hg hr
theorem own_len {w : World} {B : Nat} {v : Value} {l : List T} {n : Nat} (h : w.ownsRow B 97 3 v n (fcs l)) : n = l.length := Rec.own_len cs_len (by decide) h
theorem own_cells {w : World} {B g cap : Nat} {l : List T} {n : Nat} (h : w.ownsRow B 97 3 (.slice (some ⟨g, 0, none⟩) n cap) n (fcs l)) {j : Nat} (hj : j < n) : w.cell? ⟨g, j * 3, none⟩ = some (.int .i64 ((l.getD j nov).1)) ∧ w.cell? ⟨g, j * 3 + 1, none⟩ = some (.int .i64 ((l.getD j nov).2.1)) ∧ w.cell? ⟨g, j * 3 + 2, none⟩ = some (.string ⟨((l.getD j nov).2.2).toArray⟩) :=
  ⟨Rec.own_cell (z := nov) (i := 0) cs_len (by decide) h hj rfl, Rec.own_cell (z := nov) (i := 1) cs_len (by decide) h hj rfl, Rec.own_cell (z := nov) (i := 2) cs_len (by decide) h hj rfl⟩
theorem own_holds {w : World} {B : Nat} {v : Value} {l : List T} (h : Own w B v l) : Holds w w.heap.size v l := Rec.own_holds cs_len (by decide) h
theorem own_mono {w : World} {B B' : Nat} {v : Value} {l : List T} (h : Own w B v l) (hB : B' ≤ B) : Own w B' v l := Rec.own_mono h hB
theorem row_below {w w' : World} {B n : Nat} {v : Value} {xs : List Value} (h : w.ownsRow B 97 3 v n xs) (hb : Below w.heap.size w w') : w'.ownsRow B 97 3 v n xs := Rec.row_below h hb
theorem row_grown {w w' : World} {B n : Nat} {v : Value} {xs : List Value} {row : Option Nat} (h : w.ownsRow B 97 3 v n xs) (hg : w.grownBy w' row) (hr : ∀ g, v.ownBlock = some g → some g ≠ row) : w'.ownsRow B 97 3 v n xs := Rec.row_grown h hg hr
theorem push_own {B : Nat} {a w w1 : World} {v v' : Value} {l : List T} {f : T} {o : Obj} (hown : Own w B v l) (hb : Below a.heap.size a w) (hB : a.heap.size ≤ B)
    (h' : w1.ownsRow B 97 3 v' (l.length + 1) (fcs l ++ [.int .i64 (f.1), .int .i64 (f.2.1), .string ⟨(f.2.2).toArray⟩])) (hg : (w.alloc o).grownBy w1 v.ownBlock) : Own w1 B v' (l ++ [f]) ∧ Below a.heap.size a w1 := Rec.push_own hown hb hB h' hg
theorem own_lit_nil (w : World) : Own (w.alloc (.cells #[] 97)) w.heap.size (.slice (some ⟨w.heap.size, 0, none⟩) 0 0) [] := Rec.own_lit_nil w _
theorem holds_drew {w : World} {B : Nat} {v : Value} {l : List T} (h : Holds w B v l) : Holds w.drew B v l := h
theorem row_drew {w : World} {B n : Nat} {v : Value} {xs : List Value} (h : w.ownsRow B 97 3 v n xs) : w.drew.ownsRow B 97 3 v n xs := h
def part (l : List T) (k : Nat) : List T := Rec.part nov l k
theorem part_len (l : List T) {k : Nat} (h : k ≤ l.length) : (part l k).length = l.length := Rec.part_len l h
theorem part_all (l : List T) : part l l.length = l := Rec.part_all l
theorem part_more {l : List T} {k : Nat} (h : k < l.length) : (part l k).set k (l.getD k nov) = part l (k + 1) := Rec.part_more h
theorem made_part (l : List T) : (madeCells (Value.agg #[.int .i64 0, .int .i64 0, .string ⟨#[]⟩]).cells (l.length * 3)).toList = fcs (part l 0) := Rec.made_part cs_len (by decide) l _ rfl
def wt (f : T) : Nat := f.2.2.length
def total (l : List T) : Nat := Rec.total wt l
theorem len_le_total (l : List T) : l.length ≤ total l := Rec.len_le_total wt l
theorem mem_total {l : List T} {f : T} (h : f ∈ l) : wt f ≤ total l := Rec.mem_total wt h
end Go.Proofs.YtjeihicjfgimdaaGreatDoor.Pur

/-
  CONTRACTS of the laws' helpers for slices of Purge (written by rec.py): an argument of that type, opened; its size (szPurgeS). Nothing that was there before is changed.
-/
namespace Go.Proofs.YtjeihicjfgimdaaGreatDoor.Pur
open Go Go.RowKit
set_option linter.unusedVariables false
set_option maxRecDepth 1000000

theorem wf_range {n : Int} (h : (Lit.int .i64 n).wf = true) : -9223372036854775808 ≤ n ∧ n ≤ 9223372036854775807 := by
  simp [Lit.wf, IntKind.min, IntKind.max, IntKind.signed, IntKind.bits] at h; omega

set_option maxRecDepth 1000000 in
/-- An argument of type []laws.Purge, opened. -/
theorem open_arg {H : Type} {enc : TypeId × Value → H} {W : World} {base : Nat} {v : Value} {d : DataW H} {p : List MemPlace}
    (hok : Value.okWide Tryz.prog W .any base 27 v) (h : DataW.Trod enc Tryz.prog W 0 (fun _ => true) true 27 v d p) :
    ∃ l : List T, Holds W W.heap.size v l ∧ l.length ≤ maxLen ∧ (∀ f ∈ l, Ok f) := by
  obtain ⟨a0, len, cap, rfl⟩ := WideShapes.okWide_slice Tryz.underlying27 hok
  obtain ⟨fuel, hf⟩ := h
  have celi : Tryz.prog.cellsOf 3 = 1 := by kernel_rfl
  have cels : Tryz.prog.cellsOf 9 = 1 := by kernel_rfl
  have ce : Tryz.prog.cellsOf 88 = 3 := by kernel_rfl
  rcases Deep.open_slice Tryz.underlying27 hf with ⟨hcs, hx⟩ | ⟨a, len', cap', m, n, D, Pl, hcs, _, hl, hm, hmm, hx, hall⟩
  · simp [Value.cells] at hcs
    obtain ⟨rfl, rfl, rfl⟩ := hcs
    exact ⟨[], Or.inl ⟨rfl, _, _, rfl⟩, Nat.zero_le _, fun f hf => by cases hf⟩
  · simp [Value.cells] at hcs
    obtain ⟨rfl, rfl, rfl⟩ := hcs
    simp only [if_true] at hmm
    subst hmm
    have each : ∀ i, i < m → ∃ f : T, (∀ k u, (cs f)[k]? = some u → W.cell? (a.add (i * 3 + k)) = some u) ∧ Ok f := fun i hi => by
      obtain ⟨cs', h1, h2⟩ := hall i hi
      rw [ce] at h1
      obtain ⟨_, hlen, hcell⟩ := World.cells?_some h1
      obtain ⟨xs, k, hk, hxy, _, hxl, hf⟩ := DataW.trod_struct Tryz.underlying88 h2
      match xs, hxl, cs', hlen with
      | [y0, y1, y2], _, [v0, v1, v2], _ =>
      have g0 := hf 0 _ rfl
      have g1 := hf 1 _ rfl
      have g2 := hf 2 _ rfl
      simp [celi, cels] at g0 g1 g2
      have e0 := hcell 0 (by omega)
      have e1 := hcell 1 (by omega)
      have e2 := hcell 2 (by omega)
      rw [Deep.add_add] at e0 e1 e2
      obtain ⟨s0, z0, _, o0⟩ := DataW.trod_int Tryz.underlying3 g0
      obtain rfl : v0 = _ := by simpa using z0
      obtain ⟨s1, z1, _, o1⟩ := DataW.trod_int Tryz.underlying3 g1
      obtain rfl : v1 = _ := by simpa using z1
      obtain ⟨s2, z2, _, o2⟩ := DataW.trod_string Tryz.underlying9 g2
      obtain rfl : v2 = _ := by simpa using z2
      refine ⟨(s0, s1, s2.data.toList), fun k u hu => ?_, ⟨(wf_range o0), (wf_range o1), (by show s2.data.toList.length ≤ maxLen; rw [Array.length_toList]; exact o2)⟩⟩
      match k, hu with
      | 0, hu => exact e0.trans hu
      | 1, hu => exact e1.trans hu
      | 2, hu => exact e2.trans hu
      | k + 3, hu => simp [cs] at hu
    obtain ⟨G, hG⟩ := Deep.choose_lt (α := T) each
    have hln : ((List.range len).map G).length = len := by simp
    have hget : ∀ j, j < len → ((List.range len).map G).getD j nov = G j := fun j hj => by simp [List.getD, hj]
    refine ⟨(List.range len).map G, ?_, by rw [hln]; omega, ?_⟩
    · by_cases hl0 : len = 0
      · subst hl0; exact Or.inl ⟨by simp, _, _, rfl⟩
      · obtain ⟨b, off, spot⟩ := a
        have hspot : spot = none := by simpa [Addr.add] using World.cell?_spot ((hG 0 (by omega)).1 0 _ rfl)
        subst hspot
        have hc : At W b off ((List.range len).map G) := fun j hj i u hu => by
          rw [hln] at hj
          rw [hget j hj] at hu
          rw [Nat.add_assoc, ← WideShapes.add_plain]
          exact (hG j (by omega)).1 i u hu
        exact Or.inr ⟨by omega, b, off, _, by rw [hln], at_lt hc (by omega), by omega, hc⟩
    · intro f hf
      obtain ⟨i, hi, rfl⟩ := List.mem_map.1 hf
      have hi' := List.mem_range.1 hi
      exact (hG i (by omega)).2

/-- What szPurgeS answers: not below 0 just where the size is at most what is left. -/
def Sized (l : List T) (left : Int) (w : World) (e : Ending) (w' : World) : Prop := ∃ z : Int, e = .returned (.int .i64 z) ∧ (z < 0 ∨ (0 ≤ z ∧ z + total l = left)) ∧ Below w.heap.size w w'

set_option maxHeartbeats 1000000 in
theorem size_one (f : T) (left : Int) (w : World) (hok : Ok f) (h0 : 0 ≤ left) (h3 : left ≤ 1048576) :
    Calls Tryz.prog 59 #[fv f, .int .i64 left] w fun e w' => ∃ z : Int, e = .returned (.int .i64 z) ∧ (z < 0 ∨ (0 ≤ z ∧ z + ((f.2.2.length : Int)) = left)) ∧ Below w.heap.size w w' := by
  obtain ⟨x, y, u⟩ := f
  unfold Ok maxLen at hok
  dsimp only at hok
  unfold fv
  dsimp only
  have hsu : (⟨u.toArray⟩ : ByteArray).size = u.length := by simp [ByteArray.size]
  have HB := Lib.hid ((Below.refl w.heap.size w).alloc (Nat.le_refl _) (.cells #[.int .i64 (x), .int .i64 (y), .string ⟨(u).toArray⟩] 88))
  by_cases hn0 : left - (u.length : Int) < 0
  · go_enter Tryz.func59, Tryz.ntmps59
    go_wp2
    go_ret
    exact ⟨_, rfl, Or.inl (by omega), HB.out⟩
  · go_enter Tryz.func59, Tryz.ntmps59
    go_wp2
    go_ret
    exact ⟨_, rfl, Or.inr ⟨by omega, by omega⟩, HB.out⟩
theorem size_two (x : Int) (y : Int) (u : List UInt8) (left : Int) (w : World) (hok : Ok (x, y, u)) (h0 : 0 ≤ left) (h3 : left ≤ 1048576) :
    Calls Tryz.prog 59 #[.agg #[.int .i64 (x), .int .i64 (y), .string ⟨(u).toArray⟩], .int .i64 left] w fun e w' => ∃ z : Int, e = .returned (.int .i64 z) ∧ (z < 0 ∨ (0 ≤ z ∧ z + ((u.length : Nat) : Int) = left)) ∧ Below w.heap.size w w' := by
  refine (size_one (x, y, u) left w hok h0 h3).mono ?_
  rintro e w' ⟨z, rfl, hz, hb⟩
  dsimp only at hz
  exact ⟨z, rfl, by omega, hb⟩

theorem size_nil (a : Option Addr) (cap : Nat) (left : Int) (w : World) (h0 : 0 ≤ left) (h3 : left ≤ 1048576) :
    Calls Tryz.prog 26 #[.slice a 0 cap, .int .i64 left] w (Sized [] left w) := by
  go_enter Tryz.func26, Tryz.ntmps26
  go_wp2
  go_loop [1, 5] (fun l i => i = .int .i64 0 ∧ l = .int .i64 left) (fun _ i => 0)
  case atStart => exact ⟨rfl, by simp⟩
  case round =>
    obtain ⟨rfl, rfl⟩ := hrel
    go_wp2
    go_ret
    exact ⟨_, rfl, Or.inr ⟨by omega, by show left + ((0 : Nat) : Int) = left; simp⟩, Below.refl _ _⟩

def pre (l : List T) (k : Nat) : Nat := Rec.pre wt l k
set_option maxHeartbeats 1000000 in
theorem size_some (b off cap : Nat) (l : List T) (left : Int) (w : World) (hc : At w b off l) (h0 : 0 < l.length) (hl : l.length ≤ maxLen) (hx : ∀ f ∈ l, Ok f) (hl0 : 0 ≤ left) (hl3 : left ≤ 1048576) :
    Calls Tryz.prog 26 #[.slice (some ⟨b, off, none⟩) l.length cap, .int .i64 left] w (Sized l left w) := by
  have hbl := at_lt hc h0
  have HC := Lib.hid hc
  have HX := Lib.hid hx
  unfold maxLen at hl
  clear hc hx
  by_cases hn : left - (l.length : Int) < 0
  · go_enter Tryz.func26, Tryz.ntmps26
    go_wp2
    go_ret
    exact ⟨_, rfl, Or.inl (by omega), Below.refl _ _⟩
  · go_enter Tryz.func26, Tryz.ntmps26
    go_wp2
    go_loopw [1, 5] (fun q i wr => ∃ k : Nat, k ≤ l.length ∧ i = .int .i64 (k : Int) ∧ 0 ≤ left - (l.length : Int) - (pre l k : Int) ∧ q = .int .i64 (left - (l.length : Int) - (pre l k : Int)) ∧ Below w.heap.size w wr) (fun _ i _ => l.length - (intOf i).toNat)
    case atStart => exact ⟨0, Nat.zero_le _, rfl, by unfold pre; rw [Rec.pre_zero]; omega, by unfold pre; rw [Rec.pre_zero]; simp, Below.refl _ _⟩
    case round =>
      obtain ⟨k, hk, rfl, hp, rfl, hb⟩ := hrel
      by_cases hlt : k < l.length
      · obtain ⟨c0, c1, c2⟩ := at_cells (at_below HC.out hb hbl) hlt
        have HX1 := Lib.hid (HX.out _ (Rec.getD_mem (z := nov) hlt))
        have HP : Hid (pre l (k + 1) = pre l k + wt (l.getD k nov)) := Lib.hid (Rec.pre_more (z := nov) wt hlt)
        generalize hy : l.getD k nov = f at c0 c1 c2 HP HX1
        clear hy
        generalize hr : left - (l.length : Int) - (pre l k : Int) = r at hp ⊢
        have hr' := Lib.hid hr
        clear hr
        have HR : Hid (r ≤ 1048576) := Lib.hid (by have := hr'.out; omega)
        have HB := Lib.hid hb
        clear hb
        obtain ⟨x, y, u⟩ := f
        dsimp only at c0 c1 c2
        go_wp2_with (go_at_call 59; refine (size_one (x, y, u) r wr HX1.out hp HR.out).mono ?_; rintro e w' ⟨z, rfl, hz, hb1⟩; have HB1 := Lib.hid (Base.then_below HB.out (hb1.mono (Nat.le_refl _))); clear hb1)
        · go_ret
          exact ⟨_, rfl, Or.inl (by decide), HB1.out⟩
        · have hr2 := hr'.out
          have hz' : z + ((u.length : Int)) = r := by omega
          have hw : wt (x, y, u) = u.length := rfl
          have HW := Lib.hid hw
          clear hw
          go_roundw
          case rel => exact ⟨k + 1, by omega, by go_num, by rw [HP.out, HW.out]; omega, by rw [HP.out, HW.out]; congr 1; omega, HB1.out⟩
          case measure => simp [intOf]; omega
      · have HT : Hid (total l = pre l k + l.length) := Lib.hid (Rec.pre_all wt (l := l) (k := k) (by omega))
        go_wp2
        go_ret
        exact ⟨_, rfl, Or.inr ⟨hp, by rw [HT.out]; omega⟩, hb⟩

theorem size_any (v : Value) (B : Nat) (l : List T) (left : Int) (w : World) (h : Holds w B v l) (hl : l.length ≤ maxLen) (hx : ∀ f ∈ l, Ok f) (h0 : 0 ≤ left) (h3 : left ≤ 1048576) :
    Calls Tryz.prog 26 #[v, .int .i64 left] w (Sized l left w) := by
  rcases h with ⟨rfl, a, cap, rfl⟩ | ⟨hp, b, off, cap, rfl, _, _, hc⟩
  · exact size_nil a cap left w h0 h3
  · exact size_some b off cap l left w hc hp hl hx h0 h3

set_option maxRecDepth 1000000 in
/-- An argument of type laws.Purge, opened. -/
theorem open_val {H : Type} {enc : TypeId × Value → H} {W : World} {base : Nat} {v : Value} {d : DataW H} {p : List MemPlace}
    (hok : Value.okWide Tryz.prog W .any base 88 v) (h : DataW.Trod enc Tryz.prog W 0 (fun _ => true) true 88 v d p) : ∃ f : T, v = fv f ∧ Ok f := by
  obtain ⟨cs', rfl, hsz⟩ := WideShapes.okWide_struct Tryz.underlying88 hok
  obtain ⟨fuel, hf⟩ := h
  have celi : Tryz.prog.cellsOf 3 = 1 := by kernel_rfl
  have cels : Tryz.prog.cellsOf 9 = 1 := by kernel_rfl
  have ce : Tryz.prog.cellsOf 88 = 3 := by kernel_rfl
  obtain ⟨l⟩ := cs'
  obtain ⟨xs, k, hk, hxy, _, hxl, hg⟩ := DataW.trod_struct Tryz.underlying88 hf
  match l, hsz.trans ce, xs, hxl with
  | [v0, v1, v2], _, [y0, y1, y2], _ =>
    have g0 := hg 0 _ rfl
    have g1 := hg 1 _ rfl
    have g2 := hg 2 _ rfl
    simp [Value.cells, celi, cels] at g0 g1 g2
    obtain ⟨s0, z0, _, o0⟩ := DataW.trod_int Tryz.underlying3 g0
    obtain rfl : v0 = _ := by simpa using z0
    obtain ⟨s1, z1, _, o1⟩ := DataW.trod_int Tryz.underlying3 g1
    obtain rfl : v1 = _ := by simpa using z1
    obtain ⟨s2, z2, _, o2⟩ := DataW.trod_string Tryz.underlying9 g2
    obtain rfl : v2 = _ := by simpa using z2
    exact ⟨(s0, s1, s2.data.toList), by simp [fv], ⟨(wf_range o0), (wf_range o1), (by show s2.data.toList.length ≤ maxLen; rw [Array.length_toList]; exact o2)⟩⟩
end Go.Proofs.YtjeihicjfgimdaaGreatDoor.Pur
