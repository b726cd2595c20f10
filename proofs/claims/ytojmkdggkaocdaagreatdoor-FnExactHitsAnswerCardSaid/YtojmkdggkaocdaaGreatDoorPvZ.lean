/-
  CONTRACTS AND PLAIN FACTS, several texts in one; each says in its own words what it proves.
-/
import Derived.Test.YtojmkdggkaocdaaGreatDoorPvY
import Derived.Test.YtojmkdggkaocdaaGreatDoorPvM
import Derived.Stop.LaidErr
import Derived.Test.YtojmkdggkaocdaaGreatDoorPvA
import Derived.LoopTactic
import Derived.Outline
import Derived.RegionTactic
import Derived.Deep.RegionWith

/-
  FROM A ROW's LISTED VARIABLES to what the contracts ask of the world: the two errors of the library's number reader, wherever they stand on the list.
-/
namespace Go.Proofs.YtojmkdggkaocdaaGreatDoor.Laid
open Go
set_option linter.unusedVariables false
set_option maxRecDepth 1000000

theorem at_head {P : Program} {w : World} {n : String} {d : DataW Unit} : ∀ {l : List (String × DataW Unit)}, laidMet P l w → (n, d) ∈ l → ∃ r, laidMet P ((n, d) :: r) w
  | [], _, hm => by cases hm
  | x :: r, h, hm => by
    rcases List.mem_cons.1 hm with e | e
    · cases e; exact ⟨r, h⟩
    · exact at_head h.tail e
theorem errs {l : List (String × DataW Unit)} {W : World} (h : laidMet Tryz.prog l W) (h1 : ("strconv.ErrSyntax", Rows.laid_strconv_ErrSyntax) ∈ l) (h2 : ("strconv.ErrRange", Rows.laid_strconv_ErrRange) ∈ l) : Par.Errs W := by
  obtain ⟨r1, k1⟩ := at_head h h1
  obtain ⟨r2, k2⟩ := at_head h h2
  have row : ∀ u, Tryz.prog.typeName? 3 u = some "*errors.errorString" → u = 264 :=
    fun u hu => typeName_ptr_named (nm := "errors.errorString") (by kernel_rfl) (by kernel_rfl) (by decide) u hu
  obtain ⟨a1, s1, v1, _⟩ := laid_sentinel k1 (show Tryz.prog.globalNamed "strconv.ErrSyntax" = some 0 by kernel_rfl) (show (Tryz.prog.globals[0]?).map (·.type) = some 164 by kernel_rfl) Tryz.underlying164 row Tryz.underlying264 Tryz.underlying266 rfl rfl Tryz.underlying9 (by kernel_rfl) (by kernel_rfl)
  obtain ⟨a2, s2, v2, _⟩ := laid_sentinel k2 (show Tryz.prog.globalNamed "strconv.ErrRange" = some 1 by kernel_rfl) (show (Tryz.prog.globals[1]?).map (·.type) = some 164 by kernel_rfl) Tryz.underlying164 row Tryz.underlying264 Tryz.underlying266 rfl rfl Tryz.underlying9 (by kernel_rfl) (by kernel_rfl)
  exact ⟨⟨_, _, v1⟩, ⟨_, _, v2⟩⟩
end Go.Proofs.YtojmkdggkaocdaaGreatDoor.Laid

/-
  PLAIN FACTS on slices of Purge (written by rec.py): what a slice holds, how that is kept, and how a slice that the call itself has built is such a one.
-/
namespace Go.Proofs.YtojmkdggkaocdaaGreatDoor.Pur
open Go Go.RowKit
set_option linter.unusedVariables false
set_option maxRecDepth 1000000

theorem info_r : (Tryz.prog.info? 103).map (fun i => (i.zero, i.size, i.bytes)) = some (some (.agg #[.int .i64 0, .int .i64 0, .string ⟨#[]⟩]), 3, 32) := by kernel_rfl

abbrev T : Type := Int × Int × List UInt8
def nov : T := (0, 0, [])
def cs (f : T) : List Value := [.int .i64 (f.1), .int .i64 (f.2.1), .string ⟨(f.2.2).toArray⟩]
def fv (f : T) : Value := .agg #[.int .i64 (f.1), .int .i64 (f.2.1), .string ⟨(f.2.2).toArray⟩]
theorem cs_len (f : T) : (cs f).length = 3 := rfl
theorem cs_one (f : T) : ∀ u ∈ cs f, u.oneCell' = true := by
  intro u hu; simp [cs] at hu; rcases hu with rfl | rfl | rfl <;> rfl
def fcs (l : List T) : List Value := Rec.flat cs l
theorem fcs_len (l : List T) : (fcs l).length = l.length * 3 := Rec.flat_len cs_len l
theorem fcs_more (l : List T) (f : T) : fcs (l ++ [f]) = fcs l ++ [.int .i64 (f.1), .int .i64 (f.2.1), .string ⟨(f.2.2).toArray⟩] := Rec.flat_more l f
theorem fcs_one (l : List T) : ∀ u ∈ fcs l, u.oneCell' = true := Rec.flat_one cs_one l
theorem fcs_put {l : List T} {k : Nat} (f : T) (h : k < l.length) : (((fcs l).set (k * 3) (.int .i64 (f.1))).set (k * 3 + 1) (.int .i64 (f.2.1))).set (k * 3 + 2) (.string ⟨(f.2.2).toArray⟩) = fcs (l.set k f) := Rec.flat_put cs_len f h
def Ok (f : T) : Prop := (-9223372036854775808 ≤ f.1 ∧ f.1 ≤ 9223372036854775807) ∧ (-9223372036854775808 ≤ f.2.1 ∧ f.2.1 ≤ 9223372036854775807) ∧ f.2.2.length ≤ maxLen
/-- The cells from (b, off) on are these. -/
def At (w : World) (b off : Nat) (l : List T) : Prop := Rec.At 3 cs nov w b off l
/-- The slice v reads as l; its cells lie below block B. -/
def Holds (w : World) (B : Nat) (v : Value) (l : List T) : Prop := Rec.Holds 3 cs nov w B v l
abbrev Own (w : World) (B : Nat) (v : Value) (l : List T) : Prop := w.ownsRow B 103 3 v l.length (fcs l)
theorem holds_iff {w : World} {B : Nat} {v : Value} {l : List T} (h : Holds w B v l) : (l = [] ∧ ∃ a cap, v = .slice a 0 cap) ∨ (0 < l.length ∧ ∃ b off cap, v = .slice (some ⟨b, off, none⟩) l.length cap ∧ b < B ∧ l.length ≤ cap ∧ At w b off l) := h
theorem holds_nil (w : World) (B : Nat) (a : Option Addr) (cap : Nat) : Holds w B (.slice a 0 cap) [] := Or.inl ⟨rfl, _, _, rfl⟩
theorem at_cells {w : World} {b off : Nat} {l : List T} (h : At w b off l) {j : Nat} (hj : j < l.length) : w.cell? ⟨b, off + j * 3, none⟩ = some (.int .i64 ((l.getD j nov).1)) ∧ w.cell? ⟨b, off + j * 3 + 1, none⟩ = some (.int .i64 ((l.getD j nov).2.1)) ∧ w.cell? ⟨b, off + j * 3 + 2, none⟩ = some (.string ⟨((l.getD j nov).2.2).toArray⟩) := ⟨h j hj 0 _ rfl, h j hj 1 _ rfl, h j hj 2 _ rfl⟩
theorem at_lt {w : World} {b off : Nat} {l : List T} (h : At w b off l) (h0 : 0 < l.length) : b < w.heap.size := Rec.at_lt cs_len (by decide) h h0
theorem at_below {w w' : World} {B b off : Nat} {l : List T} (h : At w b off l) (hb : Below B w w') (hlt : b < B) : At w' b off l := Rec.at_below h hb hlt
theorem holds_more {w : World} {B B' : Nat} {v : Value} {l : List T} (h : Holds w B v l) (hB : B ≤ B') : Holds w B' v l := Rec.holds_more h hB
theorem holds_below {w w' : World} {B : Nat} {v : Value} {l : List T} (h : Holds w B v l) (hb : Below B w w') : Holds w' B v l := Rec.holds_below h hb
theorem holds_grown {w w' : World} {B : Nat} {v : Value} {l : List T} {row : Option Nat} (h : Holds w B v l) (hg : w.grownBy w' row) (hr : ∀ k, row = some k → B ≤ k) : Holds w' B v l := Rec.holds_grown h hg hr
theorem own_len {w : World} {B : Nat} {v : Value} {l : List T} {n : Nat} (h : w.ownsRow B 103 3 v n (fcs l)) : n = l.length := Rec.own_len cs_len (by decide) h
theorem own_cells {w : World} {B g cap : Nat} {l : List T} {n : Nat} (h : w.ownsRow B 103 3 (.slice (some ⟨g, 0, none⟩) n cap) n (fcs l)) {j : Nat} (hj : j < n) : w.cell? ⟨g, j * 3, none⟩ = some (.int .i64 ((l.getD j nov).1)) ∧ w.cell? ⟨g, j * 3 + 1, none⟩ = some (.int .i64 ((l.getD j nov).2.1)) ∧ w.cell? ⟨g, j * 3 + 2, none⟩ = some (.string ⟨((l.getD j nov).2.2).toArray⟩) :=
  ⟨Rec.own_cell (z := nov) (i := 0) cs_len (by decide) h hj rfl, Rec.own_cell (z := nov) (i := 1) cs_len (by decide) h hj rfl, Rec.own_cell (z := nov) (i := 2) cs_len (by decide) h hj rfl⟩
theorem own_holds {w : World} {B : Nat} {v : Value} {l : List T} (h : Own w B v l) : Holds w w.heap.size v l := Rec.own_holds cs_len (by decide) h
theorem own_mono {w : World} {B B' : Nat} {v : Value} {l : List T} (h : Own w B v l) (hB : B' ≤ B) : Own w B' v l := Rec.own_mono h hB
theorem row_below {w w' : World} {B n : Nat} {v : Value} {xs : List Value} (h : w.ownsRow B 103 3 v n xs) (hb : Below w.heap.size w w') : w'.ownsRow B 103 3 v n xs := Rec.row_below h hb
theorem row_grown {w w' : World} {B n : Nat} {v : Value} {xs : List Value} {row : Option Nat} (h : w.ownsRow B 103 3 v n xs) (hg : w.grownBy w' row) (hr : ∀ g, v.ownBlock = some g → some g ≠ row) : w'.ownsRow B 103 3 v n xs := Rec.row_grown h hg hr
theorem push_own {B : Nat} {a w w1 : World} {v v' : Value} {l : List T} {f : T} {o : Obj} (hown : Own w B v l) (hb : Below a.heap.size a w) (hB : a.heap.size ≤ B)
    (h' : w1.ownsRow B 103 3 v' (l.length + 1) (fcs l ++ [.int .i64 (f.1), .int .i64 (f.2.1), .string ⟨(f.2.2).toArray⟩])) (hg : (w.alloc o).grownBy w1 v.ownBlock) : Own w1 B v' (l ++ [f]) ∧ Below a.heap.size a w1 := Rec.push_own hown hb hB h' hg
theorem own_lit_nil (w : World) : Own (w.alloc (.cells #[] 103)) w.heap.size (.slice (some ⟨w.heap.size, 0, none⟩) 0 0) [] := Rec.own_lit_nil w _
theorem holds_drew {w : World} {B : Nat} {v : Value} {l : List T} (h : Holds w B v l) : Holds w.drew B v l := h
theorem row_drew {w : World} {B n : Nat} {v : Value} {xs : List Value} (h : w.ownsRow B 103 3 v n xs) : w.drew.ownsRow B 103 3 v n xs := h
def part (l : List T) (k : Nat) : List T := Rec.part nov l k
theorem part_len (l : List T) {k : Nat} (h : k ≤ l.length) : (part l k).length = l.length := Rec.part_len l h
theorem part_all (l : List T) : part l l.length = l := Rec.part_all l
theorem part_more {l : List T} {k : Nat} (h : k < l.length) : (part l k).set k (l.getD k nov) = part l (k + 1) := Rec.part_more h
theorem made_part (l : List T) : (madeCells (Value.agg #[.int .i64 0, .int .i64 0, .string ⟨#[]⟩]).cells (l.length * 3)).toList = fcs (part l 0) := Rec.made_part cs_len (by decide) l _ rfl
def wt (f : T) : Nat := f.2.2.length
def total (l : List T) : Nat := Rec.total wt l
theorem len_le_total (l : List T) : l.length ≤ total l := Rec.len_le_total wt l
theorem mem_total {l : List T} {f : T} (h : f ∈ l) : wt f ≤ total l := Rec.mem_total wt h
end Go.Proofs.YtojmkdggkaocdaaGreatDoor.Pur

/-
  CONTRACTS of the laws' helpers for slices of Purge (written by rec.py): an argument of that type, opened; its size (szPurgeS). Nothing that was there before is changed.
-/
namespace Go.Proofs.YtojmkdggkaocdaaGreatDoor.Pur
open Go Go.RowKit
set_option linter.unusedVariables false
set_option maxRecDepth 1000000

theorem wf_range {n : Int} (h : (Lit.int .i64 n).wf = true) : -9223372036854775808 ≤ n ∧ n ≤ 9223372036854775807 := by
  simp [Lit.wf, IntKind.min, IntKind.max, IntKind.signed, IntKind.bits] at h; omega

set_option maxRecDepth 1000000 in
/-- An argument of type []laws.Purge, opened. -/
theorem open_arg {H : Type} {enc : TypeId × Value → H} {W : World} {base : Nat} {v : Value} {d : DataW H} {p : List MemPlace}
    (hok : Value.okWide Tryz.prog W .any base 67 v) (h : DataW.Trod enc Tryz.prog W 0 (fun _ => true) true 67 v d p) :
    ∃ l : List T, Holds W W.heap.size v l ∧ l.length ≤ maxLen ∧ (∀ f ∈ l, Ok f) := by
  obtain ⟨a0, len, cap, rfl⟩ := WideShapes.okWide_slice Tryz.underlying67 hok
  obtain ⟨fuel, hf⟩ := h
  have celi : Tryz.prog.cellsOf 3 = 1 := by kernel_rfl
  have cels : Tryz.prog.cellsOf 9 = 1 := by kernel_rfl
  have ce : Tryz.prog.cellsOf 100 = 3 := by kernel_rfl
  rcases Deep.open_slice Tryz.underlying67 hf with ⟨hcs, hx⟩ | ⟨a, len', cap', m, n, D, Pl, hcs, _, hl, hm, hmm, hx, hall⟩
  · simp [Value.cells] at hcs
    obtain ⟨rfl, rfl, rfl⟩ := hcs
    exact ⟨[], Or.inl ⟨rfl, _, _, rfl⟩, Nat.zero_le _, fun f hf => by cases hf⟩
  · simp [Value.cells] at hcs
    obtain ⟨rfl, rfl, rfl⟩ := hcs
    simp only [if_true] at hmm
    subst hmm
    have each : ∀ i, i < m → ∃ f : T, (∀ k u, (cs f)[k]? = some u → W.cell? (a.add (i * 3 + k)) = some u) ∧ Ok f := fun i hi => by
      obtain ⟨cs', h1, h2⟩ := hall i hi
      rw [ce] at h1
      obtain ⟨_, hlen, hcell⟩ := World.cells?_some h1
      obtain ⟨xs, k, hk, hxy, _, hxl, hf⟩ := DataW.trod_struct Tryz.underlying100 h2
      match xs, hxl, cs', hlen with
      | [y0, y1, y2], _, [v0, v1, v2], _ =>
      have g0 := hf 0 _ rfl
      have g1 := hf 1 _ rfl
      have g2 := hf 2 _ rfl
      simp [celi, cels] at g0 g1 g2
      have e0 := hcell 0 (by omega)
      have e1 := hcell 1 (by omega)
      have e2 := hcell 2 (by omega)
      rw [Deep.add_add] at e0 e1 e2
      obtain ⟨s0, z0, _, o0⟩ := DataW.trod_int Tryz.underlying3 g0
      obtain rfl : v0 = _ := by simpa using z0
      obtain ⟨s1, z1, _, o1⟩ := DataW.trod_int Tryz.underlying3 g1
      obtain rfl : v1 = _ := by simpa using z1
      obtain ⟨s2, z2, _, o2⟩ := DataW.trod_string Tryz.underlying9 g2
      obtain rfl : v2 = _ := by simpa using z2
      refine ⟨(s0, s1, s2.data.toList), fun k u hu => ?_, ⟨(wf_range o0), (wf_range o1), (by show s2.data.toList.length ≤ maxLen; rw [Array.length_toList]; exact o2)⟩⟩
      match k, hu with
      | 0, hu => exact e0.trans hu
      | 1, hu => exact e1.trans hu
      | 2, hu => exact e2.trans hu
      | k + 3, hu => simp [cs] at hu
    obtain ⟨G, hG⟩ := Deep.choose_lt (α := T) each
    have hln : ((List.range len).map G).length = len := by simp
    have hget : ∀ j, j < len → ((List.range len).map G).getD j nov = G j := fun j hj => by simp [List.getD, hj]
    refine ⟨(List.range len).map G, ?_, by rw [hln]; omega, ?_⟩
    · by_cases hl0 : len = 0
      · subst hl0; exact Or.inl ⟨by simp, _, _, rfl⟩
      · obtain ⟨b, off, spot⟩ := a
        have hspot : spot = none := by simpa [Addr.add] using World.cell?_spot ((hG 0 (by omega)).1 0 _ rfl)
        subst hspot
        have hc : At W b off ((List.range len).map G) := fun j hj i u hu => by
          rw [hln] at hj
          rw [hget j hj] at hu
          rw [Nat.add_assoc, ← WideShapes.add_plain]
          exact (hG j (by omega)).1 i u hu
        exact Or.inr ⟨by omega, b, off, _, by rw [hln], at_lt hc (by omega), by omega, hc⟩
    · intro f hf
      obtain ⟨i, hi, rfl⟩ := List.mem_map.1 hf
      have hi' := List.mem_range.1 hi
      exact (hG i (by omega)).2

/-- What szPurgeS answers: not below 0 just where the size is at most what is left. -/
def Sized (l : List T) (left : Int) (w : World) (e : Ending) (w' : World) : Prop := ∃ z : Int, e = .returned (.int .i64 z) ∧ (z < 0 ∨ (0 ≤ z ∧ z + total l = left)) ∧ Below w.heap.size w w'

set_option maxHeartbeats 1000000 in
theorem size_one (f : T) (left : Int) (w : World) (hok : Ok f) (h0 : 0 ≤ left) (h3 : left ≤ 1048576) :
    Calls Tryz.prog 67 #[fv f, .int .i64 left] w fun e w' => ∃ z : Int, e = .returned (.int .i64 z) ∧ (z < 0 ∨ (0 ≤ z ∧ z + ((f.2.2.length : Int)) = left)) ∧ Below w.heap.size w w' := by
  obtain ⟨x, y, u⟩ := f
  unfold Ok maxLen at hok
  dsimp only at hok
  unfold fv
  dsimp only
  have hsu : (⟨u.toArray⟩ : ByteArray).size = u.length := by simp [ByteArray.size]
  have HB := Lib.hid ((Below.refl w.heap.size w).alloc (Nat.le_refl _) (.cells #[.int .i64 (x), .int .i64 (y), .string ⟨(u).toArray⟩] 100))
  by_cases hn0 : left - (u.length : Int) < 0
  · go_enter Tryz.func67, Tryz.ntmps67
    go_wp2
    go_ret
    exact ⟨_, rfl, Or.inl (by omega), HB.out⟩
  · go_enter Tryz.func67, Tryz.ntmps67
    go_wp2
    go_ret
    exact ⟨_, rfl, Or.inr ⟨by omega, by omega⟩, HB.out⟩
theorem size_two (x : Int) (y : Int) (u : List UInt8) (left : Int) (w : World) (hok : Ok (x, y, u)) (h0 : 0 ≤ left) (h3 : left ≤ 1048576) :
    Calls Tryz.prog 67 #[.agg #[.int .i64 (x), .int .i64 (y), .string ⟨(u).toArray⟩], .int .i64 left] w fun e w' => ∃ z : Int, e = .returned (.int .i64 z) ∧ (z < 0 ∨ (0 ≤ z ∧ z + ((u.length : Nat) : Int) = left)) ∧ Below w.heap.size w w' := by
  refine (size_one (x, y, u) left w hok h0 h3).mono ?_
  rintro e w' ⟨z, rfl, hz, hb⟩
  dsimp only at hz
  exact ⟨z, rfl, by omega, hb⟩

theorem size_nil (a : Option Addr) (cap : Nat) (left : Int) (w : World) (h0 : 0 ≤ left) (h3 : left ≤ 1048576) :
    Calls Tryz.prog 29 #[.slice a 0 cap, .int .i64 left] w (Sized [] left w) := by
  go_enter Tryz.func29, Tryz.ntmps29
  go_wp2
  go_loop [1, 5] (fun l i => i = .int .i64 0 ∧ l = .int .i64 left) (fun _ i => 0)
  case atStart => exact ⟨rfl, by simp⟩
  case round =>
    obtain ⟨rfl, rfl⟩ := hrel
    go_wp2
    go_ret
    exact ⟨_, rfl, Or.inr ⟨by omega, by show left + ((0 : Nat) : Int) = left; simp⟩, Below.refl _ _⟩

def pre (l : List T) (k : Nat) : Nat := Rec.pre wt l k
set_option maxHeartbeats 1000000 in
theorem size_some (b off cap : Nat) (l : List T) (left : Int) (w : World) (hc : At w b off l) (h0 : 0 < l.length) (hl : l.length ≤ maxLen) (hx : ∀ f ∈ l, Ok f) (hl0 : 0 ≤ left) (hl3 : left ≤ 1048576) :
    Calls Tryz.prog 29 #[.slice (some ⟨b, off, none⟩) l.length cap, .int .i64 left] w (Sized l left w) := by
  have hbl := at_lt hc h0
  have HC := Lib.hid hc
  have HX := Lib.hid hx
  unfold maxLen at hl
  clear hc hx
  by_cases hn : left - (l.length : Int) < 0
  · go_enter Tryz.func29, Tryz.ntmps29
    go_wp2
    go_ret
    exact ⟨_, rfl, Or.inl (by omega), Below.refl _ _⟩
  · go_enter Tryz.func29, Tryz.ntmps29
    go_wp2
    go_loopw [1, 5] (fun q i wr => ∃ k : Nat, k ≤ l.length ∧ i = .int .i64 (k : Int) ∧ 0 ≤ left - (l.length : Int) - (pre l k : Int) ∧ q = .int .i64 (left - (l.length : Int) - (pre l k : Int)) ∧ Below w.heap.size w wr) (fun _ i _ => l.length - (intOf i).toNat)
    case atStart => exact ⟨0, Nat.zero_le _, rfl, by unfold pre; rw [Rec.pre_zero]; omega, by unfold pre; rw [Rec.pre_zero]; simp, Below.refl _ _⟩
    case round =>
      obtain ⟨k, hk, rfl, hp, rfl, hb⟩ := hrel
      by_cases hlt : k < l.length
      · obtain ⟨c0, c1, c2⟩ := at_cells (at_below HC.out hb hbl) hlt
        have HX1 := Lib.hid (HX.out _ (Rec.getD_mem (z := nov) hlt))
        have HP : Hid (pre l (k + 1) = pre l k + wt (l.getD k nov)) := Lib.hid (Rec.pre_more (z := nov) wt hlt)
        generalize hy : l.getD k nov = f at c0 c1 c2 HP HX1
        clear hy
        generalize hr : left - (l.length : Int) - (pre l k : Int) = r at hp ⊢
        have hr' := Lib.hid hr
        clear hr
        have HR : Hid (r ≤ 1048576) := Lib.hid (by have := hr'.out; omega)
        have HB := Lib.hid hb
        clear hb
        obtain ⟨x, y, u⟩ := f
        dsimp only at c0 c1 c2
        go_wp2_with (go_at_call 67; refine (size_one (x, y, u) r wr HX1.out hp HR.out).mono ?_; rintro e w' ⟨z, rfl, hz, hb1⟩; have HB1 := Lib.hid (Base.then_below HB.out (hb1.mono (Nat.le_refl _))); clear hb1)
        · go_ret
          exact ⟨_, rfl, Or.inl (by decide), HB1.out⟩
        · have hr2 := hr'.out
          have hz' : z + ((u.length : Int)) = r := by omega
          have hw : wt (x, y, u) = u.length := rfl
          have HW := Lib.hid hw
          clear hw
          go_roundw
          case rel => exact ⟨k + 1, by omega, by go_num, by rw [HP.out, HW.out]; omega, by rw [HP.out, HW.out]; congr 1; omega, HB1.out⟩
          case measure => simp [intOf]; omega
      · have HT : Hid (total l = pre l k + l.length) := Lib.hid (Rec.pre_all wt (l := l) (k := k) (by omega))
        go_wp2
        go_ret
        exact ⟨_, rfl, Or.inr ⟨hp, by rw [HT.out]; omega⟩, hb⟩

theorem size_any (v : Value) (B : Nat) (l : List T) (left : Int) (w : World) (h : Holds w B v l) (hl : l.length ≤ maxLen) (hx : ∀ f ∈ l, Ok f) (h0 : 0 ≤ left) (h3 : left ≤ 1048576) :
    Calls Tryz.prog 29 #[v, .int .i64 left] w (Sized l left w) := by
  rcases h with ⟨rfl, a, cap, rfl⟩ | ⟨hp, b, off, cap, rfl, _, _, hc⟩
  · exact size_nil a cap left w h0 h3
  · exact size_some b off cap l left w hc hp hl hx h0 h3

set_option maxRecDepth 1000000 in
/-- An argument of type laws.Purge, opened. -/
theorem open_val {H : Type} {enc : TypeId × Value → H} {W : World} {base : Nat} {v : Value} {d : DataW H} {p : List MemPlace}
    (hok : Value.okWide Tryz.prog W .any base 100 v) (h : DataW.Trod enc Tryz.prog W 0 (fun _ => true) true 100 v d p) : ∃ f : T, v = fv f ∧ Ok f := by
  obtain ⟨cs', rfl, hsz⟩ := WideShapes.okWide_struct Tryz.underlying100 hok
  obtain ⟨fuel, hf⟩ := h
  have celi : Tryz.prog.cellsOf 3 = 1 := by kernel_rfl
  have cels : Tryz.prog.cellsOf 9 = 1 := by kernel_rfl
  have ce : Tryz.prog.cellsOf 100 = 3 := by kernel_rfl
  obtain ⟨l⟩ := cs'
  obtain ⟨xs, k, hk, hxy, _, hxl, hg⟩ := DataW.trod_struct Tryz.underlying100 hf
  match l, hsz.trans ce, xs, hxl with
  | [v0, v1, v2], _, [y0, y1, y2], _ =>
    have g0 := hg 0 _ rfl
    have g1 := hg 1 _ rfl
    have g2 := hg 2 _ rfl
    simp [Value.cells, celi, cels] at g0 g1 g2
    obtain ⟨s0, z0, _, o0⟩ := DataW.trod_int Tryz.underlying3 g0
    obtain rfl : v0 = _ := by simpa using z0
    obtain ⟨s1, z1, _, o1⟩ := DataW.trod_int Tryz.underlying3 g1
    obtain rfl : v1 = _ := by simpa using z1
    obtain ⟨s2, z2, _, o2⟩ := DataW.trod_string Tryz.underlying9 g2
    obtain rfl : v2 = _ := by simpa using z2
    exact ⟨(s0, s1, s2.data.toList), by simp [fv], ⟨(wf_range o0), (wf_range o1), (by show s2.data.toList.length ≤ maxLen; rw [Array.length_toList]; exact o2)⟩⟩
end Go.Proofs.YtojmkdggkaocdaaGreatDoor.Pur

/-
  CONTRACTS of the laws' helpers for slices of Purge (written by rec.py): a copy (toPurge, toPurgeS) and the comparison of two that hold the same (eqPurge, eqPurgeS). Nothing that was there before is changed.
-/
namespace Go.Proofs.YtojmkdggkaocdaaGreatDoor.Pur
open Go Go.RowKit
set_option linter.unusedVariables false
set_option maxRecDepth 1000000

theorem copy_one (f : T) (w : World) : Calls Tryz.prog 71 #[fv f] w fun e w' => e = .returned (fv f) ∧ Below w.heap.size w w' := by
  obtain ⟨x, y, u⟩ := f
  unfold fv
  dsimp only
  obtain ⟨s2, hs2⟩ : ∃ z : ByteArray, z = ⟨u.toArray⟩ := ⟨_, rfl⟩
  rw [← hs2]
  clear hs2
  go_enter Tryz.func71, Tryz.ntmps71
  go_wp2
  refine bodyPost_ret (v := .agg #[.int .i64 (x), .int .i64 (y), .string s2]) (by simp [results, Tryz.results71, go_sem]) rfl ⟨rfl, ?_⟩
  exact (((Below.refl _ _).alloc (Nat.le_refl _) _).alloc (by simp) _).alloc (by simp; omega) _
theorem copy_two (x : Int) (y : Int) (u : List UInt8) (w : World) : Calls Tryz.prog 71 #[.agg #[.int .i64 (x), .int .i64 (y), .string ⟨(u).toArray⟩]] w fun e w' => e = .returned (.agg #[.int .i64 (x), .int .i64 (y), .string ⟨(u).toArray⟩]) ∧ Below w.heap.size w w' := copy_one (x, y, u) w

def Copied (l : List T) (w : World) (e : Ending) (w' : World) : Prop := ∃ v, e = .returned v ∧ Own w' w.heap.size v l ∧ Below w.heap.size w w'
/-- .. and the slice is not nil. -/
def Copied' (l : List T) (w : World) (e : Ending) (w' : World) : Prop := ∃ v, e = .returned v ∧ Own w' w.heap.size v l ∧ Below w.heap.size w w' ∧ ∃ g cap, v = .slice (some ⟨g, 0, none⟩) l.length cap

theorem copy_nil (a : Option Addr) (cap : Nat) (w : World) :
    Calls Tryz.prog 31 #[.slice a 0 cap] w (Copied' [] w) := by
  obtain ⟨i0, hi, hz0, hz1, hz2⟩ := info_parts info_r
  go_enter Tryz.func31, Tryz.ntmps31
  go_wp2_with (refine wpList_make_full _ (by rfl) (.tmp 6) (.tmp 6) 70 (by rfl) w.heap.size 103 i0 (.agg #[.int .i64 0, .int .i64 0, .string ⟨#[]⟩]) 3 Tryz.underlying70 hi hz0 hz1 .i64 .i64 _ _ 0 (by rfl) (by rfl) rfl rfl (by rw [hz2]; omega) (by decide) (Nat.le_refl _) ?_; intro w1 hown hgrow)
  have e := made_part []
  rw [show ([] : List T).length * 3 = 0 * 3 from rfl, show fcs (part [] 0) = fcs [] from rfl] at e
  rw [e] at hown
  clear e
  go_loop [4] (fun i => i = .int .i64 0) (fun i => 0)
  case atStart => rfl
  case round =>
    obtain rfl := hrel
    go_wp2
    go_ret
    exact ⟨_, rfl, hown, (Below.refl _ _).grown hgrow (Nat.le_refl _) (fun k e => by cases e), ⟨_, _, rfl⟩⟩

set_option maxHeartbeats 1000000 in
theorem copy_some (b off cap : Nat) (l : List T) (w : World) (hc : At w b off l) (h0 : 0 < l.length) (hl : l.length ≤ 1048576) :
    Calls Tryz.prog 31 #[.slice (some ⟨b, off, none⟩) l.length cap] w (Copied' l w) := by
  obtain ⟨i0, hi, hz0, hz1, hz2⟩ := info_parts info_r
  have hbl := at_lt hc h0
  have HC := Lib.hid hc
  clear hc
  go_enter Tryz.func31, Tryz.ntmps31
  go_wp2_with (at_make; refine wpList_make_full _ rfl (.tmp 6) (.tmp 6) 70 rfl w.heap.size 103 i0 (.agg #[.int .i64 0, .int .i64 0, .string ⟨#[]⟩]) 3 Tryz.underlying70 hi hz0 hz1 .i64 .i64 _ _ l.length rfl rfl rfl rfl (by rw [hz2]; omega) (by unfold maxLen; omega) (Nat.le_refl _) ?_; intro w1 hown hgrow)
  rw [made_part] at hown
  have hb1 : Below w.heap.size w w1 := (Below.refl _ _).grown hgrow (Nat.le_refl _) (fun k e => by cases e)
  clear hgrow hi hz0 hz1 hz2
  have HO := Lib.hid hown
  clear hown
  go_loopw [4] (fun i wr => ∃ k : Nat, k ≤ l.length ∧ i = .int .i64 k ∧
      wr.ownsRow w.heap.size 103 3 (.slice (some ⟨w.heap.size, 0, none⟩) l.length l.length) l.length (fcs (part l k)) ∧ Below w.heap.size w wr) (fun i _ => l.length - (intOf i).toNat)
  case atStart => exact ⟨0, Nat.zero_le _, rfl, HO.out, hb1⟩
  case round =>
    obtain ⟨k, hk, rfl, hown, hb⟩ := hrel
    clear HO hb1
    by_cases hlt : k < l.length
    · obtain ⟨c0, c1, c2⟩ := at_cells (at_below HC.out hb hbl) hlt
      have HP := Lib.hid (part_more hlt)
      have HQ : Hid (k < (part l k).length) := Lib.hid (by rw [part_len l hk]; exact hlt)
      have HO := Lib.hid hown
      have HB := Lib.hid hb
      clear hown hb
      generalize hy : l.getD k nov = f at c0 c1 c2 HP
      clear hy
      obtain ⟨x, y, u⟩ := f
      dsimp only at c0 c1 c2
      go_wp2_with (go_at_call 71; refine (copy_two x y u wr).mono ?_; rintro e w' ⟨rfl, hb1⟩; have HB1 := Lib.hid (Base.then_below HB.out (hb1.mono (Nat.le_refl _))); have hr1 := row_below HO.out hb1; have HL1 := hr1.1; obtain ⟨d0, d1, d2⟩ := own_cells hr1 hlt; have f0 := hr1.frozenAt (k * 3); have f1 := hr1.frozenAt (k * 3 + 1); have f2 := hr1.frozenAt (k * 3 + 2); have HR1 := Lib.hid hr1; clear hr1 hb1)
      have s0 := HR1.out.stored (k * 3) (.int .i64 (x))
      have s1 := s0.1.stored (k * 3 + 1) (.int .i64 (y))
      have s2 := s1.1.stored (k * 3 + 2) (.string ⟨(u).toArray⟩)
      have e' := fcs_put (l := part l k) (x, y, u) HQ.out
      dsimp only at e'
      rw [e', HP.out] at s2
      have hz0 := HB1.out.size
      have hz1 := s0.2.size
      have hz2 := s1.2.size
      have hbb := (((HB1.out.grown s0.2 (by omega) (fun j e => by cases e; exact Nat.le_refl _)).grown s1.2 (by omega) (fun j e => by cases e; exact Nat.le_refl _)).grown s2.2 (by omega) (fun j e => by cases e; exact Nat.le_refl _))
      go_roundw
      case rel => exact ⟨k + 1, by omega, by go_num, s2.1, hbb⟩
      case measure => simp [intOf]; omega
    · obtain rfl : k = l.length := by omega
      rw [part_all] at hown
      go_wp2
      go_ret
      exact ⟨_, rfl, hown, hb, ⟨_, _, rfl⟩⟩

theorem copy' (v : Value) (B : Nat) (l : List T) (w : World) (h : Holds w B v l) (hl : l.length ≤ 1048576) :
    Calls Tryz.prog 31 #[v] w (Copied' l w) := by
  rcases h with ⟨rfl, a, cap, rfl⟩ | ⟨h0, b, off, cap, rfl, _, _, hc⟩
  · exact copy_nil a cap w
  · exact copy_some b off cap l w hc h0 hl
theorem copy (v : Value) (B : Nat) (l : List T) (w : World) (h : Holds w B v l) (hl : l.length ≤ 1048576) :
    Calls Tryz.prog 31 #[v] w (Copied l w) :=
  (copy' v B l w h hl).mono fun e w' ⟨v', h1, h2, h3, _⟩ => ⟨v', h1, h2, h3⟩

theorem eq_one (s0 : Int) (s1 : Int) (s2 : ByteArray) (w : World) : Calls Tryz.prog 77 #[.agg #[.int .i64 (s0), .int .i64 (s1), .string s2], .agg #[.int .i64 (s0), .int .i64 (s1), .string s2]] w (Rec.Yes w) := by
  go_enter Tryz.func77, Tryz.ntmps77
  go_wp2
  go_ret
  exact ⟨rfl, ((Below.refl _ _).alloc (Nat.le_refl _) _).alloc (by simp) _⟩

theorem eq_nil (a a' : Option Addr) (cap cap' : Nat) (w : World) :
    Calls Tryz.prog 33 #[.slice a 0 cap, .slice a' 0 cap'] w (Rec.Yes w) := by
  go_enter Tryz.func33, Tryz.ntmps33
  go_wp2
  go_loop [5] (fun i => i = .int .i64 0) (fun i => 0)
  case atStart => rfl
  case round =>
    obtain rfl := hrel
    go_wp2
    go_ret
    exact ⟨rfl, Below.refl _ _⟩

set_option maxHeartbeats 1000000 in
theorem eq_some (b off cap b' off' cap' : Nat) (l : List T) (w : World) (hc : At w b off l) (hc' : At w b' off' l) (h0 : 0 < l.length) (hl : l.length ≤ 4194304) :
    Calls Tryz.prog 33 #[.slice (some ⟨b, off, none⟩) l.length cap, .slice (some ⟨b', off', none⟩) l.length cap'] w (Rec.Yes w) := by
  have hbl := at_lt hc h0
  have hbl' := at_lt hc' h0
  have HC := Lib.hid hc
  have HC' := Lib.hid hc'
  clear hc hc'
  go_enter Tryz.func33, Tryz.ntmps33
  go_wp2
  go_loopw [5] (fun i wr => ∃ k : Nat, k ≤ l.length ∧ i = .int .i64 k ∧ Below w.heap.size w wr) (fun i _ => l.length - (intOf i).toNat)
  case atStart => exact ⟨0, Nat.zero_le _, rfl, Below.refl _ _⟩
  case round =>
    obtain ⟨k, hk, rfl, hb⟩ := hrel
    by_cases hlt : k < l.length
    · have cc := at_cells (at_below HC.out (Rec.below_drew hb) hbl) hlt
      have cc' := at_cells (at_below HC'.out (Rec.below_drew hb) hbl') hlt
      obtain ⟨s0, hs0⟩ : ∃ z : Int, z = (l.getD k nov).1 := ⟨_, rfl⟩
      obtain ⟨s1, hs1⟩ : ∃ z : Int, z = (l.getD k nov).2.1 := ⟨_, rfl⟩
      obtain ⟨s2, hs2⟩ : ∃ z : ByteArray, z = ⟨((l.getD k nov).2.2).toArray⟩ := ⟨_, rfl⟩
      rw [← hs0, ← hs1, ← hs2] at cc cc'
      clear hs0 hs1 hs2
      obtain ⟨c0, c1, c2⟩ := cc
      obtain ⟨e0, e1, e2⟩ := cc'
      have HB := Lib.hid (Rec.below_drew hb)
      clear hb
      go_wp2
      go_region_with (go_at_call 77; refine (eq_one s0 s1 s2 wr.drew).mono ?_; rintro e wt ⟨rfl, hb1⟩; have HB1 := Lib.hid (Base.then_below HB.out hb1); clear hb1)
      all_goals go_wp2
      all_goals go_roundw
      all_goals first
        | exact ⟨k + 1, by omega, by go_num, HB1.out⟩
        | (simp [intOf]; omega)
    · go_wp2
      go_ret
      exact ⟨rfl, hb⟩

theorem eq_wide (v v' : Value) (B B' : Nat) (l : List T) (w : World) (h : Holds w B v l) (h' : Holds w B' v' l) (hl : l.length ≤ 4194304) :
    Calls Tryz.prog 33 #[v, v'] w (Rec.Yes w) := by
  rcases h with ⟨rfl, a, cap, rfl⟩ | ⟨h0, b, off, cap, rfl, _, _, hc⟩
  · rcases h' with ⟨_, a', cap', rfl⟩ | ⟨h0, _⟩
    · exact eq_nil a a' cap cap' w
    · exact absurd h0 (by simp)
  · rcases h' with ⟨rfl, _⟩ | ⟨_, b', off', cap', rfl, _, _, hc'⟩
    · exact absurd h0 (by simp)
    · exact eq_some b off cap b' off' cap' l w hc hc' h0 hl
theorem eq_same (v v' : Value) (B B' : Nat) (l : List T) (w : World) (h : Holds w B v l) (h' : Holds w B' v' l) (hl : l.length ≤ 1048576) :
    Calls Tryz.prog 33 #[v, v'] w (Rec.Yes w) := eq_wide v v' B B' l w h h' (Nat.le_trans hl (by decide))
end Go.Proofs.YtojmkdggkaocdaaGreatDoor.Pur
