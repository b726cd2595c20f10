/-
  CONTRACTS AND PLAIN FACTS, several texts in one; each says in its own words what it proves.
-/
import Derived.Test.YtojmkdggkaocdaaGreatDoorPqA
import Derived.Test.YtojmkdggkaocdaaGreatDoorPqB
import Derived.LoopTactic
import Derived.Outline

/-
  CONTRACTS of the laws' helpers for a Response: an argument of that type, opened; its size (szResponse), a copy (toResponse), the comparison of two that hold the same (eqResponse). Nothing that was there before is changed.
-/
namespace Go.Proofs.YtojmkdggkaocdaaGreatDoor.Msg
open Go Go.RowKit
set_option linter.unusedVariables false
set_option maxRecDepth 1000000

abbrev F := Flds.Fld
def FOk (l : List F) : Prop := l.length ≤ maxLen ∧ ∀ f ∈ l, f.1.length ≤ maxLen ∧ f.2.length ≤ maxLen
def Ok_rsp (c : Int) (l : List F) (b : List UInt8) : Prop := (-9223372036854775808 ≤ c ∧ c ≤ 9223372036854775807) ∧ FOk l ∧ b.length ≤ maxLen
theorem wf_range {n : Int} (h : (Lit.int .i64 n).wf = true) : -9223372036854775808 ≤ n ∧ n ≤ 9223372036854775807 := by
  simp [Lit.wf, IntKind.min, IntKind.max, IntKind.signed, IntKind.bits] at h; omega
theorem open_text {H : Type} {enc : TypeId × Value → H} {W : World} {fuel : Nat} {v : Value} {x : DataW H × List MemPlace} (h : DataW.trod enc Tryz.prog W 0 (fun _ => true) true fuel 9 [v] = some x) : ∃ n : List UInt8, v = .string ⟨n.toArray⟩ ∧ n.length ≤ maxLen := by
  obtain ⟨s, rfl, hs⟩ := Flds.trod_text h
  exact ⟨s.data.toList, rfl, by rw [Array.length_toList]; exact hs⟩
theorem cell3_one {W : World} {a b c : Value} {T : TypeId} : (W.alloc (.cells #[a, b, c] T)).cell? ⟨W.heap.size, 0, none⟩ = some a ∧ (W.alloc (.cells #[a, b, c] T)).cell? ⟨W.heap.size, 1, none⟩ = some b ∧ (W.alloc (.cells #[a, b, c] T)).cell? ⟨W.heap.size, 2, none⟩ = some c :=
  ⟨by rw [World.cell?_alloc_new]; rfl, by rw [World.cell?_alloc_new]; rfl, by rw [World.cell?_alloc_new]; rfl⟩

/-- Blocks of the call's own, kept by what follows. -/
theorem kept33 {w w1 : World} {T T' : TypeId} {a b c a' b' c' : Value} (hb : Below ((w.alloc (.cells #[a, b, c] T)).alloc (.cells #[a', b', c'] T')).heap.size ((w.alloc (.cells #[a, b, c] T)).alloc (.cells #[a', b', c'] T')) w1) :
    (w1.cell? ⟨w.heap.size, 0, none⟩ = some a ∧ w1.cell? ⟨w.heap.size, 1, none⟩ = some b ∧ w1.cell? ⟨w.heap.size, 2, none⟩ = some c) ∧ (w1.cell? ⟨w.heap.size + 1, 0, none⟩ = some a' ∧ w1.cell? ⟨w.heap.size + 1, 1, none⟩ = some b' ∧ w1.cell? ⟨w.heap.size + 1, 2, none⟩ = some c') ∧ (∀ j, w1.frozen? ⟨w.heap.size, j, none⟩ = false) ∧ (∀ j, w1.frozen? ⟨w.heap.size + 1, j, none⟩ = false) ∧ Below w.heap.size w w1 := by
  have h1 : Below (w.alloc (.cells #[a, b, c] T)).heap.size (w.alloc (.cells #[a, b, c] T)) w1 := ((Below.refl _ _).alloc (Nat.le_refl _) _).trans (hb.mono (by simp))
  refine ⟨⟨?_, ?_, ?_⟩, ⟨?_, ?_, ?_⟩, fun j => ?_, fun j => ?_, ((Below.refl _ _).alloc (Nat.le_refl _) _).trans (h1.mono (by simp))⟩
  · rw [h1.cell (p := ⟨w.heap.size, 0, none⟩) (by simp), World.cell?_alloc_new]; rfl
  · rw [h1.cell (p := ⟨w.heap.size, 1, none⟩) (by simp), World.cell?_alloc_new]; rfl
  · rw [h1.cell (p := ⟨w.heap.size, 2, none⟩) (by simp), World.cell?_alloc_new]; rfl
  · rw [hb.cell (p := ⟨w.heap.size + 1, 0, none⟩) (by simp), World.cell?_alloc_at _ _ _ _ (by simp)]; rfl
  · rw [hb.cell (p := ⟨w.heap.size + 1, 1, none⟩) (by simp), World.cell?_alloc_at _ _ _ _ (by simp)]; rfl
  · rw [hb.cell (p := ⟨w.heap.size + 1, 2, none⟩) (by simp), World.cell?_alloc_at _ _ _ _ (by simp)]; rfl
  · rw [h1.frozen (p := ⟨w.heap.size, j, none⟩) (by simp)]; simp [go_sem]
  · rw [hb.frozen (p := ⟨w.heap.size + 1, j, none⟩) (by simp)]; simp [go_sem]
theorem kept333 {w w1 : World} {T T' T2 : TypeId} {a b c a' b' c' a2 b2 c2 : Value} (hb : Below (((w.alloc (.cells #[a, b, c] T)).alloc (.cells #[a', b', c'] T')).alloc (.cells #[a2, b2, c2] T2)).heap.size (((w.alloc (.cells #[a, b, c] T)).alloc (.cells #[a', b', c'] T')).alloc (.cells #[a2, b2, c2] T2)) w1) :
    (w1.cell? ⟨w.heap.size, 0, none⟩ = some a ∧ w1.cell? ⟨w.heap.size, 1, none⟩ = some b ∧ w1.cell? ⟨w.heap.size, 2, none⟩ = some c) ∧ (w1.cell? ⟨w.heap.size + 1, 0, none⟩ = some a' ∧ w1.cell? ⟨w.heap.size + 1, 1, none⟩ = some b' ∧ w1.cell? ⟨w.heap.size + 1, 2, none⟩ = some c') ∧ (w1.cell? ⟨w.heap.size + 1 + 1, 0, none⟩ = some a2 ∧ w1.cell? ⟨w.heap.size + 1 + 1, 1, none⟩ = some b2 ∧ w1.cell? ⟨w.heap.size + 1 + 1, 2, none⟩ = some c2) ∧ (∀ j, w1.frozen? ⟨w.heap.size + 1, j, none⟩ = false) ∧ (∀ j, w1.frozen? ⟨w.heap.size + 1 + 1, j, none⟩ = false) ∧ Below w.heap.size w w1 := by
  have h1 : Below ((w.alloc (.cells #[a, b, c] T)).alloc (.cells #[a', b', c'] T')).heap.size ((w.alloc (.cells #[a, b, c] T)).alloc (.cells #[a', b', c'] T')) w1 := ((Below.refl _ _).alloc (Nat.le_refl _) _).trans (hb.mono (by simp))
  obtain ⟨k1, k2, k3, k4, k5⟩ := kept33 h1
  refine ⟨k1, k2, ⟨?_, ?_, ?_⟩, k4, fun j => ?_, k5⟩
  · rw [hb.cell (p := ⟨w.heap.size + 1 + 1, 0, none⟩) (by simp), World.cell?_alloc_at _ _ _ _ (by simp)]; rfl
  · rw [hb.cell (p := ⟨w.heap.size + 1 + 1, 1, none⟩) (by simp), World.cell?_alloc_at _ _ _ _ (by simp)]; rfl
  · rw [hb.cell (p := ⟨w.heap.size + 1 + 1, 2, none⟩) (by simp), World.cell?_alloc_at _ _ _ _ (by simp)]; rfl
  · rw [hb.frozen (p := ⟨w.heap.size + 1 + 1, j, none⟩) (by simp)]; simp [go_sem]

set_option maxRecDepth 1000000 in
/-- An argument of type laws.Response, opened. -/
theorem open_rsp {H : Type} {enc : TypeId × Value → H} {W : World} {base : Nat} {v : Value} {d : DataW H} {p : List MemPlace}
    (hok : Value.okWide Tryz.prog W .any base 24 v) (h : DataW.Trod enc Tryz.prog W 0 (fun _ => true) true 24 v d p) :
    ∃ (c : Int) (u : Value) (l : List F) (b : List UInt8), v = .agg #[.int .i64 c, u, .string ⟨b.toArray⟩] ∧ Flds.Holds W W.heap.size u l ∧ Ok_rsp c l b := by
  obtain ⟨cs', rfl, hsz⟩ := WideShapes.okWide_struct Tryz.underlying24 hok
  obtain ⟨fuel, hf⟩ := h
  have celi : Tryz.prog.cellsOf 3 = 1 := by kernel_rfl
  have cels : Tryz.prog.cellsOf 9 = 1 := by kernel_rfl
  have celf : Tryz.prog.cellsOf 22 = 1 := by kernel_rfl
  have ce : Tryz.prog.cellsOf 24 = 3 := by kernel_rfl
  obtain ⟨l⟩ := cs'
  obtain ⟨xs, k, hk, hxy, _, hxl, hg⟩ := DataW.trod_struct Tryz.underlying24 hf
  match l, hsz.trans ce, xs, hxl with
  | [v0, v1, v2], _, [y0, y1, y2], _ =>
    have g0 := hg 0 _ rfl
    have g1 := hg 1 _ rfl
    have g2 := hg 2 _ rfl
    simp [Value.cells, celi, cels, celf] at g0 g1 g2
    obtain ⟨c, z0, _, o0⟩ := DataW.trod_int Tryz.underlying3 g0
    obtain rfl : v0 = _ := by simpa using z0
    obtain ⟨u, fl, hu, hh, hl1, hl2⟩ := Flds.open_cells g1
    obtain rfl : v1 = u := by simpa using hu
    obtain ⟨n, rfl, hn⟩ := open_text g2
    exact ⟨c, v1, fl, n, by simp, hh, wf_range o0, ⟨hl1, hl2⟩, hn⟩

set_option maxHeartbeats 1000000 in
/-- Its size: not below 0 just where it is at most what is left. -/
theorem size_rsp (c : Int) (u : Value) (l : List F) (b : List UInt8) (left : Int) (B : Nat) (w : World) (h : Flds.Holds w B u l) (hB : B ≤ w.heap.size) (hok : Ok_rsp c l b) (h0 : 0 ≤ left) (h3 : left ≤ 1048576) :
    Calls Tryz.prog 7 #[.agg #[.int .i64 c, u, .string ⟨b.toArray⟩], .int .i64 left] w fun e w' => ∃ z : Int, e = .returned (.int .i64 z) ∧ (z < 0 ∨ (0 ≤ z ∧ z + ((Flds.total l + b.length : Nat) : Int) = left)) ∧ Below w.heap.size w w' := by
  have hsb : (⟨b.toArray⟩ : ByteArray).size = b.length := by simp [ByteArray.size]
  have HB0 := Lib.hid ((Below.refl w.heap.size w).alloc (Nat.le_refl _) (.cells #[.int .i64 c, u, .string ⟨b.toArray⟩] 24))
  have HX := Lib.hid (cell3_one (W := w) (a := .int .i64 c) (b := u) (c := .string ⟨b.toArray⟩) (T := 24))
  obtain ⟨_, hl, hb⟩ := hok
  have HS := Lib.hid (Flds.size_any u B l left _ (Flds.holds_below h (HB0.out.mono hB)) hl.1 hl.2 h0 h3)
  unfold maxLen at hb
  clear h hl
  go_enter Tryz.func7, Tryz.ntmps7
  go_wp2_with (fail)
  go_at_call 34
  refine HS.out.mono ?_
  rintro e w1 ⟨z, rfl, hz, hb1⟩
  have HB1 := Lib.hid (HB0.out.trans (hb1.mono (by simp)))
  have hx2 := (hb1.cell (p := ⟨w.heap.size, 2, none⟩) (by simp)).trans HX.out.2.2
  clear hb1
  rcases hz with hz | ⟨hz0, hz1⟩
  · go_wp2
    go_ret
    exact ⟨_, rfl, Or.inl (by omega), HB1.out⟩
  · have hzn : ¬ z < 0 := by omega
    have HT := Lib.hid hz1
    have hz3 : z ≤ 1048576 := by omega
    clear hz1
    by_cases hq : z - (b.length : Int) < 0
    · go_wp2
      go_ret
      exact ⟨_, rfl, Or.inl (by omega), HB1.out⟩
    · go_wp2
      go_ret
      exact ⟨_, rfl, Or.inr ⟨by omega, by have := HT.out; omega⟩, HB1.out⟩

def Copied (c : Int) (l : List F) (b : List UInt8) (w : World) (e : Ending) (w' : World) : Prop := ∃ v, e = .returned (.agg #[.int .i64 c, v, .string ⟨b.toArray⟩]) ∧ Flds.Own w' w.heap.size v l ∧ Below w.heap.size w w'
set_option maxHeartbeats 1000000 in
theorem copy_rsp (c : Int) (u : Value) (l : List F) (b : List UInt8) (B : Nat) (w : World) (h : Flds.Holds w B u l) (hB : B ≤ w.heap.size) (hl : l.length ≤ 1048576) :
    Calls Tryz.prog 9 #[.agg #[.int .i64 c, u, .string ⟨b.toArray⟩]] w (Copied c l b w) := by
  have HB0 := Lib.hid ((((Below.refl w.heap.size w).alloc (Nat.le_refl _) (.cells #[.int .i64 c, u, .string ⟨b.toArray⟩] 24)).alloc (by simp) (.cells #[.int .i64 0, .slice none 0 0, .string ⟨#[]⟩] 30)).alloc (by simp; omega) (.cells #[.int .i64 c, .slice none 0 0, .string ⟨#[]⟩] 30))
  have HS := Lib.hid (Flds.copy u B l _ (Flds.holds_below h (HB0.out.mono hB)) hl)
  unfold Copied
  go_enter Tryz.func9, Tryz.ntmps9
  go_wp2_with (fail)
  go_at_call 41
  refine HS.out.mono ?_
  rintro e w1 ⟨v, rfl, ho, hb1⟩
  obtain ⟨a, cap, rfl, _⟩ := Rec.shape_at ho
  obtain ⟨_, ⟨r0, r1, r2⟩, ⟨s0, s1, s2⟩, hfr, hfs, hbw⟩ := kept333 hb1
  have fr0 := hfr 0
  have fr1 := hfr 1
  have fr2 := hfr 2
  have fs1 := hfs 1
  have fs2 := hfs 2
  have HO := Lib.hid ho
  have HBW := Lib.hid hbw
  have HZ := Lib.hid (Rec.lt_of_cell r0)
  clear ho hb1 hbw hfr hfs
  go_wp2
  refine bodyPost_ret (v := .agg #[.int .i64 c, .slice a l.length cap, .string ⟨b.toArray⟩]) (by simp [results, Tryz.results9, go_sem, r0, r1, r2]) rfl ⟨_, rfl, ?_, ?_⟩
  · have hno : ∀ k, Value.ownBlock (.slice a l.length cap) = some k → w.heap.size + 1 + 1 < k := fun k e => by have h9 := (HO.out.lt k e).1; simp at h9; omega
    have e2 : Value.ownBlock (.slice a l.length cap) ≠ some (w.heap.size + 1 + 1) := fun e => by have := hno _ e; omega
    have e1 : Value.ownBlock (.slice a l.length cap) ≠ some (w.heap.size + 1) := fun e => by have := hno _ e; omega
    exact Rec.own_mono (ownsRow_setCell_other (a := ⟨w.heap.size + 1, 2, none⟩) (ownsRow_setCell_other (a := ⟨w.heap.size + 1, 1, none⟩) (ownsRow_setCell_other (a := ⟨w.heap.size + 1, 0, none⟩) (ownsRow_setCell_other (a := ⟨w.heap.size + 1 + 1, 2, none⟩) (ownsRow_setCell_other (a := ⟨w.heap.size + 1 + 1, 1, none⟩) HO.out e2 _) e2 _) e1 _) e1 _) e1 _) (by simp; omega)
  · exact ((((HBW.out.setCell (by show w.heap.size ≤ w.heap.size + 1 + 1; omega) _).setCell (by show w.heap.size ≤ w.heap.size + 1 + 1; omega) _).setCell (by show w.heap.size ≤ w.heap.size + 1; omega) _).setCell (by show w.heap.size ≤ w.heap.size + 1; omega) _).setCell (by show w.heap.size ≤ w.heap.size + 1; omega) _

theorem eq_rsp (c : Int) (u : Value) (l : List F) (b : List UInt8) (v : Value) (B B' : Nat) (w : World) (h : Flds.Holds w B u l) (h' : Flds.Holds w B' v l) (hB : B ≤ w.heap.size) (hB' : B' ≤ w.heap.size) (hl : l.length ≤ 1048576) :
    Calls Tryz.prog 12 #[.agg #[.int .i64 c, u, .string ⟨b.toArray⟩], .agg #[.int .i64 c, v, .string ⟨b.toArray⟩]] w (Rec.Yes w) := by
  have HB0 := Lib.hid (((Below.refl w.heap.size w).alloc (Nat.le_refl _) (.cells #[.int .i64 c, u, .string ⟨b.toArray⟩] 30)).alloc (by simp) (.cells #[.int .i64 c, v, .string ⟨b.toArray⟩] 30))
  have HS := Lib.hid (Flds.eq_same u v B B' l _ (Flds.holds_below h (HB0.out.mono hB)) (Flds.holds_below h' (HB0.out.mono hB')) hl)
  have HK := Lib.hid (fun w1 => kept33 (w := w) (w1 := w1) (T := 30) (T' := 30) (a := .int .i64 c) (b := u) (c := .string ⟨b.toArray⟩) (a' := .int .i64 c) (b' := v) (c' := .string ⟨b.toArray⟩))
  unfold Flds.Yes at HS
  unfold Rec.Yes
  clear h h'
  go_enter Tryz.func12, Tryz.ntmps12
  go_wp2_with (fail)
  go_at_call 48
  refine HS.out.mono ?_
  rintro e w1 ⟨rfl, hb1⟩
  obtain ⟨⟨q0, q1, q2⟩, ⟨r0, r1, r2⟩, _, _, hbw⟩ := HK.out _ hb1
  have HBW := Lib.hid hbw
  clear hb1 hbw
  go_wp2
  go_ret
  exact ⟨rfl, HBW.out⟩
end Go.Proofs.YtojmkdggkaocdaaGreatDoor.Msg

/-
  PLAIN FACTS on slices of Hop (written by rec.py): what a slice holds, how that is kept, and how a slice that the call itself has built is such a one.
-/
namespace Go.Proofs.YtojmkdggkaocdaaGreatDoor.Hps
open Go Go.RowKit
set_option linter.unusedVariables false
set_option maxRecDepth 1000000

theorem info_r : (Tryz.prog.info? 34).map (fun i => (i.zero, i.size, i.bytes)) = some (some (.agg #[.int .i64 0, .int .i64 0, .int .i64 0]), 3, 24) := by kernel_rfl

abbrev T : Type := Int × Int × Int
def nov : T := (0, 0, 0)
def cs (f : T) : List Value := [.int .i64 (f.1), .int .i64 (f.2.1), .int .i64 (f.2.2)]
def fv (f : T) : Value := .agg #[.int .i64 (f.1), .int .i64 (f.2.1), .int .i64 (f.2.2)]
theorem cs_len (f : T) : (cs f).length = 3 := rfl
theorem cs_one (f : T) : ∀ u ∈ cs f, u.oneCell' = true := by
  intro u hu; simp [cs] at hu; rcases hu with rfl | rfl | rfl <;> rfl
def fcs (l : List T) : List Value := Rec.flat cs l
theorem fcs_len (l : List T) : (fcs l).length = l.length * 3 := Rec.flat_len cs_len l
theorem fcs_more (l : List T) (f : T) : fcs (l ++ [f]) = fcs l ++ [.int .i64 (f.1), .int .i64 (f.2.1), .int .i64 (f.2.2)] := Rec.flat_more l f
theorem fcs_one (l : List T) : ∀ u ∈ fcs l, u.oneCell' = true := Rec.flat_one cs_one l
theorem fcs_put {l : List T} {k : Nat} (f : T) (h : k < l.length) : (((fcs l).set (k * 3) (.int .i64 (f.1))).set (k * 3 + 1) (.int .i64 (f.2.1))).set (k * 3 + 2) (.int .i64 (f.2.2)) = fcs (l.set k f) := Rec.flat_put cs_len f h
def Ok (f : T) : Prop := (-9223372036854775808 ≤ f.1 ∧ f.1 ≤ 9223372036854775807) ∧ (-9223372036854775808 ≤ f.2.1 ∧ f.2.1 ≤ 9223372036854775807) ∧ (-9223372036854775808 ≤ f.2.2 ∧ f.2.2 ≤ 9223372036854775807)
/-- The cells from (b, off) on are these. -/
def At (w : World) (b off : Nat) (l : List T) : Prop := Rec.At 3 cs nov w b off l
/-- The slice v reads as l; its cells lie below block B. -/
def Holds (w : World) (B : Nat) (v : Value) (l : List T) : Prop := Rec.Holds 3 cs nov w B v l
abbrev Own (w : World) (B : Nat) (v : Value) (l : List T) : Prop := w.ownsRow B 34 3 v l.length (fcs l)
theorem holds_iff {w : World} {B : Nat} {v : Value} {l : List T} (h : Holds w B v l) : (l = [] ∧ ∃ a cap, v = .slice a 0 cap) ∨ (0 < l.length ∧ ∃ b off cap, v = .slice (some ⟨b, off, none⟩) l.length cap ∧ b < B ∧ l.length ≤ cap ∧ At w b off l) := h
theorem holds_nil (w : World) (B : Nat) (a : Option Addr) (cap : Nat) : Holds w B (.slice a 0 cap) [] := Or.inl ⟨rfl, _, _, rfl⟩
theorem at_cells {w : World} {b off : Nat} {l : List T} (h : At w b off l) {j : Nat} (hj : j < l.length) : w.cell? ⟨b, off + j * 3, none⟩ = some (.int .i64 ((l.getD j nov).1)) ∧ w.cell? ⟨b, off + j * 3 + 1, none⟩ = some (.int .i64 ((l.getD j nov).2.1)) ∧ w.cell? ⟨b, off + j * 3 + 2, none⟩ = some (.int .i64 ((l.getD j nov).2.2)) := ⟨h j hj 0 _ rfl, h j hj 1 _ rfl, h j hj 2 _ rfl⟩
theorem at_lt {w : World} {b off : Nat} {l : List T} (h : At w b off l) (h0 : 0 < l.length) : b < w.heap.size := Rec.at_lt cs_len (by decide) h h0
theorem at_below {w w' : World} {B b off : Nat} {l : List T} (h : At w b off l) (hb : Below B w w') (hlt : b < B) : At w' b off l := Rec.at_below h hb hlt
theorem holds_more {w : World} {B B' : Nat} {v : Value} {l : List T} (h : Holds w B v l) (hB : B ≤ B') : Holds w B' v l := Rec.holds_more h hB
theorem holds_below {w w' : World} {B : Nat} {v : Value} {l : List T} (h : Holds w B v l) (hb : Below B w w') : Holds w' B v l := Rec.holds_below h hb
theorem holds_grown {w w' : World} {B : Nat} {v : Value} {l : List T} {row : Option Nat} (h : Holds w B v l) (hg : w.grownBy w' row) (hr : ∀ k, row = some k → B ≤ k) : Holds w' B v l := Rec.holds_grown h hg hr
theorem own_len {w : World} {B : Nat} {v : Value} {l : List T} {n : Nat} (h : w.ownsRow B 34 3 v n (fcs l)) : n = l.length := Rec.own_len cs_len (by decide) h
theorem own_cells {w : World} {B g cap : Nat} {l : List T} {n : Nat} (h : w.ownsRow B 34 3 (.slice (some ⟨g, 0, none⟩) n cap) n (fcs l)) {j : Nat} (hj : j < n) : w.cell? ⟨g, j * 3, none⟩ = some (.int .i64 ((l.getD j nov).1)) ∧ w.cell? ⟨g, j * 3 + 1, none⟩ = some (.int .i64 ((l.getD j nov).2.1)) ∧ w.cell? ⟨g, j * 3 + 2, none⟩ = some (.int .i64 ((l.getD j nov).2.2)) :=
  ⟨Rec.own_cell (z := nov) (i := 0) cs_len (by decide) h hj rfl, Rec.own_cell (z := nov) (i := 1) cs_len (by decide) h hj rfl, Rec.own_cell (z := nov) (i := 2) cs_len (by decide) h hj rfl⟩
theorem own_holds {w : World} {B : Nat} {v : Value} {l : List T} (h : Own w B v l) : Holds w w.heap.size v l := Rec.own_holds cs_len (by decide) h
theorem own_mono {w : World} {B B' : Nat} {v : Value} {l : List T} (h : Own w B v l) (hB : B' ≤ B) : Own w B' v l := Rec.own_mono h hB
theorem row_below {w w' : World} {B n : Nat} {v : Value} {xs : List Value} (h : w.ownsRow B 34 3 v n xs) (hb : Below w.heap.size w w') : w'.ownsRow B 34 3 v n xs := Rec.row_below h hb
theorem row_grown {w w' : World} {B n : Nat} {v : Value} {xs : List Value} {row : Option Nat} (h : w.ownsRow B 34 3 v n xs) (hg : w.grownBy w' row) (hr : ∀ g, v.ownBlock = some g → some g ≠ row) : w'.ownsRow B 34 3 v n xs := Rec.row_grown h hg hr
theorem push_own {B : Nat} {a w w1 : World} {v v' : Value} {l : List T} {f : T} {o : Obj} (hown : Own w B v l) (hb : Below a.heap.size a w) (hB : a.heap.size ≤ B)
    (h' : w1.ownsRow B 34 3 v' (l.length + 1) (fcs l ++ [.int .i64 (f.1), .int .i64 (f.2.1), .int .i64 (f.2.2)])) (hg : (w.alloc o).grownBy w1 v.ownBlock) : Own w1 B v' (l ++ [f]) ∧ Below a.heap.size a w1 := Rec.push_own hown hb hB h' hg
theorem own_lit_nil (w : World) : Own (w.alloc (.cells #[] 34)) w.heap.size (.slice (some ⟨w.heap.size, 0, none⟩) 0 0) [] := Rec.own_lit_nil w _
theorem holds_drew {w : World} {B : Nat} {v : Value} {l : List T} (h : Holds w B v l) : Holds w.drew B v l := h
theorem row_drew {w : World} {B n : Nat} {v : Value} {xs : List Value} (h : w.ownsRow B 34 3 v n xs) : w.drew.ownsRow B 34 3 v n xs := h
def part (l : List T) (k : Nat) : List T := Rec.part nov l k
theorem part_len (l : List T) {k : Nat} (h : k ≤ l.length) : (part l k).length = l.length := Rec.part_len l h
theorem part_all (l : List T) : part l l.length = l := Rec.part_all l
theorem part_more {l : List T} {k : Nat} (h : k < l.length) : (part l k).set k (l.getD k nov) = part l (k + 1) := Rec.part_more h
theorem made_part (l : List T) : (madeCells (Value.agg #[.int .i64 0, .int .i64 0, .int .i64 0]).cells (l.length * 3)).toList = fcs (part l 0) := Rec.made_part cs_len (by decide) l _ rfl
def wt (f : T) : Nat := 0
def total (l : List T) : Nat := Rec.total wt l
theorem len_le_total (l : List T) : l.length ≤ total l := Rec.len_le_total wt l
theorem mem_total {l : List T} {f : T} (h : f ∈ l) : wt f ≤ total l := Rec.mem_total wt h
end Go.Proofs.YtojmkdggkaocdaaGreatDoor.Hps

/-
  CONTRACTS of the laws' helpers for slices of Hop (written by rec.py): an argument of that type, opened; its size (szHopS). Nothing that was there before is changed.
-/
namespace Go.Proofs.YtojmkdggkaocdaaGreatDoor.Hps
open Go Go.RowKit
set_option linter.unusedVariables false
set_option maxRecDepth 1000000

theorem wf_range {n : Int} (h : (Lit.int .i64 n).wf = true) : -9223372036854775808 ≤ n ∧ n ≤ 9223372036854775807 := by
  simp [Lit.wf, IntKind.min, IntKind.max, IntKind.signed, IntKind.bits] at h; omega

set_option maxRecDepth 1000000 in
/-- An argument of type []laws.Hop, opened. -/
theorem open_arg {H : Type} {enc : TypeId × Value → H} {W : World} {base : Nat} {v : Value} {d : DataW H} {p : List MemPlace}
    (hok : Value.okWide Tryz.prog W .any base 39 v) (h : DataW.Trod enc Tryz.prog W 0 (fun _ => true) true 39 v d p) :
    ∃ l : List T, Holds W W.heap.size v l ∧ l.length ≤ maxLen ∧ (∀ f ∈ l, Ok f) := by
  obtain ⟨a0, len, cap, rfl⟩ := WideShapes.okWide_slice Tryz.underlying39 hok
  obtain ⟨fuel, hf⟩ := h
  have celi : Tryz.prog.cellsOf 3 = 1 := by kernel_rfl
  have ce : Tryz.prog.cellsOf 26 = 3 := by kernel_rfl
  rcases Deep.open_slice Tryz.underlying39 hf with ⟨hcs, hx⟩ | ⟨a, len', cap', m, n, D, Pl, hcs, _, hl, hm, hmm, hx, hall⟩
  · simp [Value.cells] at hcs
    obtain ⟨rfl, rfl, rfl⟩ := hcs
    exact ⟨[], Or.inl ⟨rfl, _, _, rfl⟩, Nat.zero_le _, fun f hf => by cases hf⟩
  · simp [Value.cells] at hcs
    obtain ⟨rfl, rfl, rfl⟩ := hcs
    simp only [if_true] at hmm
    subst hmm
    have each : ∀ i, i < m → ∃ f : T, (∀ k u, (cs f)[k]? = some u → W.cell? (a.add (i * 3 + k)) = some u) ∧ Ok f := fun i hi => by
      obtain ⟨cs', h1, h2⟩ := hall i hi
      rw [ce] at h1
      obtain ⟨_, hlen, hcell⟩ := World.cells?_some h1
      obtain ⟨xs, k, hk, hxy, _, hxl, hf⟩ := DataW.trod_struct Tryz.underlying26 h2
      match xs, hxl, cs', hlen with
      | [y0, y1, y2], _, [v0, v1, v2], _ =>
      have g0 := hf 0 _ rfl
      have g1 := hf 1 _ rfl
      have g2 := hf 2 _ rfl
      simp [celi] at g0 g1 g2
      have e0 := hcell 0 (by omega)
      have e1 := hcell 1 (by omega)
      have e2 := hcell 2 (by omega)
      rw [Deep.add_add] at e0 e1 e2
      obtain ⟨s0, z0, _, o0⟩ := DataW.trod_int Tryz.underlying3 g0
      obtain rfl : v0 = _ := by simpa using z0
      obtain ⟨s1, z1, _, o1⟩ := DataW.trod_int Tryz.underlying3 g1
      obtain rfl : v1 = _ := by simpa using z1
      obtain ⟨s2, z2, _, o2⟩ := DataW.trod_int Tryz.underlying3 g2
      obtain rfl : v2 = _ := by simpa using z2
      refine ⟨(s0, s1, s2), fun k u hu => ?_, ⟨(wf_range o0), (wf_range o1), (wf_range o2)⟩⟩
      match k, hu with
      | 0, hu => exact e0.trans hu
      | 1, hu => exact e1.trans hu
      | 2, hu => exact e2.trans hu
      | k + 3, hu => simp [cs] at hu
    obtain ⟨G, hG⟩ := Deep.choose_lt (α := T) each
    have hln : ((List.range len).map G).length = len := by simp
    have hget : ∀ j, j < len → ((List.range len).map G).getD j nov = G j := fun j hj => by simp [List.getD, hj]
    refine ⟨(List.range len).map G, ?_, by rw [hln]; omega, ?_⟩
    · by_cases hl0 : len = 0
      · subst hl0; exact Or.inl ⟨by simp, _, _, rfl⟩
      · obtain ⟨b, off, spot⟩ := a
        have hspot : spot = none := by simpa [Addr.add] using World.cell?_spot ((hG 0 (by omega)).1 0 _ rfl)
        subst hspot
        have hc : At W b off ((List.range len).map G) := fun j hj i u hu => by
          rw [hln] at hj
          rw [hget j hj] at hu
          rw [Nat.add_assoc, ← WideShapes.add_plain]
          exact (hG j (by omega)).1 i u hu
        exact Or.inr ⟨by omega, b, off, _, by rw [hln], at_lt hc (by omega), by omega, hc⟩
    · intro f hf
      obtain ⟨i, hi, rfl⟩ := List.mem_map.1 hf
      have hi' := List.mem_range.1 hi
      exact (hG i (by omega)).2

/-- What szHopS answers: not below 0 just where the size is at most what is left. -/
def Sized (l : List T) (left : Int) (w : World) (e : Ending) (w' : World) : Prop := ∃ z : Int, e = .returned (.int .i64 z) ∧ (z < 0 ∨ (0 ≤ z ∧ z + total l = left)) ∧ Below w.heap.size w w'

theorem total_len (l : List T) : total l = l.length := Rec.total_plain l
theorem size_any (v : Value) (B : Nat) (l : List T) (left : Int) (w : World) (h : Holds w B v l) (hl : l.length ≤ maxLen) (hx : ∀ f ∈ l, Ok f) (h0 : 0 ≤ left) (h3 : left ≤ 1048576) :
    Calls Tryz.prog 15 #[v, .int .i64 left] w (Sized l left w) := by
  obtain ⟨a, cap, rfl⟩ : ∃ a cap, v = .slice a l.length cap := by
    rcases h with ⟨rfl, a, cap, rfl⟩ | ⟨_, b, off, cap, rfl, _, _, _⟩
    · exact ⟨a, cap, rfl⟩
    · exact ⟨_, cap, rfl⟩
  have HT := Lib.hid (total_len l)
  clear h hx
  unfold maxLen at hl
  by_cases hn : left - (l.length : Int) < 0
  · go_enter Tryz.func15, Tryz.ntmps15
    go_wp2
    go_ret
    exact ⟨_, rfl, Or.inl (by omega), Below.refl _ _⟩
  · go_enter Tryz.func15, Tryz.ntmps15
    go_wp2
    go_ret
    exact ⟨_, rfl, Or.inr ⟨by omega, by rw [HT.out]; omega⟩, Below.refl _ _⟩

set_option maxRecDepth 1000000 in
/-- An argument of type laws.Hop, opened. -/
theorem open_val {H : Type} {enc : TypeId × Value → H} {W : World} {base : Nat} {v : Value} {d : DataW H} {p : List MemPlace}
    (hok : Value.okWide Tryz.prog W .any base 26 v) (h : DataW.Trod enc Tryz.prog W 0 (fun _ => true) true 26 v d p) : ∃ f : T, v = fv f ∧ Ok f := by
  obtain ⟨cs', rfl, hsz⟩ := WideShapes.okWide_struct Tryz.underlying26 hok
  obtain ⟨fuel, hf⟩ := h
  have celi : Tryz.prog.cellsOf 3 = 1 := by kernel_rfl
  have ce : Tryz.prog.cellsOf 26 = 3 := by kernel_rfl
  obtain ⟨l⟩ := cs'
  obtain ⟨xs, k, hk, hxy, _, hxl, hg⟩ := DataW.trod_struct Tryz.underlying26 hf
  match l, hsz.trans ce, xs, hxl with
  | [v0, v1, v2], _, [y0, y1, y2], _ =>
    have g0 := hg 0 _ rfl
    have g1 := hg 1 _ rfl
    have g2 := hg 2 _ rfl
    simp [Value.cells, celi] at g0 g1 g2
    obtain ⟨s0, z0, _, o0⟩ := DataW.trod_int Tryz.underlying3 g0
    obtain rfl : v0 = _ := by simpa using z0
    obtain ⟨s1, z1, _, o1⟩ := DataW.trod_int Tryz.underlying3 g1
    obtain rfl : v1 = _ := by simpa using z1
    obtain ⟨s2, z2, _, o2⟩ := DataW.trod_int Tryz.underlying3 g2
    obtain rfl : v2 = _ := by simpa using z2
    exact ⟨(s0, s1, s2), by simp [fv], ⟨(wf_range o0), (wf_range o1), (wf_range o2)⟩⟩
end Go.Proofs.YtojmkdggkaocdaaGreatDoor.Hps
