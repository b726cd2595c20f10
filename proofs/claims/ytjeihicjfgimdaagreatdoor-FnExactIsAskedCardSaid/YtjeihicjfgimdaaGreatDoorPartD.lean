/-
  CONTRACTS AND PLAIN FACTS, several texts in one; each says in its own words what it proves.
-/
import Derived.Test.YtjeihicjfgimdaaGreatDoorPartB
import Derived.Test.YtjeihicjfgimdaaGreatDoorPartC
import Derived.LoopTactic
import Derived.Outline
import Derived.Test.YtjeihicjfgimdaaGreatDoorPartA
set_option linter.unusedSimpArgs false
set_option linter.unusedVariables false

/-
  CONTRACTS of the laws' helpers for a Response: an argument of that type, opened; its size (szResponse), a copy (toResponse), the comparison of two that hold the same (eqResponse). Nothing that was there before is changed.
-/
namespace Go.Proofs.YtjeihicjfgimdaaGreatDoor.Msg
open Go Go.RowKit
set_option linter.unusedVariables false
set_option maxRecDepth 1000000

abbrev F := Flds.Fld
def FOk (l : List F) : Prop := l.length ≤ maxLen ∧ ∀ f ∈ l, f.1.length ≤ maxLen ∧ f.2.length ≤ maxLen
def Ok_rsp (c : Int) (l : List F) (b : List UInt8) : Prop := (-9223372036854775808 ≤ c ∧ c ≤ 9223372036854775807) ∧ FOk l ∧ b.length ≤ maxLen
theorem wf_range {n : Int} (h : (Lit.int .i64 n).wf = true) : -9223372036854775808 ≤ n ∧ n ≤ 9223372036854775807 := by
  simp [Lit.wf, IntKind.min, IntKind.max, IntKind.signed, IntKind.bits] at h; omega
theorem open_text {H : Type} {enc : TypeId × Value → H} {W : World} {fuel : Nat} {v : Value} {x : DataW H × List MemPlace} (h : DataW.trod enc Tryz.prog W 0 (fun _ => true) true fuel 9 [v] = some x) : ∃ n : List UInt8, v = .string ⟨n.toArray⟩ ∧ n.length ≤ maxLen := by
  obtain ⟨s, rfl, hs⟩ := Flds.trod_text h
  exact ⟨s.data.toList, rfl, by rw [Array.length_toList]; exact hs⟩
theorem cell3_one {W : World} {a b c : Value} {T : TypeId} : (W.alloc (.cells #[a, b, c] T)).cell? ⟨W.heap.size, 0, none⟩ = some a ∧ (W.alloc (.cells #[a, b, c] T)).cell? ⟨W.heap.size, 1, none⟩ = some b ∧ (W.alloc (.cells #[a, b, c] T)).cell? ⟨W.heap.size, 2, none⟩ = some c :=
  ⟨by rw [World.cell?_alloc_new]; rfl, by rw [World.cell?_alloc_new]; rfl, by rw [World.cell?_alloc_new]; rfl⟩

/-- Blocks of the call's own, kept by what follows. -/
theorem kept33 {w w1 : World} {T T' : TypeId} {a b c a' b' c' : Value} (hb : Below ((w.alloc (.cells #[a, b, c] T)).alloc (.cells #[a', b', c'] T')).heap.size ((w.alloc (.cells #[a, b, c] T)).alloc (.cells #[a', b', c'] T')) w1) :
    (w1.cell? ⟨w.heap.size, 0, none⟩ = some a ∧ w1.cell? ⟨w.heap.size, 1, none⟩ = some b ∧ w1.cell? ⟨w.heap.size, 2, none⟩ = some c) ∧ (w1.cell? ⟨w.heap.size + 1, 0, none⟩ = some a' ∧ w1.cell? ⟨w.heap.size + 1, 1, none⟩ = some b' ∧ w1.cell? ⟨w.heap.size + 1, 2, none⟩ = some c') ∧ (∀ j, w1.frozen? ⟨w.heap.size, j, none⟩ = false) ∧ (∀ j, w1.frozen? ⟨w.heap.size + 1, j, none⟩ = false) ∧ Below w.heap.size w w1 := by
  have h1 : Below (w.alloc (.cells #[a, b, c] T)).heap.size (w.alloc (.cells #[a, b, c] T)) w1 := ((Below.refl _ _).alloc (Nat.le_refl _) _).trans (hb.mono (by simp))
  refine ⟨⟨?_, ?_, ?_⟩, ⟨?_, ?_, ?_⟩, fun j => ?_, fun j => ?_, ((Below.refl _ _).alloc (Nat.le_refl _) _).trans (h1.mono (by simp))⟩
  · rw [h1.cell (p := ⟨w.heap.size, 0, none⟩) (by simp), World.cell?_alloc_new]; rfl
  · rw [h1.cell (p := ⟨w.heap.size, 1, none⟩) (by simp), World.cell?_alloc_new]; rfl
  · rw [h1.cell (p := ⟨w.heap.size, 2, none⟩) (by simp), World.cell?_alloc_new]; rfl
  · rw [hb.cell (p := ⟨w.heap.size + 1, 0, none⟩) (by simp), World.cell?_alloc_at _ _ _ _ (by simp)]; rfl
  · rw [hb.cell (p := ⟨w.heap.size + 1, 1, none⟩) (by simp), World.cell?_alloc_at _ _ _ _ (by simp)]; rfl
  · rw [hb.cell (p := ⟨w.heap.size + 1, 2, none⟩) (by simp), World.cell?_alloc_at _ _ _ _ (by simp)]; rfl
  · rw [h1.frozen (p := ⟨w.heap.size, j, none⟩) (by simp)]; simp [go_sem]
  · rw [hb.frozen (p := ⟨w.heap.size + 1, j, none⟩) (by simp)]; simp [go_sem]
theorem kept333 {w w1 : World} {T T' T2 : TypeId} {a b c a' b' c' a2 b2 c2 : Value} (hb : Below (((w.alloc (.cells #[a, b, c] T)).alloc (.cells #[a', b', c'] T')).alloc (.cells #[a2, b2, c2] T2)).heap.size (((w.alloc (.cells #[a, b, c] T)).alloc (.cells #[a', b', c'] T')).alloc (.cells #[a2, b2, c2] T2)) w1) :
    (w1.cell? ⟨w.heap.size, 0, none⟩ = some a ∧ w1.cell? ⟨w.heap.size, 1, none⟩ = some b ∧ w1.cell? ⟨w.heap.size, 2, none⟩ = some c) ∧ (w1.cell? ⟨w.heap.size + 1, 0, none⟩ = some a' ∧ w1.cell? ⟨w.heap.size + 1, 1, none⟩ = some b' ∧ w1.cell? ⟨w.heap.size + 1, 2, none⟩ = some c') ∧ (w1.cell? ⟨w.heap.size + 1 + 1, 0, none⟩ = some a2 ∧ w1.cell? ⟨w.heap.size + 1 + 1, 1, none⟩ = some b2 ∧ w1.cell? ⟨w.heap.size + 1 + 1, 2, none⟩ = some c2) ∧ (∀ j, w1.frozen? ⟨w.heap.size + 1, j, none⟩ = false) ∧ (∀ j, w1.frozen? ⟨w.heap.size + 1 + 1, j, none⟩ = false) ∧ Below w.heap.size w w1 := by
  have h1 : Below ((w.alloc (.cells #[a, b, c] T)).alloc (.cells #[a', b', c'] T')).heap.size ((w.alloc (.cells #[a, b, c] T)).alloc (.cells #[a', b', c'] T')) w1 := ((Below.refl _ _).alloc (Nat.le_refl _) _).trans (hb.mono (by simp))
  obtain ⟨k1, k2, k3, k4, k5⟩ := kept33 h1
  refine ⟨k1, k2, ⟨?_, ?_, ?_⟩, k4, fun j => ?_, k5⟩
  · rw [hb.cell (p := ⟨w.heap.size + 1 + 1, 0, none⟩) (by simp), World.cell?_alloc_at _ _ _ _ (by simp)]; rfl
  · rw [hb.cell (p := ⟨w.heap.size + 1 + 1, 1, none⟩) (by simp), World.cell?_alloc_at _ _ _ _ (by simp)]; rfl
  · rw [hb.cell (p := ⟨w.heap.size + 1 + 1, 2, none⟩) (by simp), World.cell?_alloc_at _ _ _ _ (by simp)]; rfl
  · rw [hb.frozen (p := ⟨w.heap.size + 1 + 1, j, none⟩) (by simp)]; simp [go_sem]

set_option maxRecDepth 1000000 in
/-- An argument of type laws.Response, opened. -/
theorem open_rsp {H : Type} {enc : TypeId × Value → H} {W : World} {base : Nat} {v : Value} {d : DataW H} {p : List MemPlace}
    (hok : Value.okWide Tryz.prog W .any base 26 v) (h : DataW.Trod enc Tryz.prog W 0 (fun _ => true) true 26 v d p) :
    ∃ (c : Int) (u : Value) (l : List F) (b : List UInt8), v = .agg #[.int .i64 c, u, .string ⟨b.toArray⟩] ∧ Flds.Holds W W.heap.size u l ∧ Ok_rsp c l b := by
  obtain ⟨cs', rfl, hsz⟩ := WideShapes.okWide_struct Tryz.underlying26 hok
  obtain ⟨fuel, hf⟩ := h
  have celi : Tryz.prog.cellsOf 3 = 1 := by kernel_rfl
  have cels : Tryz.prog.cellsOf 9 = 1 := by kernel_rfl
  have celf : Tryz.prog.cellsOf 22 = 1 := by kernel_rfl
  have ce : Tryz.prog.cellsOf 26 = 3 := by kernel_rfl
  obtain ⟨l⟩ := cs'
  obtain ⟨xs, k, hk, hxy, _, hxl, hg⟩ := DataW.trod_struct Tryz.underlying26 hf
  match l, hsz.trans ce, xs, hxl with
  | [v0, v1, v2], _, [y0, y1, y2], _ =>
    have g0 := hg 0 _ rfl
    have g1 := hg 1 _ rfl
    have g2 := hg 2 _ rfl
    simp [Value.cells, celi, cels, celf] at g0 g1 g2
    obtain ⟨c, z0, _, o0⟩ := DataW.trod_int Tryz.underlying3 g0
    obtain rfl : v0 = _ := by simpa using z0
    obtain ⟨u, fl, hu, hh, hl1, hl2⟩ := Flds.open_cells g1
    obtain rfl : v1 = u := by simpa using hu
    obtain ⟨n, rfl, hn⟩ := open_text g2
    exact ⟨c, v1, fl, n, by simp, hh, wf_range o0, ⟨hl1, hl2⟩, hn⟩

set_option maxHeartbeats 1000000 in
/-- Its size: not below 0 just where it is at most what is left. -/
theorem size_rsp (c : Int) (u : Value) (l : List F) (b : List UInt8) (left : Int) (B : Nat) (w : World) (h : Flds.Holds w B u l) (hB : B ≤ w.heap.size) (hok : Ok_rsp c l b) (h0 : 0 ≤ left) (h3 : left ≤ 1048576) :
    Calls Tryz.prog 25 #[.agg #[.int .i64 c, u, .string ⟨b.toArray⟩], .int .i64 left] w fun e w' => ∃ z : Int, e = .returned (.int .i64 z) ∧ (z < 0 ∨ (0 ≤ z ∧ z + ((Flds.total l + b.length : Nat) : Int) = left)) ∧ Below w.heap.size w w' := by
  have hsb : (⟨b.toArray⟩ : ByteArray).size = b.length := by simp [ByteArray.size]
  have HB0 := Lib.hid ((Below.refl w.heap.size w).alloc (Nat.le_refl _) (.cells #[.int .i64 c, u, .string ⟨b.toArray⟩] 26))
  have HX := Lib.hid (cell3_one (W := w) (a := .int .i64 c) (b := u) (c := .string ⟨b.toArray⟩) (T := 26))
  obtain ⟨_, hl, hb⟩ := hok
  have HS := Lib.hid (Flds.size_any u B l left _ (Flds.holds_below h (HB0.out.mono hB)) hl.1 hl.2 h0 h3)
  unfold maxLen at hb
  clear h hl
  go_enter Tryz.func25, Tryz.ntmps25
  go_wp2_with (fail)
  go_at_call 58
  refine HS.out.mono ?_
  rintro e w1 ⟨z, rfl, hz, hb1⟩
  have HB1 := Lib.hid (HB0.out.trans (hb1.mono (by simp)))
  have hx2 := (hb1.cell (p := ⟨w.heap.size, 2, none⟩) (by simp)).trans HX.out.2.2
  clear hb1
  rcases hz with hz | ⟨hz0, hz1⟩
  · go_wp2
    go_ret
    exact ⟨_, rfl, Or.inl (by omega), HB1.out⟩
  · have hzn : ¬ z < 0 := by omega
    have HT := Lib.hid hz1
    have hz3 : z ≤ 1048576 := by omega
    clear hz1
    by_cases hq : z - (b.length : Int) < 0
    · go_wp2
      go_ret
      exact ⟨_, rfl, Or.inl (by omega), HB1.out⟩
    · go_wp2
      go_ret
      exact ⟨_, rfl, Or.inr ⟨by omega, by have := HT.out; omega⟩, HB1.out⟩

def Copied (c : Int) (l : List F) (b : List UInt8) (w : World) (e : Ending) (w' : World) : Prop := ∃ v, e = .returned (.agg #[.int .i64 c, v, .string ⟨b.toArray⟩]) ∧ Flds.Own w' w.heap.size v l ∧ Below w.heap.size w w'
set_option maxHeartbeats 1000000 in
theorem copy_rsp (c : Int) (u : Value) (l : List F) (b : List UInt8) (B : Nat) (w : World) (h : Flds.Holds w B u l) (hB : B ≤ w.heap.size) (hl : l.length ≤ 1048576) :
    Calls Tryz.prog 33 #[.agg #[.int .i64 c, u, .string ⟨b.toArray⟩]] w (Copied c l b w) := by
  have HB0 := Lib.hid ((((Below.refl w.heap.size w).alloc (Nat.le_refl _) (.cells #[.int .i64 c, u, .string ⟨b.toArray⟩] 26)).alloc (by simp) (.cells #[.int .i64 0, .slice none 0 0, .string ⟨#[]⟩] 36)).alloc (by simp; omega) (.cells #[.int .i64 c, .slice none 0 0, .string ⟨#[]⟩] 36))
  have HS := Lib.hid (Flds.copy u B l _ (Flds.holds_below h (HB0.out.mono hB)) hl)
  unfold Copied
  go_enter Tryz.func33, Tryz.ntmps33
  go_wp2_with (fail)
  go_at_call 66
  refine HS.out.mono ?_
  rintro e w1 ⟨v, rfl, ho, hb1⟩
  obtain ⟨a, cap, rfl, _⟩ := Rec.shape_at ho
  obtain ⟨_, ⟨r0, r1, r2⟩, ⟨s0, s1, s2⟩, hfr, hfs, hbw⟩ := kept333 hb1
  have fr0 := hfr 0
  have fr1 := hfr 1
  have fr2 := hfr 2
  have fs1 := hfs 1
  have fs2 := hfs 2
  have HO := Lib.hid ho
  have HBW := Lib.hid hbw
  have HZ := Lib.hid (Rec.lt_of_cell r0)
  clear ho hb1 hbw hfr hfs
  go_wp2
  refine bodyPost_ret (v := .agg #[.int .i64 c, .slice a l.length cap, .string ⟨b.toArray⟩]) (by simp [results, Tryz.results33, go_sem, r0, r1, r2]) rfl ⟨_, rfl, ?_, ?_⟩
  · have hno : ∀ k, Value.ownBlock (.slice a l.length cap) = some k → w.heap.size + 1 + 1 < k := fun k e => by have h9 := (HO.out.lt k e).1; simp at h9; omega
    have e2 : Value.ownBlock (.slice a l.length cap) ≠ some (w.heap.size + 1 + 1) := fun e => by have := hno _ e; omega
    have e1 : Value.ownBlock (.slice a l.length cap) ≠ some (w.heap.size + 1) := fun e => by have := hno _ e; omega
    exact Rec.own_mono (ownsRow_setCell_other (a := ⟨w.heap.size + 1, 2, none⟩) (ownsRow_setCell_other (a := ⟨w.heap.size + 1, 1, none⟩) (ownsRow_setCell_other (a := ⟨w.heap.size + 1, 0, none⟩) (ownsRow_setCell_other (a := ⟨w.heap.size + 1 + 1, 2, none⟩) (ownsRow_setCell_other (a := ⟨w.heap.size + 1 + 1, 1, none⟩) HO.out e2 _) e2 _) e1 _) e1 _) e1 _) (by simp; omega)
  · exact ((((HBW.out.setCell (by show w.heap.size ≤ w.heap.size + 1 + 1; omega) _).setCell (by show w.heap.size ≤ w.heap.size + 1 + 1; omega) _).setCell (by show w.heap.size ≤ w.heap.size + 1; omega) _).setCell (by show w.heap.size ≤ w.heap.size + 1; omega) _).setCell (by show w.heap.size ≤ w.heap.size + 1; omega) _

theorem eq_rsp (c : Int) (u : Value) (l : List F) (b : List UInt8) (v : Value) (B B' : Nat) (w : World) (h : Flds.Holds w B u l) (h' : Flds.Holds w B' v l) (hB : B ≤ w.heap.size) (hB' : B' ≤ w.heap.size) (hl : l.length ≤ 1048576) :
    Calls Tryz.prog 21 #[.agg #[.int .i64 c, u, .string ⟨b.toArray⟩], .agg #[.int .i64 c, v, .string ⟨b.toArray⟩]] w (Rec.Yes w) := by
  have HB0 := Lib.hid (((Below.refl w.heap.size w).alloc (Nat.le_refl _) (.cells #[.int .i64 c, u, .string ⟨b.toArray⟩] 36)).alloc (by simp) (.cells #[.int .i64 c, v, .string ⟨b.toArray⟩] 36))
  have HS := Lib.hid (Flds.eq_same u v B B' l _ (Flds.holds_below h (HB0.out.mono hB)) (Flds.holds_below h' (HB0.out.mono hB')) hl)
  have HK := Lib.hid (fun w1 => kept33 (w := w) (w1 := w1) (T := 36) (T' := 36) (a := .int .i64 c) (b := u) (c := .string ⟨b.toArray⟩) (a' := .int .i64 c) (b' := v) (c' := .string ⟨b.toArray⟩))
  unfold Flds.Yes at HS
  unfold Rec.Yes
  clear h h'
  go_enter Tryz.func21, Tryz.ntmps21
  go_wp2_with (fail)
  go_at_call 49
  refine HS.out.mono ?_
  rintro e w1 ⟨rfl, hb1⟩
  obtain ⟨⟨q0, q1, q2⟩, ⟨r0, r1, r2⟩, _, _, hbw⟩ := HK.out _ hb1
  have HBW := Lib.hid hbw
  clear hb1 hbw
  go_wp2
  go_ret
  exact ⟨rfl, HBW.out⟩
end Go.Proofs.YtjeihicjfgimdaaGreatDoor.Msg

/-
  PLAIN FACTS: blocks that a call has just laid, one, two or three, read on as they were laid behind whatever only adds.
-/
namespace Go.Proofs.YtjeihicjfgimdaaGreatDoor.Kept
open Go Go.RowKit
set_option linter.unusedVariables false
set_option maxRecDepth 1000000

theorem below_in {w w1 : World} {o : Obj} (h : Below (w.alloc o).heap.size (w.alloc o) w1) : Below w.heap.size w w1 := ((Below.refl _ _).alloc (Nat.le_refl _) _).trans (h.mono (by simp))
theorem one {w w1 : World} {T : TypeId} {a : Array Value} (hb : Below (w.alloc (.cells a T)).heap.size (w.alloc (.cells a T)) w1) :
    (∀ j u, a[j]? = some u → w1.cell? ⟨w.heap.size, j, none⟩ = some u) ∧ ∀ j, w1.frozen? ⟨w.heap.size, j, none⟩ = false := by
  refine ⟨fun j u h => ?_, fun j => ?_⟩
  · rw [hb.cell (p := ⟨w.heap.size, j, none⟩) (by simp), World.cell?_alloc_new]; exact h
  · rw [hb.frozen (p := ⟨w.heap.size, j, none⟩) (by simp)]; simp [go_sem]
theorem two {w w1 : World} {o : Obj} {T : TypeId} {a : Array Value} (hb : Below ((w.alloc o).alloc (.cells a T)).heap.size ((w.alloc o).alloc (.cells a T)) w1) :
    (∀ j u, a[j]? = some u → w1.cell? ⟨w.heap.size + 1, j, none⟩ = some u) ∧ ∀ j, w1.frozen? ⟨w.heap.size + 1, j, none⟩ = false := by
  have h := one hb
  rw [show (w.alloc o).heap.size = w.heap.size + 1 by simp] at h
  exact h
theorem three {w w1 : World} {o o2 : Obj} {T : TypeId} {a : Array Value} (hb : Below (((w.alloc o).alloc o2).alloc (.cells a T)).heap.size (((w.alloc o).alloc o2).alloc (.cells a T)) w1) :
    (∀ j u, a[j]? = some u → w1.cell? ⟨w.heap.size + 1 + 1, j, none⟩ = some u) ∧ ∀ j, w1.frozen? ⟨w.heap.size + 1 + 1, j, none⟩ = false := by
  have h := one hb
  rw [show ((w.alloc o).alloc o2).heap.size = w.heap.size + 1 + 1 by simp] at h
  exact h
end Go.Proofs.YtjeihicjfgimdaaGreatDoor.Kept

/-
  CONTRACTS of the laws' helpers for a Request: an argument of that type, opened; its size (szRequest), a copy (toRequest), the comparison of two that hold the same (eqRequest). Nothing that was there before is changed.
-/
namespace Go.Proofs.YtjeihicjfgimdaaGreatDoor.Msg
open Go Go.RowKit
set_option linter.unusedVariables false
set_option maxRecDepth 1000000

def Ok_req (m h t : List UInt8) (l : List F) : Prop := m.length ≤ maxLen ∧ h.length ≤ maxLen ∧ t.length ≤ maxLen ∧ FOk l

set_option maxRecDepth 1000000 in
/-- An argument of type laws.Request, opened. -/
theorem open_req {H : Type} {enc : TypeId × Value → H} {W : World} {base : Nat} {v : Value} {d : DataW H} {p : List MemPlace}
    (hok : Value.okWide Tryz.prog W .any base 24 v) (h : DataW.Trod enc Tryz.prog W 0 (fun _ => true) true 24 v d p) :
    ∃ (m ho t : List UInt8) (u : Value) (l : List F), v = .agg #[.string ⟨m.toArray⟩, .string ⟨ho.toArray⟩, .string ⟨t.toArray⟩, u] ∧ Flds.Holds W W.heap.size u l ∧ Ok_req m ho t l := by
  obtain ⟨cs', rfl, hsz⟩ := WideShapes.okWide_struct Tryz.underlying24 hok
  obtain ⟨fuel, hf⟩ := h
  have cels : Tryz.prog.cellsOf 9 = 1 := by kernel_rfl
  have celf : Tryz.prog.cellsOf 22 = 1 := by kernel_rfl
  have ce : Tryz.prog.cellsOf 24 = 4 := by kernel_rfl
  obtain ⟨l⟩ := cs'
  obtain ⟨xs, k, hk, hxy, _, hxl, hg⟩ := DataW.trod_struct Tryz.underlying24 hf
  match l, hsz.trans ce, xs, hxl with
  | [v0, v1, v2, v3], _, [y0, y1, y2, y3], _ =>
    have g0 := hg 0 _ rfl
    have g1 := hg 1 _ rfl
    have g2 := hg 2 _ rfl
    have g3 := hg 3 _ rfl
    simp [Value.cells, cels, celf] at g0 g1 g2 g3
    obtain ⟨n0, rfl, hn0⟩ := open_text g0
    obtain ⟨n1, rfl, hn1⟩ := open_text g1
    obtain ⟨n2, rfl, hn2⟩ := open_text g2
    obtain ⟨u, fl, hu, hh, hl1, hl2⟩ := Flds.open_cells g3
    obtain rfl : v3 = u := by simpa using hu
    exact ⟨n0, n1, n2, v3, fl, by simp, hh, hn0, hn1, hn2, hl1, hl2⟩

set_option maxHeartbeats 1000000 in
/-- Its size: not below 0 just where it is at most what is left. -/
theorem size_req (m ho t : List UInt8) (u : Value) (l : List F) (left : Int) (B : Nat) (w : World) (h : Flds.Holds w B u l) (hB : B ≤ w.heap.size) (hok : Ok_req m ho t l) (h0 : 0 ≤ left) (h3 : left ≤ 1048576) :
    Calls Tryz.prog 24 #[.agg #[.string ⟨m.toArray⟩, .string ⟨ho.toArray⟩, .string ⟨t.toArray⟩, u], .int .i64 left] w fun e w' => ∃ z : Int, e = .returned (.int .i64 z) ∧ (z < 0 ∨ (0 ≤ z ∧ z + ((Flds.total l + m.length + ho.length + t.length : Nat) : Int) = left)) ∧ Below w.heap.size w w' := by
  have hs0 : (⟨m.toArray⟩ : ByteArray).size = m.length := by simp [ByteArray.size]
  have hs1 : (⟨ho.toArray⟩ : ByteArray).size = ho.length := by simp [ByteArray.size]
  have hs2 : (⟨t.toArray⟩ : ByteArray).size = t.length := by simp [ByteArray.size]
  have HB0 := Lib.hid ((Below.refl w.heap.size w).alloc (Nat.le_refl _) (.cells #[.string ⟨m.toArray⟩, .string ⟨ho.toArray⟩, .string ⟨t.toArray⟩, u] 24))
  obtain ⟨hm, hh, ht, hl⟩ := hok
  unfold maxLen at hm hh ht
  by_cases q0 : left - (m.length : Int) < 0
  · clear h hl
    go_enter Tryz.func24, Tryz.ntmps24
    go_wp2
    go_ret
    exact ⟨_, rfl, Or.inl (by omega), HB0.out⟩
  by_cases q1 : left - (m.length : Int) - (ho.length : Int) < 0
  · clear h hl
    go_enter Tryz.func24, Tryz.ntmps24
    go_wp2
    go_ret
    exact ⟨_, rfl, Or.inl (by omega), HB0.out⟩
  by_cases q2 : left - (m.length : Int) - (ho.length : Int) - (t.length : Int) < 0
  · clear h hl
    go_enter Tryz.func24, Tryz.ntmps24
    go_wp2
    go_ret
    exact ⟨_, rfl, Or.inl (by omega), HB0.out⟩
  have HS := Lib.hid (Flds.size_any u B l (left - (m.length : Int) - (ho.length : Int) - (t.length : Int)) _ (Flds.holds_below h (HB0.out.mono hB)) hl.1 hl.2 (by omega) (by omega))
  clear h hl
  go_enter Tryz.func24, Tryz.ntmps24
  go_wp2_with (fail)
  go_at_call 58
  refine HS.out.mono ?_
  rintro e w1 ⟨z, rfl, hz, hb1⟩
  have HB1 := Lib.hid (HB0.out.trans (hb1.mono (by simp)))
  clear hb1
  rcases hz with hz | ⟨hz0, hz1⟩
  · go_wp2
    go_ret
    exact ⟨_, rfl, Or.inl (by omega), HB1.out⟩
  · have hzn : ¬ z < 0 := by omega
    have HT := Lib.hid hz1
    clear hz1
    go_wp2
    go_ret
    exact ⟨_, rfl, Or.inr ⟨by omega, by have := HT.out; omega⟩, HB1.out⟩

def CopiedQ (m ho t : List UInt8) (l : List F) (w : World) (e : Ending) (w' : World) : Prop := ∃ v, e = .returned (.agg #[.string ⟨m.toArray⟩, .string ⟨ho.toArray⟩, .string ⟨t.toArray⟩, v]) ∧ Flds.Own w' w.heap.size v l ∧ Below w.heap.size w w'
set_option maxHeartbeats 1000000 in
theorem copy_req (m ho t : List UInt8) (u : Value) (l : List F) (B : Nat) (w : World) (h : Flds.Holds w B u l) (hB : B ≤ w.heap.size) (hl : l.length ≤ 1048576) :
    Calls Tryz.prog 32 #[.agg #[.string ⟨m.toArray⟩, .string ⟨ho.toArray⟩, .string ⟨t.toArray⟩, u]] w (CopiedQ m ho t l w) := by
  have HB0 := Lib.hid ((((Below.refl w.heap.size w).alloc (Nat.le_refl _) (.cells #[.string ⟨m.toArray⟩, .string ⟨ho.toArray⟩, .string ⟨t.toArray⟩, u] 24)).alloc (by simp) (.cells #[.string ⟨#[]⟩, .string ⟨#[]⟩, .string ⟨#[]⟩, .slice none 0 0] 34)).alloc (by simp; omega) (.cells #[.string ⟨m.toArray⟩, .string ⟨ho.toArray⟩, .string ⟨t.toArray⟩, .slice none 0 0] 34))
  have HS := Lib.hid (Flds.copy u B l _ (Flds.holds_below h (HB0.out.mono hB)) hl)
  unfold CopiedQ
  clear h
  go_enter Tryz.func32, Tryz.ntmps32
  go_wp2_with (fail)
  go_at_call 66
  refine HS.out.mono ?_
  rintro e w1 ⟨v, rfl, ho', hb1⟩
  obtain ⟨a, cap, rfl, _⟩ := Rec.shape_at ho'
  have hk3 := Kept.three hb1
  have hk2 := Kept.two (Kept.below_in hb1)
  have q0 := hk3.1 0 _ rfl
  have q1 := hk3.1 1 _ rfl
  have q2 := hk3.1 2 _ rfl
  have q3 := hk3.1 3 _ rfl
  have r0 := hk2.1 0 _ rfl
  have r1 := hk2.1 1 _ rfl
  have r2 := hk2.1 2 _ rfl
  have r3 := hk2.1 3 _ rfl
  have fs3 := hk3.2 3
  have fr0 := hk2.2 0
  have fr1 := hk2.2 1
  have fr2 := hk2.2 2
  have fr3 := hk2.2 3
  have HO := Lib.hid ho'
  have HBW := Lib.hid (HB0.out.trans (hb1.mono HB0.out.size))
  clear ho' hb1 hk3 hk2
  go_wp2
  refine bodyPost_ret (v := .agg #[.string ⟨m.toArray⟩, .string ⟨ho.toArray⟩, .string ⟨t.toArray⟩, .slice a l.length cap]) (by simp [results, Tryz.results32, go_sem, r0, r1, r2, r3]) rfl ⟨_, rfl, ?_, ?_⟩
  · have hno : ∀ k, Value.ownBlock (.slice a l.length cap) = some k → w.heap.size + 1 + 1 < k := fun k e => by have h9 := (HO.out.lt k e).1; simp at h9; omega
    have e2 : Value.ownBlock (.slice a l.length cap) ≠ some (w.heap.size + 1 + 1) := fun e => by have := hno _ e; omega
    have e1 : Value.ownBlock (.slice a l.length cap) ≠ some (w.heap.size + 1) := fun e => by have := hno _ e; omega
    exact Rec.own_mono (ownsRow_setCell_other (a := ⟨w.heap.size + 1, 3, none⟩) (ownsRow_setCell_other (a := ⟨w.heap.size + 1, 2, none⟩) (ownsRow_setCell_other (a := ⟨w.heap.size + 1, 1, none⟩) (ownsRow_setCell_other (a := ⟨w.heap.size + 1, 0, none⟩) (ownsRow_setCell_other (a := ⟨w.heap.size + 1 + 1, 3, none⟩) HO.out e2 _) e1 _) e1 _) e1 _) e1 _) (by simp; omega)
  · exact ((((HBW.out.setCell (by show w.heap.size ≤ w.heap.size + 1 + 1; omega) _).setCell (by show w.heap.size ≤ w.heap.size + 1; omega) _).setCell (by show w.heap.size ≤ w.heap.size + 1; omega) _).setCell (by show w.heap.size ≤ w.heap.size + 1; omega) _).setCell (by show w.heap.size ≤ w.heap.size + 1; omega) _

theorem eq_req (m ho t : List UInt8) (u : Value) (l : List F) (v : Value) (B B' : Nat) (w : World) (h : Flds.Holds w B u l) (h' : Flds.Holds w B' v l) (hB : B ≤ w.heap.size) (hB' : B' ≤ w.heap.size) (hl : l.length ≤ 1048576) :
    Calls Tryz.prog 16 #[.agg #[.string ⟨m.toArray⟩, .string ⟨ho.toArray⟩, .string ⟨t.toArray⟩, u], .agg #[.string ⟨m.toArray⟩, .string ⟨ho.toArray⟩, .string ⟨t.toArray⟩, v]] w (Rec.Yes w) := by
  have HB0 := Lib.hid (((Below.refl w.heap.size w).alloc (Nat.le_refl _) (.cells #[.string ⟨m.toArray⟩, .string ⟨ho.toArray⟩, .string ⟨t.toArray⟩, u] 34)).alloc (by simp) (.cells #[.string ⟨m.toArray⟩, .string ⟨ho.toArray⟩, .string ⟨t.toArray⟩, v] 34))
  have HS := Lib.hid (Flds.eq_same u v B B' l _ (Flds.holds_below h (HB0.out.mono hB)) (Flds.holds_below h' (HB0.out.mono hB')) hl)
  unfold Flds.Yes at HS
  unfold Rec.Yes
  clear h h'
  go_enter Tryz.func16, Tryz.ntmps16
  go_wp2_with (fail)
  go_at_call 49
  refine HS.out.mono ?_
  rintro e w1 ⟨rfl, hb1⟩
  have HBW := Lib.hid (HB0.out.trans (hb1.mono HB0.out.size))
  clear hb1
  go_wp2
  go_ret
  exact ⟨rfl, HBW.out⟩
end Go.Proofs.YtjeihicjfgimdaaGreatDoor.Msg
