/-
  CONTRACTS AND PLAIN FACTS, several texts in one; each says in its own words what it proves.
-/
import Derived.Test.YtjjelbijbbnmcaaGreatDoorPartA
import Derived.LoopTactic
import Derived.Outline
import Derived.Test.YtjjelbijbbnmcaaGreatDoorPartAM
import Derived.Test.YtjjelbijbbnmcaaGreatDoorPartB
import Derived.Test.YtjjelbijbbnmcaaGreatDoorPartL

/-
  CONTRACTS of the laws' helpers for slices of fields: a copy (toField, toFieldS). Nothing that was there before is changed.
-/
namespace Go.Proofs.YtjjelbijbbnmcaaGreatDoor.Flds
open Go Go.RowKit
set_option linter.unusedVariables false
set_option maxRecDepth 1000000

theorem copy_one (f : Fld) (w : World) : Calls Tryz.prog 46 #[fv f] w fun e w' => e = .returned (fv f) ∧ Below w.heap.size w w' := by
  obtain ⟨x, y⟩ := f
  unfold fv sv
  obtain ⟨s, hs⟩ : ∃ s : ByteArray, s = ⟨x.toArray⟩ := ⟨_, rfl⟩
  obtain ⟨t, ht⟩ : ∃ t : ByteArray, t = ⟨y.toArray⟩ := ⟨_, rfl⟩
  simp only
  rw [← hs, ← ht]
  clear hs ht
  go_enter Tryz.func46, Tryz.ntmps46
  go_wp2
  refine bodyPost_ret (v := .agg #[.string s, .string t]) (by simp [results, Tryz.results46, go_sem]) rfl ⟨rfl, ?_⟩
  exact (((Below.refl _ _).alloc (Nat.le_refl _) _).alloc (by simp) _).alloc (by simp; omega) _
theorem copy_two (x y : List UInt8) (w : World) : Calls Tryz.prog 46 #[.agg #[.string ⟨x.toArray⟩, .string ⟨y.toArray⟩]] w fun e w' => e = .returned (.agg #[.string ⟨x.toArray⟩, .string ⟨y.toArray⟩]) ∧ Below w.heap.size w w' := copy_one (x, y) w

def Copied (l : List Fld) (w : World) (e : Ending) (w' : World) : Prop := ∃ v, e = .returned v ∧ Own w' w.heap.size v l ∧ Below w.heap.size w w'
/-- .. and the slice is not nil. -/
def Copied' (l : List Fld) (w : World) (e : Ending) (w' : World) : Prop := ∃ v, e = .returned v ∧ Own w' w.heap.size v l ∧ Below w.heap.size w w' ∧ ∃ g cap, v = .slice (some ⟨g, 0, none⟩) l.length cap

theorem copy_nil (a : Option Addr) (cap : Nat) (w : World) :
    Calls Tryz.prog 21 #[.slice a 0 cap] w (Copied' [] w) := by
  obtain ⟨i0, hi, hz0, hz1, hz2⟩ := info_parts info_fld
  go_enter Tryz.func21, Tryz.ntmps21
  go_wp2_with (refine wpList_make_full _ (by rfl) (.tmp 6) (.tmp 6) 30 (by rfl) w.heap.size 69 i0 (.agg #[.string ⟨#[]⟩, .string ⟨#[]⟩]) 2 Tryz.underlying30 hi hz0 hz1 .i64 .i64 _ _ 0 (by rfl) (by rfl) rfl rfl (by rw [hz2]; omega) (by decide) (Nat.le_refl _) ?_; intro w1 hown hgrow)
  have e := made_part []
  rw [show ([] : List Fld).length * 2 = 0 * 2 from rfl, show fcs (part [] 0) = fcs [] from rfl] at e
  rw [e] at hown
  clear e
  go_loop [4] (fun i => i = .int .i64 0) (fun i => 0)
  case atStart => rfl
  case round =>
    obtain rfl := hrel
    go_wp2
    go_ret
    exact ⟨_, rfl, hown, (Below.refl _ _).grown hgrow (Nat.le_refl _) (fun k e => by cases e), ⟨_, _, rfl⟩⟩

set_option maxHeartbeats 1000000 in
theorem copy_some (b off cap : Nat) (l : List Fld) (w : World) (hc : At w b off l) (h0 : 0 < l.length) (hl : l.length ≤ 1048576) :
    Calls Tryz.prog 21 #[.slice (some ⟨b, off, none⟩) l.length cap] w (Copied' l w) := by
  obtain ⟨i0, hi, hz0, hz1, hz2⟩ := info_parts info_fld
  have hbl := at_lt hc h0
  have HC := Lib.hid hc
  clear hc
  go_enter Tryz.func21, Tryz.ntmps21
  go_wp2_with (at_make; refine wpList_make_full _ rfl (.tmp 6) (.tmp 6) 30 rfl w.heap.size 69 i0 (.agg #[.string ⟨#[]⟩, .string ⟨#[]⟩]) 2 Tryz.underlying30 hi hz0 hz1 .i64 .i64 _ _ l.length rfl rfl rfl rfl (by rw [hz2]; omega) (by unfold maxLen; omega) (Nat.le_refl _) ?_; intro w1 hown hgrow)
  rw [made_part] at hown
  have hb1 : Below w.heap.size w w1 := (Below.refl _ _).grown hgrow (Nat.le_refl _) (fun k e => by cases e)
  clear hgrow hi hz0 hz1 hz2
  have HO := Lib.hid hown
  clear hown
  go_loopw [4] (fun i wr => ∃ k : Nat, k ≤ l.length ∧ i = .int .i64 k ∧
      wr.ownsRow w.heap.size 69 2 (.slice (some ⟨w.heap.size, 0, none⟩) l.length l.length) l.length (fcs (part l k)) ∧ Below w.heap.size w wr) (fun i _ => l.length - (intOf i).toNat)
  case atStart => exact ⟨0, Nat.zero_le _, rfl, HO.out, hb1⟩
  case round =>
    obtain ⟨k, hk, rfl, hown, hb⟩ := hrel
    clear HO hb1
    by_cases hlt : k < l.length
    · obtain ⟨c1, c2⟩ := at_below HC.out hb hbl k hlt
      have HP := Lib.hid (part_more hlt)
      have HO := Lib.hid hown
      have HB := Lib.hid hb
      clear hown hb
      generalize hy : l.getD k nofld = f at c1 c2 HP
      clear hy
      obtain ⟨x, y⟩ := f
      unfold sv at c1 c2
      go_wp2_with (go_at_call 46; refine (copy_two x y wr).mono ?_; rintro e w' ⟨rfl, hb1⟩; have HB1 := Lib.hid (Base.then_below HB.out (hb1.mono (Nat.le_refl _))); have hr1 := row_below HO.out hb1; have HL1 := hr1.1; obtain ⟨d1, d2⟩ := own_cell hr1 hlt; have f1 := hr1.frozenAt (k * 2); have f2 := hr1.frozenAt (k * 2 + 1); have HR1 := Lib.hid hr1; clear hr1 hb1; unfold sv at d1 d2)
      have s1 := HR1.out.stored (k * 2) (sv x)
      have s2 := s1.1.stored (k * 2 + 1) (sv y)
      rw [fcs_set _ _ (x, y), HP.out] at s2
      have hz1 := HB1.out.size
      have hz2 := s1.2.size
      have hbb := (HB1.out.grown s1.2 hz1 (fun j e => by cases e; exact Nat.le_refl _)).grown s2.2 (by omega) (fun j e => by cases e; exact Nat.le_refl _)
      go_roundw
      case rel => exact ⟨k + 1, by omega, by go_num, s2.1, hbb⟩
      case measure => simp [intOf]; omega
    · obtain rfl : k = l.length := by omega
      rw [part_all] at hown
      go_wp2
      go_ret
      exact ⟨_, rfl, hown, hb, ⟨_, _, rfl⟩⟩

theorem copy' (v : Value) (B : Nat) (l : List Fld) (w : World) (h : Holds w B v l) (hl : l.length ≤ 1048576) :
    Calls Tryz.prog 21 #[v] w (Copied' l w) := by
  rcases h with ⟨rfl, a, cap, rfl⟩ | ⟨h0, b, off, cap, rfl, _, _, hc⟩
  · exact copy_nil a cap w
  · exact copy_some b off cap l w hc h0 hl
theorem copy (v : Value) (B : Nat) (l : List Fld) (w : World) (h : Holds w B v l) (hl : l.length ≤ 1048576) :
    Calls Tryz.prog 21 #[v] w (Copied l w) :=
  (copy' v B l w h hl).mono fun e w' ⟨v', h1, h2, h3, _⟩ => ⟨v', h1, h2, h3⟩
end Go.Proofs.YtjjelbijbbnmcaaGreatDoor.Flds

/-
  CONTRACTS of the laws' helpers for a Response: an argument of that type, opened; its size (szResponse), a copy (toResponse), the comparison of two that hold the same (eqResponse). Nothing that was there before is changed.
-/
namespace Go.Proofs.YtjjelbijbbnmcaaGreatDoor.Msg
open Go Go.RowKit
set_option linter.unusedVariables false
set_option maxRecDepth 1000000

abbrev F := Flds.Fld
def FOk (l : List F) : Prop := l.length ≤ maxLen ∧ ∀ f ∈ l, f.1.length ≤ maxLen ∧ f.2.length ≤ maxLen
def Ok_rsp (c : Int) (l : List F) (b : List UInt8) : Prop := (-9223372036854775808 ≤ c ∧ c ≤ 9223372036854775807) ∧ FOk l ∧ b.length ≤ maxLen
theorem wf_range {n : Int} (h : (Lit.int .i64 n).wf = true) : -9223372036854775808 ≤ n ∧ n ≤ 9223372036854775807 := by
  simp [Lit.wf, IntKind.min, IntKind.max, IntKind.signed, IntKind.bits] at h; omega
theorem open_text {H : Type} {enc : TypeId × Value → H} {W : World} {fuel : Nat} {v : Value} {x : DataW H × List MemPlace} (h : DataW.trod enc Tryz.prog W 0 (fun _ => true) true fuel 9 [v] = some x) : ∃ n : List UInt8, v = .string ⟨n.toArray⟩ ∧ n.length ≤ maxLen := by
  obtain ⟨s, rfl, hs⟩ := Flds.trod_text h
  exact ⟨s.data.toList, rfl, by rw [Array.length_toList]; exact hs⟩
theorem cell3_one {W : World} {a b c : Value} {T : TypeId} : (W.alloc (.cells #[a, b, c] T)).cell? ⟨W.heap.size, 0, none⟩ = some a ∧ (W.alloc (.cells #[a, b, c] T)).cell? ⟨W.heap.size, 1, none⟩ = some b ∧ (W.alloc (.cells #[a, b, c] T)).cell? ⟨W.heap.size, 2, none⟩ = some c :=
  ⟨by rw [World.cell?_alloc_new]; rfl, by rw [World.cell?_alloc_new]; rfl, by rw [World.cell?_alloc_new]; rfl⟩

/-- Blocks of the call's own, kept by what follows. -/
theorem kept33 {w w1 : World} {T T' : TypeId} {a b c a' b' c' : Value} (hb : Below ((w.alloc (.cells #[a, b, c] T)).alloc (.cells #[a', b', c'] T')).heap.size ((w.alloc (.cells #[a, b, c] T)).alloc (.cells #[a', b', c'] T')) w1) :
    (w1.cell? ⟨w.heap.size, 0, none⟩ = some a ∧ w1.cell? ⟨w.heap.size, 1, none⟩ = some b ∧ w1.cell? ⟨w.heap.size, 2, none⟩ = some c) ∧ (w1.cell? ⟨w.heap.size + 1, 0, none⟩ = some a' ∧ w1.cell? ⟨w.heap.size + 1, 1, none⟩ = some b' ∧ w1.cell? ⟨w.heap.size + 1, 2, none⟩ = some c') ∧ (∀ j, w1.frozen? ⟨w.heap.size, j, none⟩ = false) ∧ (∀ j, w1.frozen? ⟨w.heap.size + 1, j, none⟩ = false) ∧ Below w.heap.size w w1 := by
  have h1 : Below (w.alloc (.cells #[a, b, c] T)).heap.size (w.alloc (.cells #[a, b, c] T)) w1 := ((Below.refl _ _).alloc (Nat.le_refl _) _).trans (hb.mono (by simp))
  refine ⟨⟨?_, ?_, ?_⟩, ⟨?_, ?_, ?_⟩, fun j => ?_, fun j => ?_, ((Below.refl _ _).alloc (Nat.le_refl _) _).trans (h1.mono (by simp))⟩
  · rw [h1.cell (p := ⟨w.heap.size, 0, none⟩) (by simp), World.cell?_alloc_new]; rfl
  · rw [h1.cell (p := ⟨w.heap.size, 1, none⟩) (by simp), World.cell?_alloc_new]; rfl
  · rw [h1.cell (p := ⟨w.heap.size, 2, none⟩) (by simp), World.cell?_alloc_new]; rfl
  · rw [hb.cell (p := ⟨w.heap.size + 1, 0, none⟩) (by simp), World.cell?_alloc_at _ _ _ _ (by simp)]; rfl
  · rw [hb.cell (p := ⟨w.heap.size + 1, 1, none⟩) (by simp), World.cell?_alloc_at _ _ _ _ (by simp)]; rfl
  · rw [hb.cell (p := ⟨w.heap.size + 1, 2, none⟩) (by simp), World.cell?_alloc_at _ _ _ _ (by simp)]; rfl
  · rw [h1.frozen (p := ⟨w.heap.size, j, none⟩) (by simp)]; simp [go_sem]
  · rw [hb.frozen (p := ⟨w.heap.size + 1, j, none⟩) (by simp)]; simp [go_sem]
theorem kept333 {w w1 : World} {T T' T2 : TypeId} {a b c a' b' c' a2 b2 c2 : Value} (hb : Below (((w.alloc (.cells #[a, b, c] T)).alloc (.cells #[a', b', c'] T')).alloc (.cells #[a2, b2, c2] T2)).heap.size (((w.alloc (.cells #[a, b, c] T)).alloc (.cells #[a', b', c'] T')).alloc (.cells #[a2, b2, c2] T2)) w1) :
    (w1.cell? ⟨w.heap.size, 0, none⟩ = some a ∧ w1.cell? ⟨w.heap.size, 1, none⟩ = some b ∧ w1.cell? ⟨w.heap.size, 2, none⟩ = some c) ∧ (w1.cell? ⟨w.heap.size + 1, 0, none⟩ = some a' ∧ w1.cell? ⟨w.heap.size + 1, 1, none⟩ = some b' ∧ w1.cell? ⟨w.heap.size + 1, 2, none⟩ = some c') ∧ (w1.cell? ⟨w.heap.size + 1 + 1, 0, none⟩ = some a2 ∧ w1.cell? ⟨w.heap.size + 1 + 1, 1, none⟩ = some b2 ∧ w1.cell? ⟨w.heap.size + 1 + 1, 2, none⟩ = some c2) ∧ (∀ j, w1.frozen? ⟨w.heap.size + 1, j, none⟩ = false) ∧ (∀ j, w1.frozen? ⟨w.heap.size + 1 + 1, j, none⟩ = false) ∧ Below w.heap.size w w1 := by
  have h1 : Below ((w.alloc (.cells #[a, b, c] T)).alloc (.cells #[a', b', c'] T')).heap.size ((w.alloc (.cells #[a, b, c] T)).alloc (.cells #[a', b', c'] T')) w1 := ((Below.refl _ _).alloc (Nat.le_refl _) _).trans (hb.mono (by simp))
  obtain ⟨k1, k2, k3, k4, k5⟩ := kept33 h1
  refine ⟨k1, k2, ⟨?_, ?_, ?_⟩, k4, fun j => ?_, k5⟩
  · rw [hb.cell (p := ⟨w.heap.size + 1 + 1, 0, none⟩) (by simp), World.cell?_alloc_at _ _ _ _ (by simp)]; rfl
  · rw [hb.cell (p := ⟨w.heap.size + 1 + 1, 1, none⟩) (by simp), World.cell?_alloc_at _ _ _ _ (by simp)]; rfl
  · rw [hb.cell (p := ⟨w.heap.size + 1 + 1, 2, none⟩) (by simp), World.cell?_alloc_at _ _ _ _ (by simp)]; rfl
  · rw [hb.frozen (p := ⟨w.heap.size + 1 + 1, j, none⟩) (by simp)]; simp [go_sem]

set_option maxRecDepth 1000000 in
/-- An argument of type laws.Response, opened. -/
theorem open_rsp {H : Type} {enc : TypeId × Value → H} {W : World} {base : Nat} {v : Value} {d : DataW H} {p : List MemPlace}
    (hok : Value.okWide Tryz.prog W .any base 24 v) (h : DataW.Trod enc Tryz.prog W 0 (fun _ => true) true 24 v d p) :
    ∃ (c : Int) (u : Value) (l : List F) (b : List UInt8), v = .agg #[.int .i64 c, u, .string ⟨b.toArray⟩] ∧ Flds.Holds W W.heap.size u l ∧ Ok_rsp c l b := by
  obtain ⟨cs', rfl, hsz⟩ := WideShapes.okWide_struct Tryz.underlying24 hok
  obtain ⟨fuel, hf⟩ := h
  have celi : Tryz.prog.cellsOf 3 = 1 := by kernel_rfl
  have cels : Tryz.prog.cellsOf 9 = 1 := by kernel_rfl
  have celf : Tryz.prog.cellsOf 22 = 1 := by kernel_rfl
  have ce : Tryz.prog.cellsOf 24 = 3 := by kernel_rfl
  obtain ⟨l⟩ := cs'
  obtain ⟨xs, k, hk, hxy, _, hxl, hg⟩ := DataW.trod_struct Tryz.underlying24 hf
  match l, hsz.trans ce, xs, hxl with
  | [v0, v1, v2], _, [y0, y1, y2], _ =>
    have g0 := hg 0 _ rfl
    have g1 := hg 1 _ rfl
    have g2 := hg 2 _ rfl
    simp [Value.cells, celi, cels, celf] at g0 g1 g2
    obtain ⟨c, z0, _, o0⟩ := DataW.trod_int Tryz.underlying3 g0
    obtain rfl : v0 = _ := by simpa using z0
    obtain ⟨u, fl, hu, hh, hl1, hl2⟩ := Flds.open_cells g1
    obtain rfl : v1 = u := by simpa using hu
    obtain ⟨n, rfl, hn⟩ := open_text g2
    exact ⟨c, v1, fl, n, by simp, hh, wf_range o0, ⟨hl1, hl2⟩, hn⟩

set_option maxHeartbeats 1000000 in
/-- Its size: not below 0 just where it is at most what is left. -/
theorem size_rsp (c : Int) (u : Value) (l : List F) (b : List UInt8) (left : Int) (B : Nat) (w : World) (h : Flds.Holds w B u l) (hB : B ≤ w.heap.size) (hok : Ok_rsp c l b) (h0 : 0 ≤ left) (h3 : left ≤ 1048576) :
    Calls Tryz.prog 10 #[.agg #[.int .i64 c, u, .string ⟨b.toArray⟩], .int .i64 left] w fun e w' => ∃ z : Int, e = .returned (.int .i64 z) ∧ (z < 0 ∨ (0 ≤ z ∧ z + ((Flds.total l + b.length : Nat) : Int) = left)) ∧ Below w.heap.size w w' := by
  have hsb : (⟨b.toArray⟩ : ByteArray).size = b.length := by simp [ByteArray.size]
  have HB0 := Lib.hid ((Below.refl w.heap.size w).alloc (Nat.le_refl _) (.cells #[.int .i64 c, u, .string ⟨b.toArray⟩] 24))
  have HX := Lib.hid (cell3_one (W := w) (a := .int .i64 c) (b := u) (c := .string ⟨b.toArray⟩) (T := 24))
  obtain ⟨_, hl, hb⟩ := hok
  have HS := Lib.hid (Flds.size_any u B l left _ (Flds.holds_below h (HB0.out.mono hB)) hl.1 hl.2 h0 h3)
  unfold maxLen at hb
  clear h hl
  go_enter Tryz.func10, Tryz.ntmps10
  go_wp2_with (fail)
  go_at_call 9
  refine HS.out.mono ?_
  rintro e w1 ⟨z, rfl, hz, hb1⟩
  have HB1 := Lib.hid (HB0.out.trans (hb1.mono (by simp)))
  have hx2 := (hb1.cell (p := ⟨w.heap.size, 2, none⟩) (by simp)).trans HX.out.2.2
  clear hb1
  rcases hz with hz | ⟨hz0, hz1⟩
  · go_wp2
    go_ret
    exact ⟨_, rfl, Or.inl (by omega), HB1.out⟩
  · have hzn : ¬ z < 0 := by omega
    have HT := Lib.hid hz1
    have hz3 : z ≤ 1048576 := by omega
    clear hz1
    by_cases hq : z - (b.length : Int) < 0
    · go_wp2
      go_ret
      exact ⟨_, rfl, Or.inl (by omega), HB1.out⟩
    · go_wp2
      go_ret
      exact ⟨_, rfl, Or.inr ⟨by omega, by have := HT.out; omega⟩, HB1.out⟩

def Copied (c : Int) (l : List F) (b : List UInt8) (w : World) (e : Ending) (w' : World) : Prop := ∃ v, e = .returned (.agg #[.int .i64 c, v, .string ⟨b.toArray⟩]) ∧ Flds.Own w' w.heap.size v l ∧ Below w.heap.size w w'
set_option maxHeartbeats 1000000 in
theorem copy_rsp (c : Int) (u : Value) (l : List F) (b : List UInt8) (B : Nat) (w : World) (h : Flds.Holds w B u l) (hB : B ≤ w.heap.size) (hl : l.length ≤ 1048576) :
    Calls Tryz.prog 22 #[.agg #[.int .i64 c, u, .string ⟨b.toArray⟩]] w (Copied c l b w) := by
  have HB0 := Lib.hid ((((Below.refl w.heap.size w).alloc (Nat.le_refl _) (.cells #[.int .i64 c, u, .string ⟨b.toArray⟩] 24)).alloc (by simp) (.cells #[.int .i64 0, .slice none 0 0, .string ⟨#[]⟩] 32)).alloc (by simp; omega) (.cells #[.int .i64 c, .slice none 0 0, .string ⟨#[]⟩] 32))
  have HS := Lib.hid (Flds.copy u B l _ (Flds.holds_below h (HB0.out.mono hB)) hl)
  unfold Copied
  go_enter Tryz.func22, Tryz.ntmps22
  go_wp2_with (fail)
  go_at_call 21
  refine HS.out.mono ?_
  rintro e w1 ⟨v, rfl, ho, hb1⟩
  obtain ⟨a, cap, rfl, _⟩ := Rec.shape_at ho
  obtain ⟨_, ⟨r0, r1, r2⟩, ⟨s0, s1, s2⟩, hfr, hfs, hbw⟩ := kept333 hb1
  have fr0 := hfr 0
  have fr1 := hfr 1
  have fr2 := hfr 2
  have fs1 := hfs 1
  have fs2 := hfs 2
  have HO := Lib.hid ho
  have HBW := Lib.hid hbw
  have HZ := Lib.hid (Rec.lt_of_cell r0)
  clear ho hb1 hbw hfr hfs
  go_wp2
  refine bodyPost_ret (v := .agg #[.int .i64 c, .slice a l.length cap, .string ⟨b.toArray⟩]) (by simp [results, Tryz.results22, go_sem, r0, r1, r2]) rfl ⟨_, rfl, ?_, ?_⟩
  · have hno : ∀ k, Value.ownBlock (.slice a l.length cap) = some k → w.heap.size + 1 + 1 < k := fun k e => by have h9 := (HO.out.lt k e).1; simp at h9; omega
    have e2 : Value.ownBlock (.slice a l.length cap) ≠ some (w.heap.size + 1 + 1) := fun e => by have := hno _ e; omega
    have e1 : Value.ownBlock (.slice a l.length cap) ≠ some (w.heap.size + 1) := fun e => by have := hno _ e; omega
    exact Rec.own_mono (ownsRow_setCell_other (a := ⟨w.heap.size + 1, 2, none⟩) (ownsRow_setCell_other (a := ⟨w.heap.size + 1, 1, none⟩) (ownsRow_setCell_other (a := ⟨w.heap.size + 1, 0, none⟩) (ownsRow_setCell_other (a := ⟨w.heap.size + 1 + 1, 2, none⟩) (ownsRow_setCell_other (a := ⟨w.heap.size + 1 + 1, 1, none⟩) HO.out e2 _) e2 _) e1 _) e1 _) e1 _) (by simp; omega)
  · exact ((((HBW.out.setCell (by show w.heap.size ≤ w.heap.size + 1 + 1; omega) _).setCell (by show w.heap.size ≤ w.heap.size + 1 + 1; omega) _).setCell (by show w.heap.size ≤ w.heap.size + 1; omega) _).setCell (by show w.heap.size ≤ w.heap.size + 1; omega) _).setCell (by show w.heap.size ≤ w.heap.size + 1; omega) _

theorem eq_rsp (c : Int) (u : Value) (l : List F) (b : List UInt8) (v : Value) (B B' : Nat) (w : World) (h : Flds.Holds w B u l) (h' : Flds.Holds w B' v l) (hB : B ≤ w.heap.size) (hB' : B' ≤ w.heap.size) (hl : l.length ≤ 1048576) :
    Calls Tryz.prog 30 #[.agg #[.int .i64 c, u, .string ⟨b.toArray⟩], .agg #[.int .i64 c, v, .string ⟨b.toArray⟩]] w (Rec.Yes w) := by
  have HB0 := Lib.hid (((Below.refl w.heap.size w).alloc (Nat.le_refl _) (.cells #[.int .i64 c, u, .string ⟨b.toArray⟩] 32)).alloc (by simp) (.cells #[.int .i64 c, v, .string ⟨b.toArray⟩] 32))
  have HS := Lib.hid (Flds.eq_same u v B B' l _ (Flds.holds_below h (HB0.out.mono hB)) (Flds.holds_below h' (HB0.out.mono hB')) hl)
  have HK := Lib.hid (fun w1 => kept33 (w := w) (w1 := w1) (T := 32) (T' := 32) (a := .int .i64 c) (b := u) (c := .string ⟨b.toArray⟩) (a' := .int .i64 c) (b' := v) (c' := .string ⟨b.toArray⟩))
  unfold Flds.Yes at HS
  unfold Rec.Yes
  clear h h'
  go_enter Tryz.func30, Tryz.ntmps30
  go_wp2_with (fail)
  go_at_call 29
  refine HS.out.mono ?_
  rintro e w1 ⟨rfl, hb1⟩
  obtain ⟨⟨q0, q1, q2⟩, ⟨r0, r1, r2⟩, _, _, hbw⟩ := HK.out _ hb1
  have HBW := Lib.hid hbw
  clear hb1 hbw
  go_wp2
  go_ret
  exact ⟨rfl, HBW.out⟩
end Go.Proofs.YtjjelbijbbnmcaaGreatDoor.Msg
