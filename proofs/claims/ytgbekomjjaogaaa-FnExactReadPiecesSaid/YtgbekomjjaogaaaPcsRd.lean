/-
  CONTRACTS of ReadPieces, the model's and the program's (and of cutPiece): the bytes of a span that one piece has; nothing that was there before is changed.
-/
import Derived.Test.YtgbekomjjaogaaaPcsFn
import Derived.Laws.DeepStrings4
import Derived.Deep.QuietTactic
import Derived.BigQuiet
namespace Go.Proofs.Ytgbekomjjaogaaa.Pcs
open Go Go.RowKit
set_option linter.unusedVariables false

/-- Does the piece f have all of the bytes p to q - 1? -/
def covp (p q : Int) (f : T) : Bool := decide (f.1 ≤ p ∧ q ≤ ends f.1 f.2)
def cutb (f : T) (p q : Int) : List UInt8 := (f.2.drop (p - f.1).toNat).take ((q - f.1).toNat - (p - f.1).toNat)
def readp (l : List T) (p q : Int) : List UInt8 × Bool :=
  if p < q then (match l.find? (covp p q) with | some f => (cutb f p q, true) | none => ([], false)) else ([], true)
theorem readp_no {l : List T} {p q : Int} (h : ¬ p < q) : readp l p q = ([], true) := by unfold readp; rw [if_neg h]
def NoP (p q : Int) (l : List T) (k : Nat) : Prop := ∀ j, j < k → covp p q (l.getD j nov) = false
theorem nop_more {p q : Int} {l : List T} {k : Nat} (h : NoP p q l k) (e : covp p q (l.getD k nov) = false) : NoP p q l (k + 1) := fun j hj => by
  rcases Nat.lt_or_ge j k with h' | h'
  · exact h j h'
  · have : j = k := by omega
    subst this; exact e
theorem readp_hit {l : List T} {p q : Int} {k : Nat} (h : p < q) (hk : k < l.length) (hn : NoP p q l k) (e : covp p q (l.getD k nov) = true) : readp l p q = (cutb (l.getD k nov) p q, true) := by
  unfold readp
  rw [if_pos h]
  have hf : l.find? (covp p q) = some (l.getD k nov) := by
    rw [List.find?_eq_some_iff_append]
    refine ⟨e, l.take k, l.drop (k + 1), ?_, ?_⟩
    · have e2 : l.getD k nov = l[k] := by simp [List.getD, hk]
      rw [e2, ← List.drop_eq_getElem_cons hk, List.take_append_drop]
    · intro a ha
      obtain ⟨j, hj, rfl⟩ := List.getElem_of_mem ha
      have hj' : j < k := by simp at hj; omega
      have := hn j hj'
      rw [show l.getD j nov = l[j]'(by omega) by simp [List.getD, show j < l.length by omega]] at this
      simp [List.getElem_take, this]
  rw [hf]
theorem readp_miss {l : List T} {p q : Int} {k : Nat} (h : p < q) (hk : ¬ k < l.length) (hn : NoP p q l k) : readp l p q = ([], false) := by
  unfold readp
  rw [if_pos h]
  have : l.find? (covp p q) = none := by
    rw [List.find?_eq_none]
    intro a ha
    obtain ⟨j, hj, rfl⟩ := List.getElem_of_mem ha
    have := hn j (by omega)
    rw [show l.getD j nov = l[j] by simp [List.getD, hj]] at this
    simp [this]
  rw [this]
/-- Where a piece has the bytes, its end has not wrapped around. -/
theorem covp_in {p q x : Int} {y : List UInt8} (h : p < q) (hx : -9223372036854775808 ≤ x ∧ x ≤ 9223372036854775807) (hy : y.length ≤ 1048576) (e : covp p q (x, y) = true) : x ≤ p ∧ q ≤ x + (y.length : Int) ∧ ends x y = x + (y.length : Int) := by
  unfold covp at e
  have e' := of_decide_eq_true e
  dsimp only at e'
  have hw : ends x y = x + (y.length : Int) := by
    unfold ends RowKit.wrap64 at *
    omega
  rw [hw] at e'
  exact ⟨e'.1, e'.2, hw⟩
def ReadEnd (l : List T) (p q : Int) (w : World) (e : Ending) (w' : World) : Prop := e = .returned (.tuple #[.string ⟨(readp l p q).1.toArray⟩, .bool (readp l p q).2]) ∧ Below w.heap.size w w'
theorem read_ret {l : List T} {p q : Int} {t : List UInt8} {b : Bool} (h : readp l p q = (t, b)) : Ending.returned (.tuple #[.string ⟨t.toArray⟩, .bool b]) = .returned (.tuple #[.string ⟨(readp l p q).1.toArray⟩, .bool (readp l p q).2]) := by rw [h]
theorem cut_ext (y : List UInt8) (a b : Nat) : (⟨y.toArray⟩ : ByteArray).extract a b = ⟨((y.drop a).take (b - a)).toArray⟩ := by
  apply ByteArray.ext; rw [ByteArray.data_extract]; apply Array.ext'; simp

set_option maxHeartbeats 1000000 in
theorem cut_piece (x : Int) (y : List UInt8) (p q : Int) (w : World) (hx : -9223372036854775808 ≤ x ∧ x ≤ 9223372036854775807) (hy : y.length ≤ 1048576) (h1 : x ≤ p) (h2 : p < q) (h3 : q ≤ x + (y.length : Int)) :
    Calls Try.prog 61 #[.agg #[.int .i64 x, .string ⟨y.toArray⟩], .agg #[.int .i64 p, .int .i64 q]] w fun e w' => e = .returned (.string ⟨(cutb (x, y) p q).toArray⟩) ∧ Below w.heap.size w w' := by
  have hsy := bsz y
  have HB := Lib.hid (((Below.refl w.heap.size w).alloc (Nat.le_refl _) (.cells #[.int .i64 x, .string ⟨y.toArray⟩] 54)).alloc (by simp) (.cells #[.int .i64 p, .int .i64 q] 29))
  obtain ⟨a, ha⟩ : ∃ a : Nat, p = x + (a : Int) := ⟨(p - x).toNat, by omega⟩
  obtain ⟨b, hb⟩ : ∃ b : Nat, q = x + (b : Int) := ⟨(q - x).toNat, by omega⟩
  subst ha hb
  have HE : Hid ((⟨y.toArray⟩ : ByteArray).extract a b = ⟨(cutb (x, y) (x + (a : Int)) (x + (b : Int))).toArray⟩) := Lib.hid (by
    rw [cut_ext]; unfold cutb
    dsimp only
    rw [show (x + (a : Int) - x).toNat = a by omega, show (x + (b : Int) - x).toNat = b by omega])
  have hab : (a : Int) ≤ (b : Int) := by omega
  have hbl : (b : Int) ≤ (y.length : Int) := by omega
  have e1 : x + (a : Int) - x = (a : Int) := by omega
  have e2 : x + (b : Int) - x = (b : Int) := by omega
  clear h1 h2 h3
  go_enter Try.func61, Try.ntmps61
  go_wp2
  go_ret
  exact ⟨congrArg (fun s : ByteArray => Ending.returned (.string s)) HE.out, HB.out⟩

theorem one_holds (w : World) (x z : Int) : Spn.Holds (w.alloc (.cells #[.int .i64 x, .int .i64 z] 29)) (w.heap.size + 1) (.slice (some ⟨w.heap.size, 0, none⟩) 1 1) [(x, z)] := by
  refine Or.inr ⟨by simp, w.heap.size, 0, 1, rfl, by omega, by simp, fun j hj i u hu => ?_⟩
  have : j = 0 := by simp at hj; exact hj
  subst this
  match i, hu with
  | 0, hu => rw [World.cell?_alloc_new]; exact hu
  | 1, hu => rw [World.cell?_alloc_new]; exact hu
  | i + 2, hu => simp [Spn.cs] at hu
theorem cov_one {x z p q : Int} (h : p < q) : Spn.covers [(x, z)] (p, q) = decide (x ≤ p ∧ q ≤ z) := by
  unfold Spn.covers Spn.holdsx
  simp
  omega

/-- The class of worlds that a round of the program's loop may come through. -/
def RdS (w wr : World) (x : Int) (y : List UInt8) (p q : Int) (u : World) : Prop :=
  (u.cell? ⟨wr.heap.size, 0, none⟩ = some (.int .i64 x) ∧ u.cell? ⟨wr.heap.size, 1, none⟩ = some (.string ⟨y.toArray⟩)) ∧ (u.cell? ⟨w.heap.size, 0, none⟩ = some (.int .i64 p) ∧ u.cell? ⟨w.heap.size, 1, none⟩ = some (.int .i64 q)) ∧ Below (w.heap.size + 1) (w.alloc (.cells #[.int .i64 p, .int .i64 q] 29)) u ∧ Below w.heap.size w u
theorem rds_call {w wr : World} {x : Int} {y : List UInt8} {p q : Int} {u u' : World} (h : RdS w wr x y p q u) (hb : Below u.heap.size u u') : RdS w wr x y p q u' := by
  obtain ⟨⟨a, b⟩, ⟨c, d⟩, e, f⟩ := h
  refine ⟨⟨(hb.cell (p := ⟨wr.heap.size, 0, none⟩) (Rec.lt_of_cell a)).trans a, (hb.cell (p := ⟨wr.heap.size, 1, none⟩) (Rec.lt_of_cell b)).trans b⟩, ⟨(hb.cell (p := ⟨w.heap.size, 0, none⟩) (Rec.lt_of_cell c)).trans c, (hb.cell (p := ⟨w.heap.size, 1, none⟩) (Rec.lt_of_cell d)).trans d⟩, ?_, Base.then_below f hb⟩
  exact e.trans (hb.mono (by have := e.size; simp at this; omega))
theorem rds_drew {w wr : World} {x : Int} {y : List UInt8} {p q : Int} {u : World} (h : RdS w wr x y p q u) : RdS w wr x y p q u.drew := ⟨h.1, h.2.1, Rec.below_drew h.2.2.1, Rec.below_drew h.2.2.2⟩
theorem rds_start {w wr : World} {x : Int} {y : List UInt8} {p q : Int} (hb : Below (w.heap.size + 1) (w.alloc (.cells #[.int .i64 p, .int .i64 q] 29)) wr) : RdS w wr x y p q (wr.alloc (.cells #[.int .i64 x, .string ⟨y.toArray⟩] 54)) := by
  have hz := hb.size
  simp at hz
  have h0 : RdS w (w.alloc (.cells #[.int .i64 p, .int .i64 q] 29)) x y p q ((w.alloc (.cells #[.int .i64 p, .int .i64 q] 29)).alloc (.cells #[.int .i64 x, .string ⟨y.toArray⟩] 54)) ∨ True := Or.inr trivial
  have hn : Below wr.heap.size wr (wr.alloc (.cells #[.int .i64 x, .string ⟨y.toArray⟩] 54)) := (Below.refl _ _).alloc (Nat.le_refl _) _
  have hbw : Below w.heap.size w wr := ((Below.refl _ _).alloc (Nat.le_refl _) _).trans (hb.mono (by omega))
  refine ⟨⟨by rw [World.cell?_alloc_new]; rfl, by rw [World.cell?_alloc_new]; rfl⟩, ⟨?_, ?_⟩, hb.trans (hn.mono hz), hbw.trans (hn.mono hbw.size)⟩
  · rw [hn.cell (p := ⟨w.heap.size, 0, none⟩) (by show w.heap.size < wr.heap.size; omega), hb.cell (p := ⟨w.heap.size, 0, none⟩) (by simp), World.cell?_alloc_new]; rfl
  · rw [hn.cell (p := ⟨w.heap.size, 1, none⟩) (by show w.heap.size < wr.heap.size; omega), hb.cell (p := ⟨w.heap.size, 1, none⟩) (by simp), World.cell?_alloc_new]; rfl

set_option maxRecDepth 100000 in
set_option maxHeartbeats 4000000 in
theorem spec_read (v : Value) (B : Nat) (l : List T) (p q : Int) (w : World) (h : Holds w B v l) (hB : B ≤ w.heap.size) (hl : total l ≤ 1048576) (hok : ∀ f ∈ l, Ok f) :
    Calls Try.prog 30 #[v, .agg #[.int .i64 p, .int .i64 q]] w (ReadEnd l p q w) := by
  have hll : l.length ≤ 1048576 := Nat.le_trans (len_le_total l) hl
  have HT := Lib.hid hl
  have HOK := Lib.hid hok
  obtain ⟨a, cap, rfl, ha⟩ := shape h
  have HA := Lib.hid ha
  have HR0 := Lib.hid (fun wr (x : Int) (y : List UInt8) (hb : Below (w.heap.size + 1) (w.alloc (.cells #[.int .i64 p, .int .i64 q] 29)) wr) => rds_start (x := x) (y := y) hb)
  clear ha h hl hok
  unfold ReadEnd
  go_enter Try.func30, Try.ntmps30
  go_wp2
  go_loopw [6] (fun i wr => ∃ k : Nat, k ≤ l.length ∧ i = .int .i64 (k : Int) ∧ Hid (p < q → NoP p q l k) ∧ Below (w.heap.size + 1) (w.alloc (.cells #[.int .i64 p, .int .i64 q] 29)) wr) (fun i _ => l.length - (intOf i).toNat)
  case atStart => exact ⟨0, Nat.zero_le _, rfl, Lib.hid (fun _ j hj => absurd hj (by omega)), by simpa using Below.refl _ _⟩
  case round =>
    obtain ⟨k, hk, rfl, HN, hb⟩ := hrel
    have hbw : Below w.heap.size w wr := ((Below.refl _ _).alloc (Nat.le_refl _) _).trans (hb.mono (by omega))
    by_cases hlt : k < l.length
    · obtain ⟨b, off, rfl, hbl, hc⟩ := HA.out (by omega)
      obtain ⟨c0, c1⟩ := at_cells (at_below hc hbw (Nat.lt_of_lt_of_le hbl hB)) hlt
      have HLE : Hid ((l.getD k nov).2.length ≤ 1048576) := Lib.hid (Nat.le_trans (mem_total (Rec.getD_mem hlt)) HT.out)
      have HXK := Lib.hid (HOK.out _ (Rec.getD_mem (z := nov) hlt))
      have HHIT := Lib.hid (fun (h : p < q) => readp_hit (p := p) (q := q) h hlt (HN.out h))
      have HM := Lib.hid (fun (h : p < q) => nop_more (HN.out h))
      generalize l.getD k nov = f at c0 c1 HLE HXK HHIT HM
      obtain ⟨x, y⟩ := f
      dsimp only at c0 c1 HLE
      obtain ⟨⟨d0, d1⟩, ⟨d2, d3⟩, hb2, hbw2⟩ := HR0.out wr x y hb
      have HB2 := Lib.hid hb2
      have HBW2 := Lib.hid hbw2
      have hsy := bsz y
      have hyl := HLE.out
      have hki : (k : Int) < (l.length : Int) := by omega
      obtain ⟨⟨x0, x1⟩, _⟩ := HXK.out
      clear hb hbw hc hb2 hbw2
      have hee : ends x y = RowKit.wrap64 (x + (y.length : Int)) := rfl
      by_cases g1 : x ≤ p
      case neg =>
        have HC : Hid (covp p q (x, y) = false) := Lib.hid (by unfold covp; simp; omega)
        clear hee
        go_wp2
        go_roundw
        case rel => exact ⟨k + 1, by omega, by go_num, Lib.hid (fun h => HM.out h HC.out), HB2.out⟩
        case measure => simp [intOf]; omega
      by_cases g2 : p < q
      case neg =>
        clear hee
        go_wp2
        go_roundw
        case rel => exact ⟨k + 1, by omega, by go_num, Lib.hid (fun h => absurd h g2), HB2.out⟩
        case measure => simp [intOf]; omega
      by_cases g3 : q ≤ ends x y
      case neg =>
        have HC : Hid (covp p q (x, y) = false) := Lib.hid (by unfold covp; simp; omega)
        have g3' : ¬ q ≤ RowKit.wrap64 (x + (y.length : Int)) := g3
        clear hee g3
        go_wp2
        go_roundw
        case rel => exact ⟨k + 1, by omega, by go_num, Lib.hid (fun h => HM.out h HC.out), HB2.out⟩
        case measure => simp [intOf]; omega
      have HC : Hid (covp p q (x, y) = true) := Lib.hid (by unfold covp; simp; omega)
      have HE := Lib.hid (HHIT.out g2 HC.out)
      obtain ⟨i1, i2, i3⟩ := covp_in g2 ⟨x0, x1⟩ hyl HC.out
      obtain ⟨m, hm⟩ : ∃ m : Nat, p = x + (m : Int) := ⟨(p - x).toNat, by omega⟩
      obtain ⟨n, hn⟩ : ∃ n : Nat, q = x + (n : Int) := ⟨(q - x).toNat, by omega⟩
      have HX : Hid ((⟨y.toArray⟩ : ByteArray).extract m n = ⟨(cutb (x, y) p q).toArray⟩) := Lib.hid (by
        rw [cut_ext]; unfold cutb
        dsimp only
        rw [show (p - x).toNat = m by omega, show (q - x).toNat = n by omega])
      have g3' : q ≤ RowKit.wrap64 (x + (y.length : Int)) := g3
      have e1 : p - x = (m : Int) := by omega
      have e2 : q - x = (n : Int) := by omega
      have hmn : (m : Int) ≤ (n : Int) := by omega
      have hnl : (n : Int) ≤ (y.length : Int) := by omega
      clear hee g3 i1 i2 i3 hm hn
      go_wp2
      go_ret2
      exact ⟨(congrArg (fun s : ByteArray => Ending.returned (.tuple #[.string s, .bool true])) HX.out).trans (read_ret HE.out), HBW2.out⟩
    · have HBW := Lib.hid hbw
      have HE1 := Lib.hid (fun (h : p < q) => readp_miss h hlt (HN.out h))
      have hc2 : wr.cell? ⟨w.heap.size, 0, none⟩ = some (.int .i64 p) := by
        rw [hb.cell (p := ⟨w.heap.size, 0, none⟩) (by simp), World.cell?_alloc_new]; rfl
      have hc3 : wr.cell? ⟨w.heap.size, 1, none⟩ = some (.int .i64 q) := by
        rw [hb.cell (p := ⟨w.heap.size, 1, none⟩) (by simp), World.cell?_alloc_new]; rfl
      clear hb hbw
      have HE : Hid (readp l p q = ([], decide (q ≤ p))) := Lib.hid (by
        by_cases g : p < q
        · rw [HE1.out g]; have : decide (q ≤ p) = false := by simp; omega
          rw [this]
        · rw [readp_no g]; have : decide (q ≤ p) = true := by simp; omega
          rw [this])
      go_wp2
      go_quiet (fail)
      go_wp2
      go_ret2
      exact ⟨read_ret HE.out, Rec.below_drewN HBW.out _⟩

set_option maxRecDepth 100000 in
set_option maxHeartbeats 4000000 in
theorem impl_read (v : Value) (B : Nat) (l : List T) (p q : Int) (w : World) (h : Holds w B v l) (hB : B ≤ w.heap.size) (hl : total l ≤ 1048576) (hok : ∀ f ∈ l, Ok f) :
    Calls Try.prog 31 #[v, .agg #[.int .i64 p, .int .i64 q]] w (ReadEnd l p q w) := by
  have hll : l.length ≤ 1048576 := Nat.le_trans (len_le_total l) hl
  have HT := Lib.hid hl
  have HOK := Lib.hid hok
  obtain ⟨a, cap, rfl, ha⟩ := shape h
  have HA := Lib.hid ha
  have HR0 := Lib.hid (fun wr (x : Int) (y : List UInt8) (hb : Below (w.heap.size + 1) (w.alloc (.cells #[.int .i64 p, .int .i64 q] 29)) wr) => rds_start (x := x) (y := y) hb)
  have HH := Lib.hid (fun W => Spn.has_bytes p q W)
  have HK := Lib.hid (fun w1 => Kept.one (w := w) (w1 := w1) (T := 29) (a := #[.int .i64 p, .int .i64 q]))
  clear ha h hl hok
  unfold ReadEnd
  unfold Spn.BoolEnd at HH
  by_cases g : p < q
  case neg =>
    have HE := Lib.hid (readp_no (l := l) g)
    have HD : Hid (decide (p < q) = false) := Lib.hid (by simpa using g)
    rw [HD.out] at HH
    clear g
    go_enter Try.func31, Try.ntmps31
    go_wp2_with (fail)
    go_at_call 60
    refine (HH.out _).mono ?_
    rintro e w1 ⟨rfl, hb1⟩
    have HB1 := Lib.hid (((Below.refl w.heap.size w).alloc (Nat.le_refl _) (.cells #[.int .i64 p, .int .i64 q] 29)).trans (hb1.mono (by simp)))
    clear hb1
    go_wp2
    go_ret2
    exact ⟨read_ret HE.out, HB1.out⟩
  have HD : Hid (decide (p < q) = true) := Lib.hid (by simpa using g)
  rw [HD.out] at HH
  have HG := Lib.hid g
  clear g
  go_enter Try.func31, Try.ntmps31
  go_wp2_with (fail)
  go_at_call 60
  refine (HH.out _).mono ?_
  rintro e w1 ⟨rfl, hb1⟩
  have HB1 : Hid (Below (w.heap.size + 1) (w.alloc (.cells #[.int .i64 p, .int .i64 q] 29)) w1) := Lib.hid (by simpa using hb1)
  clear hb1 HH
  go_wp2
  go_loopw [13] (fun i wr => ∃ k : Nat, k ≤ l.length ∧ i = .int .i64 (k : Int) ∧ Hid (NoP p q l k) ∧ Below (w.heap.size + 1) (w.alloc (.cells #[.int .i64 p, .int .i64 q] 29)) wr) (fun i _ => l.length - (intOf i).toNat)
  case atStart => exact ⟨0, Nat.zero_le _, rfl, Lib.hid (fun j hj => absurd hj (by omega)), HB1.out⟩
  case round =>
    clear HB1
    obtain ⟨k, hk, rfl, HN, hb⟩ := hrel
    have hbw : Below w.heap.size w wr := ((Below.refl _ _).alloc (Nat.le_refl _) _).trans (hb.mono (by omega))
    by_cases hlt : k < l.length
    · obtain ⟨b, off, rfl, hbl, hc⟩ := HA.out (by omega)
      obtain ⟨c0, c1⟩ := at_cells (at_below hc hbw (Nat.lt_of_lt_of_le hbl hB)) hlt
      have HLE : Hid ((l.getD k nov).2.length ≤ 1048576) := Lib.hid (Nat.le_trans (mem_total (Rec.getD_mem hlt)) HT.out)
      have HXK := Lib.hid (HOK.out _ (Rec.getD_mem (z := nov) hlt))
      have HHIT := Lib.hid (readp_hit (p := p) (q := q) HG.out hlt HN.out)
      have HM := Lib.hid (nop_more HN.out)
      generalize l.getD k nov = f at c0 c1 HLE HXK HHIT HM
      obtain ⟨x, y⟩ := f
      dsimp only at c0 c1 HLE
      have HR := Lib.hid (HR0.out wr x y hb)
      have HSP := Lib.hid (fun W => span_of x y W HLE.out)
      have HCV : Hid (covp p q (x, y) = decide (x ≤ p ∧ q ≤ ends x y)) := Lib.hid rfl
      have HCP := Lib.hid (fun (h : covp p q (x, y) = true) W => have z := covp_in HG.out HXK.out.1 HLE.out h
        cut_piece x y p q W HXK.out.1 HLE.out z.1 HG.out z.2.1)
      generalize ends x y = z at HSP HCV
      have hki : (k : Int) < (l.length : Int) := by omega
      have HRD : Hid (RdS w wr x y p q (wr.alloc (.cells #[.int .i64 x, .string ⟨y.toArray⟩] 54)).drew) := Lib.hid (rds_drew HR.out)
      have hq0 := HRD.out.1.1
      have hq1 := HRD.out.1.2
      have hq2 := HRD.out.2.1.1
      have hq3 := HRD.out.2.1.2
      clear hb hbw hc
      go_wp2
      go_region_with (first | (go_at_call 56; refine (HSP.out _).mono ?_; rintro e xq ⟨rfl, bq⟩; clear hq0 hq1 hq2 hq3; have HRD := Lib.hid (rds_call HRD.out bq); have hq0 := HRD.out.1.1; have hq1 := HRD.out.1.2; have hq2 := HRD.out.2.1.1; have hq3 := HRD.out.2.1.2; have hqa := (rds_call HRD.out ((Below.refl xq.heap.size xq).alloc (Nat.le_refl _) (.cells #[.int .i64 x, .int .i64 z] 29))).2.1; obtain ⟨hqa2, hqa3⟩ := hqa; clear bq) | (go_at_call 44; refine (Spn.impl_cov _ _ [(x, z)] p q _ (one_holds _ x z) (by simp) (by simp)).mono ?_; rintro e xr ⟨he, br⟩; rw [cov_one HG.out, ← HCV.out] at he; subst he; have HRE := Lib.hid (rds_call HRD.out (Kept.below_in br)); clear br))
      all_goals (
        obtain ⟨⟨r0, r1⟩, ⟨r2, r3⟩, hb2, hbw2⟩ := HRE.out
        have HB2 := Lib.hid hb2
        have HBW2 := Lib.hid hbw2
        clear hb2 hbw2
        cases hcv : covp p q (x, y) with
        | false =>
          have HC := Lib.hid hcv
          clear hcv
          go_wp2
          go_roundw
          case rel => exact ⟨k + 1, by omega, by go_num, Lib.hid (HM.out HC.out), HB2.out⟩
          case measure => simp [intOf]; omega
        | true =>
          have HE := Lib.hid (HHIT.out hcv)
          have HCC := Lib.hid (HCP.out hcv)
          clear hcv
          go_wp2_with (fail)
          go_at_call 61
          refine (HCC.out _).mono ?_
          rintro e xs ⟨rfl, bs⟩
          have HBZ := Lib.hid (Base.then_below HBW2.out bs)
          clear bs
          go_wp2
          go_ret2
          exact ⟨read_ret HE.out, HBZ.out⟩)
    · have HBW := Lib.hid hbw
      have HE := Lib.hid (readp_miss HG.out hlt HN.out)
      clear hb hbw
      go_wp2
      go_ret2
      exact ⟨read_ret HE.out, HBW.out⟩
end Go.Proofs.Ytgbekomjjaogaaa.Pcs
