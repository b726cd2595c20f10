/-
  CONTRACTS of how one ask is read (the program's parseAsk, the model's l8Ask); nothing that was there before is changed.
-/
import Derived.Test.YtmfgflbbojaghaaDoorParImpl
import Derived.Test.YtmfgflbbojaghaaDoorParSpec
import Derived.Test.YtmfgflbbojaghaaDoorCutOne
import Derived.Test.YtmfgflbbojaghaaDoorPairFn
import Derived.Test.YtmfgflbbojaghaaDoorAsks
namespace Go.Proofs.YtmfgflbbojaghaaDoor.Rng
open Go Go.RowKit
set_option linter.unusedVariables false

/-- What ParseInt answers, as a function. -/
def pin (l : List UInt8) : Int × Bool := if Lib.itoa (Par.val 0 l : Int) = l ∧ Par.val 0 l ≤ 1000000000000 then ((Par.val 0 l : Int), true) else (0, false)
theorem ps_pin (l : List UInt8) : Par.PS l (pin l).1 (pin l).2 := by
  unfold pin
  split
  · rename_i h; exact Or.inl ⟨rfl, by simp only; omega, by simp only; omega, h.1⟩
  · rename_i h
    refine Or.inr ⟨rfl, rfl, fun u h0 h1 e => h ?_⟩
    have hv := Par.itoa_val h0
    rw [e] at hv
    rw [hv]; exact ⟨e, by omega⟩
theorem pin_nn (l : List UInt8) : 0 ≤ (pin l).1 ∧ (pin l).1 ≤ 1000000000000 := by
  unfold pin; split
  · simp only; omega
  · simp only; omega
theorem pin_nil : pin [] = (0, false) := by
  rcases ps_pin [] with ⟨h1, h2, h3, h4⟩ | ⟨h1, h2, _⟩
  · rw [Par.itoa_nat h2] at h4
    have := Par.dec_val (pin []).1.toNat
    exfalso
    rw [Lib.decDigits] at h4
    split at h4 <;> simp at h4
  · exact Prod.ext h2 h1
def PinEnd (l : List UInt8) (w : World) (e : Ending) (w' : World) : Prop := e = .returned (.tuple #[.int .i64 (pin l).1, .bool (pin l).2]) ∧ Below w.heap.size w w'
theorem pin_end {l : List UInt8} {w : World} {e : Ending} {w' : World} (h : Par.Parsed l w e w') : PinEnd l w e w' := by
  obtain ⟨v, b, hp, rfl, hb⟩ := h
  obtain ⟨rfl, rfl⟩ := hp.uniq (ps_pin l)
  exact ⟨rfl, hb⟩
theorem spec_pin (l : List UInt8) (w : World) (hl : l.length ≤ 1048576) : Calls Tryd.prog 7 #[.string ⟨l.toArray⟩] w (PinEnd l w) :=
  (Par.spec_parse ⟨l.toArray⟩ w (by simp [ByteArray.size]; omega)).mono fun _ _ h => pin_end h
theorem impl_pin (l : List UInt8) (w : World) (hl : l.length ≤ 1048576) (ht : Fmt.Tens w) (he : Par.Errs w) : Calls Tryd.prog 11 #[.string ⟨l.toArray⟩] w (PinEnd l w) :=
  (Par.impl_parse ⟨l.toArray⟩ w (by simp [ByteArray.size]; omega) ht he).mono fun _ _ h => pin_end h

/-- How an ask is read. -/
def pask (l : List UInt8) : (Int × Int) × Bool :=
  if (pin (Tx.cutAt 45 l).1).2 = true ∧ (pin (Tx.cutAt 45 l).2.1).2 = true ∧ (pin (Tx.cutAt 45 l).1).1 ≤ (pin (Tx.cutAt 45 l).2.1).1 then (((pin (Tx.cutAt 45 l).1).1, (pin (Tx.cutAt 45 l).2.1).1), true)
  else if (pin (Tx.cutAt 45 l).1).2 = true ∧ (Tx.cutAt 45 l).2.2 = true ∧ (Tx.cutAt 45 l).2.1 = [] then (((pin (Tx.cutAt 45 l).1).1, -1), true)
  else if (pin (Tx.cutAt 45 l).2.1).2 = true ∧ (Tx.cutAt 45 l).1 = [] then ((-1, (pin (Tx.cutAt 45 l).2.1).1), true) else ((0, 0), false)
def AskEnd (l : List UInt8) (w : World) (e : Ending) (w' : World) : Prop := e = .returned (.tuple #[.agg #[.int .i64 (pask l).1.1, .int .i64 (pask l).1.2], .bool (pask l).2]) ∧ Below w.heap.size w w'
theorem ask_ret {l : List UInt8} {p q : Int} {b : Bool} (h : pask l = ((p, q), b)) : Ending.returned (.tuple #[.agg #[.int .i64 p, .int .i64 q], .bool b]) = .returned (.tuple #[.agg #[.int .i64 (pask l).1.1, .int .i64 (pask l).1.2], .bool (pask l).2]) := by rw [h]
/-- An ask in a block of its own. -/
def ABox (g : Nat) (p q : Int) (w : World) : Prop := w.heap[g]? = some (.cells #[.int .i64 p, .int .i64 q] 30 (0, 0))
theorem abox_new (w : World) (p q : Int) : ABox w.heap.size p q (w.alloc (.cells #[.int .i64 p, .int .i64 q] 30)) := heap_alloc_new w _
theorem abox_keep {g : Nat} {p q : Int} {w w' : World} (h : ABox g p q w) (hb : Below w.heap.size w w') : ABox g p q w' := by
  have hlt : g < w.heap.size := by
    rcases Nat.lt_or_ge g w.heap.size with h' | h'
    · exact h'
    · unfold ABox at h; rw [Array.getElem?_eq_none h'] at h; cases h
  exact (hb.block g hlt).trans h
theorem abox_facts {g : Nat} {p q : Int} {w : World} (h : ABox g p q w) : (w.cell? ⟨g, 0, none⟩ = some (.int .i64 p) ∧ w.cell? ⟨g, 1, none⟩ = some (.int .i64 q)) ∧ w.frozen? ⟨g, 0, none⟩ = false ∧ w.frozen? ⟨g, 1, none⟩ = false :=
  ⟨⟨cell_of_row w g 0 _ _ (0, 0) h, cell_of_row w g 1 _ _ (0, 0) h⟩, frozen_of_row w g 0 _ _ h, frozen_of_row w g 1 _ _ h⟩

set_option maxHeartbeats 8000000 in
theorem impl_ask (l : List UInt8) (w : World) (hl : l.length ≤ 1048576) (ht : Fmt.Tens w) (he : Par.Errs w) :
    Calls Tryd.prog 12 #[.string ⟨l.toArray⟩] w (AskEnd l w) := by
  have HA : Hid (Below w.heap.size w (w.alloc (.cells #[.int .i64 0, .int .i64 0] 30))) := Lib.hid ((Below.refl _ _).alloc (Nat.le_refl _) _)
  have HBX := Lib.hid (abox_new w 0 0)
  have HTE := Lib.hid (fun W (hb : Below w.heap.size w W) => And.intro (Fmt.tens_below ht hb) (Par.errs_below he hb))
  have hcl := Tx.cutAt_len 45 l
  have c1 := fun W => Tx.cut_any ⟨l.toArray⟩ 45 W (by simp [ByteArray.size]; omega)
  have HC : Hid (∀ W : World, Calls Tryd.prog 10 #[.string ⟨l.toArray⟩, .string ⟨#[45]⟩] W fun e w' => e = .returned (.tuple #[.string ⟨(Tx.cutAt 45 l).1.toArray⟩, .string ⟨(Tx.cutAt 45 l).2.1.toArray⟩, .bool (Tx.cutAt 45 l).2.2]) ∧ Below W.heap.size W w') := Lib.hid (fun W => c1 W)
  have HP : Hid (pask l = _) := Lib.hid (show pask l = _ by unfold pask; rfl)
  generalize Tx.cutAt 45 l = x at HC HP hcl
  obtain ⟨x1, x2, fd⟩ := x
  simp only at HC HP hcl
  have HI1 := Lib.hid (fun W (hb : Below w.heap.size w W) => impl_pin x1 W (by omega) (HTE.out W hb).1 (HTE.out W hb).2)
  have HI2 := Lib.hid (fun W (hb : Below w.heap.size w W) => impl_pin x2 W (by omega) (HTE.out W hb).1 (HTE.out W hb).2)
  unfold PinEnd at HI1 HI2
  have hb1 := pin_nn x1
  have hb2 := pin_nn x2
  generalize pin x1 = p1 at HI1 HP hb1
  generalize pin x2 = p2 at HI2 HP hb2
  obtain ⟨p1, b1⟩ := p1
  obtain ⟨p2, b2⟩ := p2
  simp only at HI1 HI2 HP hb1 hb2
  clear hl ht he hcl c1 HTE
  by_cases hle : p1 ≤ p2
  all_goals (
    cases b1 <;> cases b2 <;> cases fd <;> rcases x1 with _ | ⟨y1, r1⟩ <;> rcases x2 with _ | ⟨y2, r2⟩)
  all_goals (
    have HP2 := HP.out
    simp [hle] at HP2
    have HE := Lib.hid HP2
    clear HP HP2
    go_enter Tryd.func12, Tryd.ntmps12
    go_wp2_with (fail)
    go_at_call 10
    refine (HC.out _).mono ?_
    rintro e w1 ⟨rfl, k1⟩
    have HBX := Lib.hid (abox_keep HBX.out k1)
    have HB := Lib.hid (Base.then_below HA.out k1)
    clear k1 HC
    go_wp2_with (fail)
    go_at_call 11
    refine (HI1.out _ HB.out).mono ?_
    rintro e w2 ⟨rfl, k1⟩
    have HBX := Lib.hid (abox_keep HBX.out k1)
    have HB := Lib.hid (Base.then_below HB.out k1)
    clear k1 HI1
    go_wp2_with (fail)
    go_at_call 11
    refine (HI2.out _ HB.out).mono ?_
    rintro e w3 ⟨rfl, k1⟩
    have HBX := Lib.hid (abox_keep HBX.out k1)
    have HB := Lib.hid (Base.then_below HB.out k1)
    obtain ⟨⟨q0, q1⟩, z0, z1⟩ := abox_facts HBX.out
    clear k1 HI2
    go_wp2
    refine bodyPost_ret (v := .tuple #[.agg #[.int .i64 (pask l).1.1, .int .i64 (pask l).1.2], .bool (pask l).2]) (by rw [HE.out]; simp [results, Tryd.results12, go_sem, q0, q1]) rfl ⟨rfl, ?_⟩
    exact (HB.out.setCell (Nat.le_refl _) _).setCell (Nat.le_refl _) _)
end Go.Proofs.YtmfgflbbojaghaaDoor.Rng
