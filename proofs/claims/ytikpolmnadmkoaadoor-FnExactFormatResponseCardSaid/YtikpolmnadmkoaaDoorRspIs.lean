/-
  CONTRACTS of what is a valid response (the model's l11Fields and IsResponse; the program's areOwnFields, isValid and IsResponse); nothing that was there before is changed.
-/
import Derived.Test.YtikpolmnadmkoaaDoorFldAre
import Derived.Test.YtikpolmnadmkoaaDoorFldMrg
import Derived.Test.YtikpolmnadmkoaaDoorNumIn
import Derived.Test.YtikpolmnadmkoaaDoorRec
import Derived.LoopTactic
import Derived.Outline
namespace Go.Proofs.YtikpolmnadmkoaaDoor.Msg
open Go Go.RowKit
set_option linter.unusedVariables false

def lenName : List UInt8 := [99, 111, 110, 116, 101, 110, 116, 45, 108, 101, 110, 103, 116, 104]
def ownOk (l : List Flds.Fld) : Bool := Flds.fldsOk l && (decide (l.length < 24) && !Flds.has l lenName)
def BoolEnd (b : Bool) (w : World) (e : Ending) (w' : World) : Prop := e = .returned (.bool b) ∧ Below w.heap.size w w'
theorem ret_b {a b : Bool} (h : a = b) : Ending.returned (.bool a) = .returned (.bool b) := by rw [h]
theorem len_total {l : List Flds.Fld} {n : Nat} (h : Flds.total l ≤ n) : l.length ≤ n := by unfold Flds.total at h; omega

set_option maxHeartbeats 2000000 in
theorem spec_own (v : Value) (B : Nat) (l : List Flds.Fld) (w : World) (h : Flds.Holds w B v l) (hB : B ≤ w.heap.size) (hl : Flds.total l ≤ 1048576) :
    Calls Tryd.prog 25 #[v] w (BoolEnd (ownOk l) w) := by
  have hll := len_total hl
  have HG := Lib.hid (Flds.spec_get v B l lenName w h (Nat.le_trans hl (by decide)))
  have HA := Lib.hid (fun (w1 : World) (hb : Below w.heap.size w w1) => Flds.spec_are v B l w1 (Flds.holds_below h (hb.mono hB)) (Nat.le_trans hB hb.size) hl)
  obtain ⟨a, cap, rfl, _⟩ := Flds.shape_any h
  unfold Flds.GetEnd lenName at HG
  unfold Flds.AreEnd at HA
  have HO : Hid (ownOk l = (Flds.fldsOk l && (decide (l.length < 24) && !Flds.has l lenName))) := Lib.hid rfl
  have hv : decide (0 < (Flds.vals lenName l).length) = Flds.has l lenName := Flds.has_vals l lenName
  unfold lenName at hv HO
  rw [hv] at HG
  clear h hl hv
  generalize Flds.has l [99, 111, 110, 116, 101, 110, 116, 45, 108, 101, 110, 103, 116, 104] = q at HG HO
  generalize Tx.join (Flds.vals [99, 111, 110, 116, 101, 110, 116, 45, 108, 101, 110, 103, 116, 104] l) = t at HG
  generalize Flds.fldsOk l = z at HA HO
  unfold BoolEnd
  by_cases h24 : (l.length : Int) < 24
  · have HE : Hid (ownOk l = (z && !q)) := Lib.hid (by rw [HO.out]; have : decide (l.length < 24) = true := by simp; omega
                                                       rw [this, Bool.true_and])
    clear HO
    cases z <;> cases q
    all_goals
      go_enter Tryd.func25, Tryd.ntmps25
      go_wp2_with (fail)
      go_at_call 23
      refine HG.out.mono ?_
      rintro e w1 ⟨rfl, hb1⟩
      have HB1 := Lib.hid hb1
      clear hb1
      go_wp2_with (fail)
      go_at_call 37
      refine (HA.out _ HB1.out).mono ?_
      rintro e w2 ⟨rfl, hb2⟩
      have HB2 := Lib.hid (Base.then_below HB1.out hb2)
      clear hb2
      go_wp2
      go_ret
      exact ⟨ret_b HE.out.symm, HB2.out⟩
  · have HE : Hid (ownOk l = false) := Lib.hid (by rw [HO.out]; have : decide (l.length < 24) = false := by simp; omega
                                                   rw [this, Bool.false_and, Bool.and_false])
    clear HO
    cases z
    all_goals
      go_enter Tryd.func25, Tryd.ntmps25
      go_wp2_with (fail)
      go_at_call 23
      refine HG.out.mono ?_
      rintro e w1 ⟨rfl, hb1⟩
      have HB1 := Lib.hid hb1
      clear hb1
      go_wp2_with (fail)
      go_at_call 37
      refine (HA.out _ HB1.out).mono ?_
      rintro e w2 ⟨rfl, hb2⟩
      have HB2 := Lib.hid (Base.then_below HB1.out hb2)
      clear hb2
      go_wp2
      go_ret
      exact ⟨ret_b HE.out.symm, HB2.out⟩

set_option maxHeartbeats 2000000 in
theorem impl_own (v : Value) (B : Nat) (l : List Flds.Fld) (w : World) (h : Flds.Holds w B v l) (hB : B ≤ w.heap.size) (hl : Flds.total l ≤ 1048576) :
    Calls Tryd.prog 42 #[v] w (BoolEnd (ownOk l) w) := by
  have hll := len_total hl
  have HA := Lib.hid (Flds.impl_are v B l w h hB hl)
  have HG := Lib.hid (fun (w1 : World) (hb : Below w.heap.size w w1) => Flds.impl_has v B l lenName w1 (Flds.holds_below h (hb.mono hB)) (Nat.le_trans hB hb.size) hll)
  obtain ⟨a, cap, rfl, _⟩ := Flds.shape_any h
  unfold Flds.AreEnd at HA
  unfold lenName at HG
  have HO : Hid (ownOk l = (Flds.fldsOk l && (decide (l.length < 24) && !Flds.has l lenName))) := Lib.hid rfl
  unfold lenName at HO
  clear h hl
  generalize Flds.has l [99, 111, 110, 116, 101, 110, 116, 45, 108, 101, 110, 103, 116, 104] = q at HG HO
  generalize Flds.fldsOk l = z at HA HO
  unfold BoolEnd
  by_cases h24 : (l.length : Int) < 24
  · have HE : Hid (ownOk l = (z && !q)) := Lib.hid (by rw [HO.out]; have : decide (l.length < 24) = true := by simp; omega
                                                       rw [this, Bool.true_and])
    clear HO
    cases z with
    | false =>
      go_enter Tryd.func42, Tryd.ntmps42
      go_wp2_with (fail)
      go_at_call 56
      refine HA.out.mono ?_
      rintro e w1 ⟨rfl, hb1⟩
      have HB1 := Lib.hid hb1
      clear hb1
      go_wp2
      go_ret
      exact ⟨ret_b HE.out.symm, HB1.out⟩
    | true =>
      cases q
      all_goals
        go_enter Tryd.func42, Tryd.ntmps42
        go_wp2_with (fail)
        go_at_call 56
        refine HA.out.mono ?_
        rintro e w1 ⟨rfl, hb1⟩
        have HB1 := Lib.hid hb1
        clear hb1
        go_wp2_with (fail)
        go_at_call 43
        refine (HG.out _ HB1.out).mono ?_
        rintro e w2 ⟨rfl, hb2⟩
        have HB2 := Lib.hid (Base.then_below HB1.out hb2)
        clear hb2
        go_wp2
        go_ret
        exact ⟨ret_b HE.out.symm, HB2.out⟩
  · have HE : Hid (ownOk l = false) := Lib.hid (by rw [HO.out]; have : decide (l.length < 24) = false := by simp; omega
                                                   rw [this, Bool.false_and, Bool.and_false])
    clear HO HA HG
    go_enter Tryd.func42, Tryd.ntmps42
    go_wp2
    go_ret
    exact ⟨ret_b HE.out.symm, Below.refl _ _⟩

def rspOk (c : Int) (l : List Flds.Fld) (b : List UInt8) : Bool := decide (200 ≤ c ∧ c ≤ 599) && (ownOk l && decide (b.length ≤ 600))
theorem kept3 {w w1 : World} {T : TypeId} {a b c : Value} (hb : Below (w.alloc (.cells #[a, b, c] T)).heap.size (w.alloc (.cells #[a, b, c] T)) w1) :
    (w1.cell? ⟨w.heap.size, 0, none⟩ = some a ∧ w1.cell? ⟨w.heap.size, 1, none⟩ = some b ∧ w1.cell? ⟨w.heap.size, 2, none⟩ = some c) ∧ Below w.heap.size w w1 := by
  refine ⟨⟨?_, ?_, ?_⟩, ((Below.refl _ _).alloc (Nat.le_refl _) _).trans (hb.mono (by simp))⟩
  · rw [hb.cell (p := ⟨w.heap.size, 0, none⟩) (by simp), World.cell?_alloc_new]; rfl
  · rw [hb.cell (p := ⟨w.heap.size, 1, none⟩) (by simp), World.cell?_alloc_new]; rfl
  · rw [hb.cell (p := ⟨w.heap.size, 2, none⟩) (by simp), World.cell?_alloc_new]; rfl

set_option maxHeartbeats 2000000 in
theorem spec_isr (c : Int) (v : Value) (B : Nat) (l : List Flds.Fld) (b : List UInt8) (w : World) (h : Flds.Holds w B v l) (hB : B ≤ w.heap.size) (hl : Flds.total l ≤ 1048576) (hbl : b.length ≤ 1048576) :
    Calls Tryd.prog 13 #[.agg #[.int .i64 c, v, .string ⟨b.toArray⟩]] w (BoolEnd (rspOk c l b) w) := by
  have hsb : (⟨b.toArray⟩ : ByteArray).size = b.length := by simp [ByteArray.size]
  have HB0 : Hid (Below w.heap.size w (w.alloc (.cells #[.int .i64 c, v, .string ⟨b.toArray⟩] 38))) := Lib.hid ((Below.refl _ _).alloc (Nat.le_refl _) _)
  have HS := Lib.hid (spec_own v B l _ (Flds.holds_below h (HB0.out.mono hB)) (Nat.le_trans hB HB0.out.size) hl)
  have HK := Lib.hid (fun w1 => kept3 (w := w) (w1 := w1) (T := 38) (a := .int .i64 c) (b := v) (c := .string ⟨b.toArray⟩))
  have HO : Hid (rspOk c l b = (decide (200 ≤ c ∧ c ≤ 599) && (ownOk l && decide (b.length ≤ 600)))) := Lib.hid rfl
  clear h hl
  unfold BoolEnd at HS ⊢
  generalize ownOk l = z at HS HO
  by_cases hc : 200 ≤ c ∧ c ≤ 599
  · have HE : Hid (rspOk c l b = (z && decide ((b.length : Int) ≤ 600))) := Lib.hid (by rw [HO.out, decide_eq_true hc, Bool.true_and]; congr 1; rw [Bool.eq_iff_iff]; simp; omega)
    obtain ⟨h1, h2⟩ := hc
    clear HO
    cases z
    all_goals
      go_enter Tryd.func13, Tryd.ntmps13
      go_wp2_with (fail)
      go_at_call 22
      refine (NumDiv.in_yes _ _ _ _ h1 h2).mono ?_
      rintro e w0 ⟨rfl, rfl⟩
      go_wp2_with (fail)
      go_at_call 25
      refine HS.out.mono ?_
      rintro e w1 ⟨rfl, hb1⟩
      obtain ⟨⟨q0, q1, q2⟩, hbw⟩ := HK.out _ hb1
      have HBW := Lib.hid hbw
      clear hb1 hbw
      go_wp2
      go_ret
      exact ⟨ret_b (by rw [HE.out]; simp), HBW.out⟩
  · have HE : Hid (rspOk c l b = false) := Lib.hid (by rw [HO.out, decide_eq_false hc, Bool.false_and])
    have HC := Lib.hid (show c < 200 ∨ 599 < c by omega)
    clear HO hc
    go_enter Tryd.func13, Tryd.ntmps13
    go_wp2_with (fail)
    go_at_call 22
    refine (NumDiv.in_no _ _ _ _ HC.out).mono ?_
    rintro e w0 ⟨rfl, rfl⟩
    go_wp2
    go_ret
    exact ⟨ret_b HE.out.symm, HB0.out⟩

set_option maxHeartbeats 2000000 in
theorem impl_valid_rsp (c : Int) (v : Value) (B : Nat) (l : List Flds.Fld) (b : List UInt8) (w : World) (h : Flds.Holds w B v l) (hB : B ≤ w.heap.size) (hl : Flds.total l ≤ 1048576) (hbl : b.length ≤ 1048576) :
    Calls Tryd.prog 29 #[.agg #[.int .i64 c, v, .string ⟨b.toArray⟩]] w (BoolEnd (rspOk c l b) w) := by
  have hsb : (⟨b.toArray⟩ : ByteArray).size = b.length := by simp [ByteArray.size]
  have HB0 : Hid (Below w.heap.size w (w.alloc (.cells #[.int .i64 c, v, .string ⟨b.toArray⟩] 38))) := Lib.hid ((Below.refl _ _).alloc (Nat.le_refl _) _)
  have HS := Lib.hid (impl_own v B l _ (Flds.holds_below h (HB0.out.mono hB)) (Nat.le_trans hB HB0.out.size) hl)
  have HK := Lib.hid (fun w1 => kept3 (w := w) (w1 := w1) (T := 38) (a := .int .i64 c) (b := v) (c := .string ⟨b.toArray⟩))
  have HO : Hid (rspOk c l b = (decide (200 ≤ c ∧ c ≤ 599) && (ownOk l && decide (b.length ≤ 600)))) := Lib.hid rfl
  clear h hl
  unfold BoolEnd at HS ⊢
  generalize ownOk l = z at HS HO
  by_cases hc : 200 ≤ c ∧ c ≤ 599
  · have HE : Hid (rspOk c l b = (z && decide ((b.length : Int) ≤ 600))) := Lib.hid (by rw [HO.out, decide_eq_true hc, Bool.true_and]; congr 1; rw [Bool.eq_iff_iff]; simp; omega)
    obtain ⟨h1, h2⟩ := hc
    clear HO
    cases z
    all_goals
      go_enter Tryd.func29, Tryd.ntmps29
      go_wp2_with (fail)
      go_at_call 42
      refine HS.out.mono ?_
      rintro e w1 ⟨rfl, hb1⟩
      obtain ⟨⟨q0, q1, q2⟩, hbw⟩ := HK.out _ hb1
      have HBW := Lib.hid hbw
      clear hb1 hbw
      go_wp2
      go_ret
      exact ⟨ret_b (by rw [HE.out]; simp), HBW.out⟩
  · have HE : Hid (rspOk c l b = false) := Lib.hid (by rw [HO.out, decide_eq_false hc, Bool.false_and])
    clear HO HS HK
    by_cases h1 : 200 ≤ c
    · have h2 : ¬ c ≤ 599 := by omega
      clear hc
      go_enter Tryd.func29, Tryd.ntmps29
      go_wp2
      go_ret
      exact ⟨ret_b HE.out.symm, HB0.out⟩
    · clear hc
      go_enter Tryd.func29, Tryd.ntmps29
      go_wp2
      go_ret
      exact ⟨ret_b HE.out.symm, HB0.out⟩

theorem impl_isr (c : Int) (v : Value) (B : Nat) (l : List Flds.Fld) (b : List UInt8) (w : World) (h : Flds.Holds w B v l) (hB : B ≤ w.heap.size) (hl : Flds.total l ≤ 1048576) (hbl : b.length ≤ 1048576) :
    Calls Tryd.prog 15 #[.agg #[.int .i64 c, v, .string ⟨b.toArray⟩]] w (BoolEnd (rspOk c l b) w) := by
  have HB0 : Hid (Below w.heap.size w (w.alloc (.cells #[.int .i64 c, v, .string ⟨b.toArray⟩] 38))) := Lib.hid ((Below.refl _ _).alloc (Nat.le_refl _) _)
  have HS := Lib.hid (impl_valid_rsp c v B l b _ (Flds.holds_below h (HB0.out.mono hB)) (Nat.le_trans hB HB0.out.size) hl hbl)
  clear h hl
  unfold BoolEnd at HS ⊢
  generalize rspOk c l b = z at HS ⊢
  go_enter Tryd.func15, Tryd.ntmps15
  go_wp2_with (fail)
  go_at_call 29
  refine HS.out.mono ?_
  rintro e w1 ⟨rfl, hb1⟩
  have HBW := Lib.hid (HB0.out.trans (hb1.mono HB0.out.size))
  clear hb1
  go_wp2
  go_ret
  exact ⟨rfl, HBW.out⟩
end Go.Proofs.YtikpolmnadmkoaaDoor.Msg
