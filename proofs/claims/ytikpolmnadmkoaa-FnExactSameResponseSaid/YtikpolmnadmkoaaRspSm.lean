/-
  CONTRACTS of SameResponse, the model's and the program's; nothing that was there before is changed.
-/
import Derived.Test.YtikpolmnadmkoaaMsgRs
import Derived.Test.YtikpolmnadmkoaaFldSame
namespace Go.Proofs.Ytikpolmnadmkoaa.Msg
open Go Go.RowKit
set_option linter.unusedVariables false

def BoolEnd (b : Bool) (w : World) (e : Ending) (w' : World) : Prop := e = .returned (.bool b) ∧ Below w.heap.size w w'
theorem ret_b {a b : Bool} (h : a = b) : Ending.returned (.bool a) = .returned (.bool b) := by rw [h]
theorem flds_drew {w : World} {B : Nat} {v : Value} {l : List Flds.Fld} (h : Flds.Holds w B v l) : Flds.Holds w.drew B v l := h
theorem flds_top {w : World} {B : Nat} {v : Value} {l : List Flds.Fld} (h : Flds.Holds w B v l) : Flds.Holds w w.heap.size v l := by
  rcases h with h | ⟨h0, b, off, cap, rfl, hB, hc, h1⟩
  · exact Or.inl h
  · exact Or.inr ⟨h0, b, off, cap, rfl, Flds.at_lt h1 h0, hc, h1⟩
def rspSame (c1 : Int) (l1 : List Flds.Fld) (b1 : List UInt8) (c2 : Int) (l2 : List Flds.Fld) (b2 : List UInt8) : Bool := decide (c1 = c2) && (decide (l1 = l2) && decide (b1 = b2))

set_option maxHeartbeats 4000000 in
theorem spec_same_rsp (c1 : Int) (v1 : Value) (l1 : List Flds.Fld) (b1 : List UInt8) (c2 : Int) (v2 : Value) (l2 : List Flds.Fld) (b2 : List UInt8) (B1 B2 : Nat) (w : World) (h1 : Flds.Holds w B1 v1 l1) (h2 : Flds.Holds w B2 v2 l2) (hB1 : B1 ≤ w.heap.size) (hB2 : B2 ≤ w.heap.size) (hl1 : l1.length ≤ 1048576) (hl2 : l2.length ≤ 1048576) :
    Calls Try.prog 8 #[.agg #[.int .i64 c1, v1, .string ⟨b1.toArray⟩], .agg #[.int .i64 c2, v2, .string ⟨b2.toArray⟩]] w (BoolEnd (rspSame c1 l1 b1 c2 l2 b2) w) := by
  have hb0 : Below w.heap.size w ((w.alloc (.cells #[.int .i64 c1, v1, .string ⟨b1.toArray⟩] 30)).alloc (.cells #[.int .i64 c2, v2, .string ⟨b2.toArray⟩] 30)) := ((Below.refl _ _).alloc (Nat.le_refl _) _).alloc (by simp) _
  have HB0 := Lib.hid hb0
  have HS := Lib.hid (Flds.spec_same v1 v2 B1 B2 l1 l2 _ (Flds.holds_below h1 (hb0.mono hB1)) (Flds.holds_below h2 (hb0.mono hB2)) hl1 hl2)
  have HK := Lib.hid (fun w1 => kept33 (w := w) (w1 := w1) (T := 30) (T' := 30) (a := .int .i64 c1) (b := v1) (c := .string ⟨b1.toArray⟩) (a' := .int .i64 c2) (b' := v2) (c' := .string ⟨b2.toArray⟩))
  unfold Flds.SameEnd at HS
  unfold BoolEnd
  clear h1 h2 hb0
  by_cases hc : c1 = c2
  case neg =>
    have HE : Hid (rspSame c1 l1 b1 c2 l2 b2 = false) := Lib.hid (by unfold rspSame; rw [decide_eq_false hc, Bool.false_and])
    have hd : (c1 == c2) = false := by rw [beq_eq_false_iff_ne]; exact hc
    clear HS HK hc
    go_enter Try.func8, Try.ntmps8
    go_wp2
    go_ret
    exact ⟨ret_b HE.out.symm, HB0.out⟩
  subst hc
  by_cases hl : l1 = l2
  case neg =>
    have HE : Hid (rspSame c1 l1 b1 c1 l2 b2 = false) := Lib.hid (by unfold rspSame; rw [decide_eq_false hl, Bool.false_and, Bool.and_false])
    rw [decide_eq_false hl] at HS
    clear hl
    go_enter Try.func8, Try.ntmps8
    go_wp2_with (fail)
    go_at_call 13
    refine HS.out.mono ?_
    rintro e w1 ⟨rfl, hb1⟩
    obtain ⟨⟨p0, p1, p2⟩, ⟨q0, q1, q2⟩, _, _, hbw⟩ := HK.out _ hb1
    have HBW := Lib.hid hbw
    clear hb1 hbw
    go_wp2
    go_ret
    exact ⟨ret_b HE.out.symm, HBW.out⟩
  rw [decide_eq_true hl] at HS
  by_cases hb : b1 = b2
  · have HE : Hid (rspSame c1 l1 b1 c1 l2 b2 = true) := Lib.hid (by unfold rspSame; rw [decide_eq_true hl, decide_eq_true hb]; simp)
    subst hb
    clear hl
    go_enter Try.func8, Try.ntmps8
    go_wp2_with (fail)
    go_at_call 13
    refine HS.out.mono ?_
    rintro e w1 ⟨rfl, hb1⟩
    obtain ⟨⟨p0, p1, p2⟩, ⟨q0, q1, q2⟩, _, _, hbw⟩ := HK.out _ hb1
    have HBW := Lib.hid hbw
    clear hb1 hbw
    go_wp2
    go_ret
    exact ⟨ret_b HE.out.symm, HBW.out⟩
  · have HE : Hid (rspSame c1 l1 b1 c1 l2 b2 = false) := Lib.hid (by unfold rspSame; rw [decide_eq_false hb, Bool.and_false, Bool.and_false])
    have hqb : (b1 == b2) = false := by simpa using hb
    clear hl hb
    go_enter Try.func8, Try.ntmps8
    go_wp2_with (fail)
    go_at_call 13
    refine HS.out.mono ?_
    rintro e w1 ⟨rfl, hb1⟩
    obtain ⟨⟨p0, p1, p2⟩, ⟨q0, q1, q2⟩, _, _, hbw⟩ := HK.out _ hb1
    have HBW := Lib.hid hbw
    clear hb1 hbw
    go_wp2
    go_ret
    exact ⟨ret_b HE.out.symm, HBW.out⟩

set_option maxHeartbeats 4000000 in
theorem impl_same_rsp (c1 : Int) (v1 : Value) (l1 : List Flds.Fld) (b1 : List UInt8) (c2 : Int) (v2 : Value) (l2 : List Flds.Fld) (b2 : List UInt8) (B1 B2 : Nat) (w : World) (h1 : Flds.Holds w B1 v1 l1) (h2 : Flds.Holds w B2 v2 l2) (hB1 : B1 ≤ w.heap.size) (hB2 : B2 ≤ w.heap.size) (hl1 : l1.length ≤ 1048576) (hl2 : l2.length ≤ 1048576) :
    Calls Try.prog 10 #[.agg #[.int .i64 c1, v1, .string ⟨b1.toArray⟩], .agg #[.int .i64 c2, v2, .string ⟨b2.toArray⟩]] w (BoolEnd (rspSame c1 l1 b1 c2 l2 b2) w) := by
  have hb0 : Below w.heap.size w ((w.alloc (.cells #[.int .i64 c1, v1, .string ⟨b1.toArray⟩] 30)).alloc (.cells #[.int .i64 c2, v2, .string ⟨b2.toArray⟩] 30)) := ((Below.refl _ _).alloc (Nat.le_refl _) _).alloc (by simp) _
  have HB0 := Lib.hid hb0
  have HS := Lib.hid (Flds.impl_same v1 v2 B1 B2 l1 l2 _ (Flds.holds_below h1 (hb0.mono hB1)) (Flds.holds_below h2 (hb0.mono hB2)) hl1 hl2)
  have HK := Lib.hid (fun w1 => kept33 (w := w) (w1 := w1) (T := 30) (T' := 30) (a := .int .i64 c1) (b := v1) (c := .string ⟨b1.toArray⟩) (a' := .int .i64 c2) (b' := v2) (c' := .string ⟨b2.toArray⟩))
  unfold Flds.SameEnd at HS
  unfold BoolEnd
  clear h1 h2 hb0
  by_cases hc : c1 = c2
  case neg =>
    have HE : Hid (rspSame c1 l1 b1 c2 l2 b2 = false) := Lib.hid (by unfold rspSame; rw [decide_eq_false hc, Bool.false_and])
    have hd : (c1 == c2) = false := by rw [beq_eq_false_iff_ne]; exact hc
    clear HS HK hc
    go_enter Try.func10, Try.ntmps10
    go_wp2
    go_ret
    exact ⟨ret_b HE.out.symm, HB0.out⟩
  subst hc
  by_cases hl : l1 = l2
  case neg =>
    have HE : Hid (rspSame c1 l1 b1 c1 l2 b2 = false) := Lib.hid (by unfold rspSame; rw [decide_eq_false hl, Bool.false_and, Bool.and_false])
    rw [decide_eq_false hl] at HS
    clear hl
    go_enter Try.func10, Try.ntmps10
    go_wp2_with (fail)
    go_at_call 15
    refine HS.out.mono ?_
    rintro e w1 ⟨rfl, hb1⟩
    obtain ⟨⟨p0, p1, p2⟩, ⟨q0, q1, q2⟩, _, _, hbw⟩ := HK.out _ hb1
    have HBW := Lib.hid hbw
    clear hb1 hbw
    go_wp2
    go_ret
    exact ⟨ret_b HE.out.symm, HBW.out⟩
  rw [decide_eq_true hl] at HS
  by_cases hb : b1 = b2
  · have HE : Hid (rspSame c1 l1 b1 c1 l2 b2 = true) := Lib.hid (by unfold rspSame; rw [decide_eq_true hl, decide_eq_true hb]; simp)
    subst hb
    clear hl
    go_enter Try.func10, Try.ntmps10
    go_wp2_with (fail)
    go_at_call 15
    refine HS.out.mono ?_
    rintro e w1 ⟨rfl, hb1⟩
    obtain ⟨⟨p0, p1, p2⟩, ⟨q0, q1, q2⟩, _, _, hbw⟩ := HK.out _ hb1
    have HBW := Lib.hid hbw
    clear hb1 hbw
    go_wp2
    go_ret
    exact ⟨ret_b HE.out.symm, HBW.out⟩
  · have HE : Hid (rspSame c1 l1 b1 c1 l2 b2 = false) := Lib.hid (by unfold rspSame; rw [decide_eq_false hb, Bool.and_false, Bool.and_false])
    have hqb : (b1 == b2) = false := by simpa using hb
    clear hl hb
    go_enter Try.func10, Try.ntmps10
    go_wp2_with (fail)
    go_at_call 15
    refine HS.out.mono ?_
    rintro e w1 ⟨rfl, hb1⟩
    obtain ⟨⟨p0, p1, p2⟩, ⟨q0, q1, q2⟩, _, _, hbw⟩ := HK.out _ hb1
    have HBW := Lib.hid hbw
    clear hb1 hbw
    go_wp2
    go_ret
    exact ⟨ret_b HE.out.symm, HBW.out⟩
end Go.Proofs.Ytikpolmnadmkoaa.Msg
