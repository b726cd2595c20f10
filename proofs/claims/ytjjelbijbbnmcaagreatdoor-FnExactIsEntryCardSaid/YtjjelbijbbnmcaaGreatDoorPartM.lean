/-
  CONTRACTS AND PLAIN FACTS, several texts in one; each says in its own words what it proves.
-/
import Derived.Test.YtjjelbijbbnmcaaGreatDoorPartH
import Derived.Test.YtjjelbijbbnmcaaGreatDoorPartK
import Derived.Test.YtjjelbijbbnmcaaGreatDoorPartC
import Derived.Test.YtjjelbijbbnmcaaGreatDoorPartL
import Derived.LoopTactic
import Derived.Outline
import Derived.Test.YtjjelbijbbnmcaaGreatDoorPartJ
import Derived.Test.YtjjelbijbbnmcaaGreatDoorRows
import Derived.WalkKit
import Derived.ProofKit
import Derived.Lib.Hide
import Derived.OpenShut
import Derived.Below
import Derived.Lib.ItoaNum
import Derived.Lib.AtoiAllCases

/-
  CONTRACTS of what is a valid response (the model's l11Fields and IsResponse; the program's areOwnFields, isValid and IsResponse); nothing that was there before is changed.
-/
namespace Go.Proofs.YtjjelbijbbnmcaaGreatDoor.Msg
open Go Go.RowKit
set_option linter.unusedVariables false
set_option maxRecDepth 1000000

def lenName : List UInt8 := [99, 111, 110, 116, 101, 110, 116, 45, 108, 101, 110, 103, 116, 104]
def ownOk (l : List Flds.Fld) : Bool := Flds.fldsOk l && (decide (l.length < 24) && !Flds.has l lenName)
def BoolEnd (b : Bool) (w : World) (e : Ending) (w' : World) : Prop := e = .returned (.bool b) ∧ Below w.heap.size w w'
theorem ret_b {a b : Bool} (h : a = b) : Ending.returned (.bool a) = .returned (.bool b) := by rw [h]
theorem len_total {l : List Flds.Fld} {n : Nat} (h : Flds.total l ≤ n) : l.length ≤ n := by unfold Flds.total at h; omega

set_option maxHeartbeats 2000000 in
theorem spec_own (v : Value) (B : Nat) (l : List Flds.Fld) (w : World) (h : Flds.Holds w B v l) (hB : B ≤ w.heap.size) (hl : Flds.total l ≤ 1048576) :
    Calls Tryz.prog 39 #[v] w (BoolEnd (ownOk l) w) := by
  have hll := len_total hl
  have HG := Lib.hid (Flds.spec_get v B l lenName w h (Nat.le_trans hl (by decide)))
  have HA := Lib.hid (fun (w1 : World) (hb : Below w.heap.size w w1) => Flds.spec_are v B l w1 (Flds.holds_below h (hb.mono hB)) (Nat.le_trans hB hb.size) hl)
  obtain ⟨a, cap, rfl, _⟩ := Flds.shape_any h
  unfold Flds.GetEnd lenName at HG
  unfold Flds.AreEnd at HA
  have HO : Hid (ownOk l = (Flds.fldsOk l && (decide (l.length < 24) && !Flds.has l lenName))) := Lib.hid rfl
  have hv : decide (0 < (Flds.vals lenName l).length) = Flds.has l lenName := Flds.has_vals l lenName
  unfold lenName at hv HO
  rw [hv] at HG
  clear h hl hv
  generalize Flds.has l [99, 111, 110, 116, 101, 110, 116, 45, 108, 101, 110, 103, 116, 104] = q at HG HO
  generalize Tx.join (Flds.vals [99, 111, 110, 116, 101, 110, 116, 45, 108, 101, 110, 103, 116, 104] l) = t at HG
  generalize Flds.fldsOk l = z at HA HO
  unfold BoolEnd
  by_cases h24 : (l.length : Int) < 24
  · have HE : Hid (ownOk l = (z && !q)) := Lib.hid (by rw [HO.out]; have : decide (l.length < 24) = true := by simp; omega
                                                       rw [this, Bool.true_and])
    clear HO
    cases z <;> cases q
    all_goals
      go_enter Tryz.func39, Tryz.ntmps39
      go_wp2_with (fail)
      go_at_call 38
      refine HG.out.mono ?_
      rintro e w1 ⟨rfl, hb1⟩
      have HB1 := Lib.hid hb1
      clear hb1
      go_wp2_with (fail)
      go_at_call 17
      refine (HA.out _ HB1.out).mono ?_
      rintro e w2 ⟨rfl, hb2⟩
      have HB2 := Lib.hid (Base.then_below HB1.out hb2)
      clear hb2
      go_wp2
      go_ret
      exact ⟨ret_b HE.out.symm, HB2.out⟩
  · have HE : Hid (ownOk l = false) := Lib.hid (by rw [HO.out]; have : decide (l.length < 24) = false := by simp; omega
                                                   rw [this, Bool.false_and, Bool.and_false])
    clear HO
    cases z
    all_goals
      go_enter Tryz.func39, Tryz.ntmps39
      go_wp2_with (fail)
      go_at_call 38
      refine HG.out.mono ?_
      rintro e w1 ⟨rfl, hb1⟩
      have HB1 := Lib.hid hb1
      clear hb1
      go_wp2_with (fail)
      go_at_call 17
      refine (HA.out _ HB1.out).mono ?_
      rintro e w2 ⟨rfl, hb2⟩
      have HB2 := Lib.hid (Base.then_below HB1.out hb2)
      clear hb2
      go_wp2
      go_ret
      exact ⟨ret_b HE.out.symm, HB2.out⟩

set_option maxHeartbeats 2000000 in
theorem impl_own (v : Value) (B : Nat) (l : List Flds.Fld) (w : World) (h : Flds.Holds w B v l) (hB : B ≤ w.heap.size) (hl : Flds.total l ≤ 1048576) :
    Calls Tryz.prog 76 #[v] w (BoolEnd (ownOk l) w) := by
  have hll := len_total hl
  have HA := Lib.hid (Flds.impl_are v B l w h hB hl)
  have HG := Lib.hid (fun (w1 : World) (hb : Below w.heap.size w w1) => Flds.impl_has v B l lenName w1 (Flds.holds_below h (hb.mono hB)) (Nat.le_trans hB hb.size) hll)
  obtain ⟨a, cap, rfl, _⟩ := Flds.shape_any h
  unfold Flds.AreEnd at HA
  unfold lenName at HG
  have HO : Hid (ownOk l = (Flds.fldsOk l && (decide (l.length < 24) && !Flds.has l lenName))) := Lib.hid rfl
  unfold lenName at HO
  clear h hl
  generalize Flds.has l [99, 111, 110, 116, 101, 110, 116, 45, 108, 101, 110, 103, 116, 104] = q at HG HO
  generalize Flds.fldsOk l = z at HA HO
  unfold BoolEnd
  by_cases h24 : (l.length : Int) < 24
  · have HE : Hid (ownOk l = (z && !q)) := Lib.hid (by rw [HO.out]; have : decide (l.length < 24) = true := by simp; omega
                                                       rw [this, Bool.true_and])
    clear HO
    cases z with
    | false =>
      go_enter Tryz.func76, Tryz.ntmps76
      go_wp2_with (fail)
      go_at_call 25
      refine HA.out.mono ?_
      rintro e w1 ⟨rfl, hb1⟩
      have HB1 := Lib.hid hb1
      clear hb1
      go_wp2
      go_ret
      exact ⟨ret_b HE.out.symm, HB1.out⟩
    | true =>
      cases q
      all_goals
        go_enter Tryz.func76, Tryz.ntmps76
        go_wp2_with (fail)
        go_at_call 25
        refine HA.out.mono ?_
        rintro e w1 ⟨rfl, hb1⟩
        have HB1 := Lib.hid hb1
        clear hb1
        go_wp2_with (fail)
        go_at_call 96
        refine (HG.out _ HB1.out).mono ?_
        rintro e w2 ⟨rfl, hb2⟩
        have HB2 := Lib.hid (Base.then_below HB1.out hb2)
        clear hb2
        go_wp2
        go_ret
        exact ⟨ret_b HE.out.symm, HB2.out⟩
  · have HE : Hid (ownOk l = false) := Lib.hid (by rw [HO.out]; have : decide (l.length < 24) = false := by simp; omega
                                                   rw [this, Bool.false_and, Bool.and_false])
    clear HO HA HG
    go_enter Tryz.func76, Tryz.ntmps76
    go_wp2
    go_ret
    exact ⟨ret_b HE.out.symm, Below.refl _ _⟩

def rspOk (c : Int) (l : List Flds.Fld) (b : List UInt8) : Bool := decide (200 ≤ c ∧ c ≤ 599) && (ownOk l && decide (b.length ≤ 600))
theorem kept3 {w w1 : World} {T : TypeId} {a b c : Value} (hb : Below (w.alloc (.cells #[a, b, c] T)).heap.size (w.alloc (.cells #[a, b, c] T)) w1) :
    (w1.cell? ⟨w.heap.size, 0, none⟩ = some a ∧ w1.cell? ⟨w.heap.size, 1, none⟩ = some b ∧ w1.cell? ⟨w.heap.size, 2, none⟩ = some c) ∧ Below w.heap.size w w1 := by
  refine ⟨⟨?_, ?_, ?_⟩, ((Below.refl _ _).alloc (Nat.le_refl _) _).trans (hb.mono (by simp))⟩
  · rw [hb.cell (p := ⟨w.heap.size, 0, none⟩) (by simp), World.cell?_alloc_new]; rfl
  · rw [hb.cell (p := ⟨w.heap.size, 1, none⟩) (by simp), World.cell?_alloc_new]; rfl
  · rw [hb.cell (p := ⟨w.heap.size, 2, none⟩) (by simp), World.cell?_alloc_new]; rfl

set_option maxHeartbeats 2000000 in
theorem spec_isr (c : Int) (v : Value) (B : Nat) (l : List Flds.Fld) (b : List UInt8) (w : World) (h : Flds.Holds w B v l) (hB : B ≤ w.heap.size) (hl : Flds.total l ≤ 1048576) (hbl : b.length ≤ 1048576) :
    Calls Tryz.prog 14 #[.agg #[.int .i64 c, v, .string ⟨b.toArray⟩]] w (BoolEnd (rspOk c l b) w) := by
  have hsb : (⟨b.toArray⟩ : ByteArray).size = b.length := by simp [ByteArray.size]
  have HB0 : Hid (Below w.heap.size w (w.alloc (.cells #[.int .i64 c, v, .string ⟨b.toArray⟩] 32))) := Lib.hid ((Below.refl _ _).alloc (Nat.le_refl _) _)
  have HS := Lib.hid (spec_own v B l _ (Flds.holds_below h (HB0.out.mono hB)) (Nat.le_trans hB HB0.out.size) hl)
  have HK := Lib.hid (fun w1 => kept3 (w := w) (w1 := w1) (T := 32) (a := .int .i64 c) (b := v) (c := .string ⟨b.toArray⟩))
  have HO : Hid (rspOk c l b = (decide (200 ≤ c ∧ c ≤ 599) && (ownOk l && decide (b.length ≤ 600)))) := Lib.hid rfl
  clear h hl
  unfold BoolEnd at HS ⊢
  generalize ownOk l = z at HS HO
  by_cases hc : 200 ≤ c ∧ c ≤ 599
  · have HE : Hid (rspOk c l b = (z && decide ((b.length : Int) ≤ 600))) := Lib.hid (by rw [HO.out, decide_eq_true hc, Bool.true_and]; congr 1; rw [Bool.eq_iff_iff]; simp; omega)
    obtain ⟨h1, h2⟩ := hc
    clear HO
    cases z
    all_goals
      go_enter Tryz.func14, Tryz.ntmps14
      go_wp2_with (fail)
      go_at_call 20
      refine (NumDiv.in_yes _ _ _ _ h1 h2).mono ?_
      rintro e w0 ⟨rfl, rfl⟩
      go_wp2_with (fail)
      go_at_call 39
      refine HS.out.mono ?_
      rintro e w1 ⟨rfl, hb1⟩
      obtain ⟨⟨q0, q1, q2⟩, hbw⟩ := HK.out _ hb1
      have HBW := Lib.hid hbw
      clear hb1 hbw
      go_wp2
      go_ret
      exact ⟨ret_b (by rw [HE.out]; simp), HBW.out⟩
  · have HE : Hid (rspOk c l b = false) := Lib.hid (by rw [HO.out, decide_eq_false hc, Bool.false_and])
    have HC := Lib.hid (show c < 200 ∨ 599 < c by omega)
    clear HO hc
    go_enter Tryz.func14, Tryz.ntmps14
    go_wp2_with (fail)
    go_at_call 20
    refine (NumDiv.in_no _ _ _ _ HC.out).mono ?_
    rintro e w0 ⟨rfl, rfl⟩
    go_wp2
    go_ret
    exact ⟨ret_b HE.out.symm, HB0.out⟩

set_option maxHeartbeats 2000000 in
theorem impl_valid_rsp (c : Int) (v : Value) (B : Nat) (l : List Flds.Fld) (b : List UInt8) (w : World) (h : Flds.Holds w B v l) (hB : B ≤ w.heap.size) (hl : Flds.total l ≤ 1048576) (hbl : b.length ≤ 1048576) :
    Calls Tryz.prog 49 #[.agg #[.int .i64 c, v, .string ⟨b.toArray⟩]] w (BoolEnd (rspOk c l b) w) := by
  have hsb : (⟨b.toArray⟩ : ByteArray).size = b.length := by simp [ByteArray.size]
  have HB0 : Hid (Below w.heap.size w (w.alloc (.cells #[.int .i64 c, v, .string ⟨b.toArray⟩] 32))) := Lib.hid ((Below.refl _ _).alloc (Nat.le_refl _) _)
  have HS := Lib.hid (impl_own v B l _ (Flds.holds_below h (HB0.out.mono hB)) (Nat.le_trans hB HB0.out.size) hl)
  have HK := Lib.hid (fun w1 => kept3 (w := w) (w1 := w1) (T := 32) (a := .int .i64 c) (b := v) (c := .string ⟨b.toArray⟩))
  have HO : Hid (rspOk c l b = (decide (200 ≤ c ∧ c ≤ 599) && (ownOk l && decide (b.length ≤ 600)))) := Lib.hid rfl
  clear h hl
  unfold BoolEnd at HS ⊢
  generalize ownOk l = z at HS HO
  by_cases hc : 200 ≤ c ∧ c ≤ 599
  · have HE : Hid (rspOk c l b = (z && decide ((b.length : Int) ≤ 600))) := Lib.hid (by rw [HO.out, decide_eq_true hc, Bool.true_and]; congr 1; rw [Bool.eq_iff_iff]; simp; omega)
    obtain ⟨h1, h2⟩ := hc
    clear HO
    cases z
    all_goals
      go_enter Tryz.func49, Tryz.ntmps49
      go_wp2_with (fail)
      go_at_call 76
      refine HS.out.mono ?_
      rintro e w1 ⟨rfl, hb1⟩
      obtain ⟨⟨q0, q1, q2⟩, hbw⟩ := HK.out _ hb1
      have HBW := Lib.hid hbw
      clear hb1 hbw
      go_wp2
      go_ret
      exact ⟨ret_b (by rw [HE.out]; simp), HBW.out⟩
  · have HE : Hid (rspOk c l b = false) := Lib.hid (by rw [HO.out, decide_eq_false hc, Bool.false_and])
    clear HO HS HK
    by_cases h1 : 200 ≤ c
    · have h2 : ¬ c ≤ 599 := by omega
      clear hc
      go_enter Tryz.func49, Tryz.ntmps49
      go_wp2
      go_ret
      exact ⟨ret_b HE.out.symm, HB0.out⟩
    · clear hc
      go_enter Tryz.func49, Tryz.ntmps49
      go_wp2
      go_ret
      exact ⟨ret_b HE.out.symm, HB0.out⟩

end Go.Proofs.YtjjelbijbbnmcaaGreatDoor.Msg

/-
  CONTRACT of the model's l5Get: the value of a field.
-/
namespace Go.Proofs.YtjjelbijbbnmcaaGreatDoor.Flds
open Go Go.RowKit
set_option linter.unusedVariables false
set_option maxRecDepth 1000000
/-- The value of the fields with this name. -/
def got (n : List UInt8) (l : List Fld) : List UInt8 := Tx.join (vals n l)
def GotEnd (t : List UInt8) (w : World) (e : Ending) (w' : World) : Prop := e = .returned (.string ⟨t.toArray⟩) ∧ Below w.heap.size w w'
theorem vals_nonempty {n : List UInt8} {l : List Fld} (h : ¬ 0 < (vals n l).length) : got n l = [] := by
  unfold got; rw [List.eq_nil_of_length_eq_zero (l := vals n l) (by omega)]; rfl
theorem got_len (n : List UInt8) (l : List Fld) : (got n l).length ≤ 3 * total l := by
  have h1 := Tx.join_len (vals n l) (vals n l).length (Nat.le_refl _)
  rw [List.take_length] at h1
  have h2 := Tx.pre_le (vals n l) (vals n l).length
  have h3 := vals_total n l
  have h4 := vals_le n l l.length
  rw [List.take_length] at h4
  unfold got
  have h5 : l.length ≤ total l := by unfold total; omega
  unfold Strs.total at h3
  omega
theorem shape_lget {w : World} {B : Nat} {v : Value} {l : List Fld} (h : Holds w B v l) : ∃ a cap, v = .slice a l.length cap ∧ (0 < l.length → ∃ b off, a = some ⟨b, off, none⟩ ∧ b < B ∧ At w b off l) := by
  rcases h with ⟨rfl, a, cap, rfl⟩ | ⟨h0, b, off, cap, rfl, hb, _, hc⟩
  · exact ⟨a, cap, rfl, fun h => by simp at h⟩
  · exact ⟨_, cap, rfl, fun _ => ⟨b, off, rfl, hb, hc⟩⟩

theorem spec_lget (v : Value) (B : Nat) (l : List Fld) (n : List UInt8) (w : World) (h : Holds w B v l) (hl : total l ≤ 67108864) :
    Calls Tryz.prog 13 #[v, .string ⟨n.toArray⟩] w (GotEnd (got n l) w) := by
  have HG := Lib.hid (spec_get v B l n w h hl)
  unfold GetEnd at HG
  unfold got GotEnd
  obtain ⟨a, cap, rfl, _⟩ := shape_lget h
  clear h
  generalize decide (0 < (vals n l).length) = q at HG
  generalize Tx.join (vals n l) = t at HG ⊢
  go_enter Tryz.func13, Tryz.ntmps13
  go_wp2_with (fail)
  go_at_call 38
  refine HG.out.mono ?_
  rintro e w1 ⟨rfl, hb1⟩
  have HB1 := Lib.hid hb1
  clear hb1
  go_wp2
  go_ret
  exact ⟨rfl, HB1.out⟩
end Go.Proofs.YtjjelbijbbnmcaaGreatDoor.Flds

/-
  PLAIN FACTS OF DECIMAL NUMERALS: the digits of a number as the model writes them, one in front of the other; no word of the program stands here.
-/
namespace Go.Proofs.YtjjelbijbbnmcaaGreatDoor.Fmt
open Go Go.RowKit
set_option linter.unusedVariables false
set_option maxRecDepth 1000000

/-- the digits of u; nothing for 0. -/
def dd (u : Nat) : List UInt8 := if u = 0 then [] else Lib.decDigits u
theorem dd_zero : dd 0 = [] := rfl
theorem dd_pos {u : Nat} (h : u ≠ 0) : dd u = Lib.decDigits u := by unfold dd; rw [if_neg h]
theorem dd_step {u : Nat} (h : u ≠ 0) : dd u = dd (u / 10) ++ [UInt8.ofNat (48 + u % 10)] := by
  rw [dd_pos h, Lib.decDigits]
  by_cases hs : u < 10
  · rw [dif_pos hs, show u / 10 = 0 by omega, dd_zero, show u % 10 = u by omega]; rfl
  · rw [dif_neg hs, dd_pos (by omega)]
theorem nDigits_le (k : Nat) : ∀ u : Nat, u < 10 ^ k → Lib.nDigits u ≤ max k 1 := by
  induction k with
  | zero => intro u h; rw [Lib.nDigits_small (by simp at h; omega)]; omega
  | succ k ih =>
    intro u h
    by_cases hs : u < 10
    · rw [Lib.nDigits_small hs]; omega
    · rw [Lib.nDigits_big hs]
      have hk : k ≠ 0 := by rintro rfl; simp at h; omega
      have := ih (u / 10) (by rw [Nat.pow_succ] at h; omega)
      omega
theorem dd_len {u : Nat} (h : u ≤ 9223372036854775808) : (dd u).length ≤ 19 := by
  unfold dd
  split
  · simp
  · rw [Lib.decDigits_length]
    have := nDigits_le 19 u (by omega)
    omega
theorem itoa_zero : Lib.itoa 0 = [48] := by decide +kernel
theorem itoa_pos {n : Int} (h : 0 < n) : Lib.itoa n = dd n.natAbs := by
  unfold Lib.itoa; rw [if_neg (by omega), dd_pos (by omega)]; congr 1; omega
theorem itoa_neg {n : Int} (h : n < 0) : Lib.itoa n = 45 :: dd n.natAbs := by
  unfold Lib.itoa; rw [if_pos h, dd_pos (by omega)]
theorem itoa_len {n : Int} (h0 : -9223372036854775808 ≤ n) (h1 : n ≤ 9223372036854775807) : 1 ≤ (Lib.itoa n).length ∧ (Lib.itoa n).length ≤ 20 := by
  have hl := dd_len (u := n.natAbs) (by omega)
  rcases Int.lt_trichotomy n 0 with h | h | h
  · rw [itoa_neg h]; simp; omega
  · subst h; rw [itoa_zero]; simp
  · rw [itoa_pos h]
    refine ⟨?_, by omega⟩
    rw [dd_step (by omega)]; simp
end Go.Proofs.YtjjelbijbbnmcaaGreatDoor.Fmt

/-
  PLAIN FACTS of texts that are numbers: what the decimal numeral of a number is worth, and that no text is the numeral of two numbers. No word of the program stands here.
-/
namespace Go.Proofs.YtjjelbijbbnmcaaGreatDoor.Par
open Go Go.RowKit
set_option linter.unusedVariables false
set_option maxRecDepth 1000000

/-- what the bytes are worth, read as digits behind acc. -/
def stp (a : Nat) (c : UInt8) : Nat := 10 * a + (c.toNat - 48)
def val (acc : Nat) (l : List UInt8) : Nat := l.foldl stp acc
theorem val_nil (a : Nat) : val a [] = a := by unfold val; rw [List.foldl_nil]
theorem val_cons' (a : Nat) (c : UInt8) (r : List UInt8) : val a (c :: r) = val (stp a c) r := by unfold val; rw [List.foldl_cons]
theorem val_cons (a : Nat) (c : UInt8) (r : List UInt8) : val a (c :: r) = val (10 * a + (c.toNat - 48)) r := by rw [val_cons']; unfold stp; rfl
theorem val_one (a : Nat) (c : UInt8) : val a [c] = 10 * a + (c.toNat - 48) := by rw [val_cons', val_nil]; unfold stp; rfl
def isDig (c : UInt8) : Bool := decide (48 ≤ c.toNat ∧ c.toNat ≤ 57)
theorem val_append (l r : List UInt8) (a : Nat) : val a (l ++ r) = val (val a l) r := by unfold val; rw [List.foldl_append]
theorem dig_val (d : Nat) (h : d < 10) : (UInt8.ofNat (48 + d)).toNat = 48 + d := by rw [UInt8.toNat_ofNat']; omega
theorem dec_val (u : Nat) : val 0 (Lib.decDigits u) = u := by
  induction u using Nat.strongRecOn with
  | _ u ih =>
    rw [Lib.decDigits]
    by_cases h : u < 10
    · rw [dif_pos h, val_one, dig_val u h]; omega
    · rw [dif_neg h, val_append, ih (u / 10) (by omega), val_one, dig_val (u % 10) (by omega)]; omega
theorem dec_dig (u : Nat) : ∀ c ∈ Lib.decDigits u, 48 ≤ c.toNat ∧ c.toNat ≤ 57 := by
  induction u using Nat.strongRecOn with
  | _ u ih =>
    rw [Lib.decDigits]
    by_cases h : u < 10
    · rw [dif_pos h]; intro c hc
      rw [List.mem_singleton] at hc; subst hc; rw [dig_val u h]; omega
    · rw [dif_neg h]; intro c hc
      rcases List.mem_append.1 hc with k | k
      · exact ih (u / 10) (by omega) c k
      · rw [List.mem_singleton] at k; subst k
        rw [dig_val (u % 10) (by omega)]; omega
theorem itoa_nat {v : Int} (h : 0 ≤ v) : Lib.itoa v = Lib.decDigits v.toNat := by unfold Lib.itoa; rw [if_neg (by omega)]
theorem itoa_val {v : Int} (h : 0 ≤ v) : (val 0 (Lib.itoa v) : Int) = v := by rw [itoa_nat h, dec_val]; omega
theorem itoa_inj {u v : Int} (hu : 0 ≤ u) (hv : 0 ≤ v) (h : Lib.itoa u = Lib.itoa v) : u = v := by rw [← itoa_val hu, ← itoa_val hv, h]

/-- (v, b) is what ParseInt answers at the bytes l. -/
def PS (l : List UInt8) (v : Int) (b : Bool) : Prop :=
  (b = true ∧ 0 ≤ v ∧ v ≤ 1000000000000 ∧ Lib.itoa v = l) ∨ (b = false ∧ v = 0 ∧ ∀ u : Int, 0 ≤ u → u ≤ 1000000000000 → Lib.itoa u ≠ l)
theorem PS.uniq {l : List UInt8} {v v' : Int} {b b' : Bool} (h : PS l v b) (h' : PS l v' b') : v = v' ∧ b = b' := by
  rcases h with ⟨rfl, h1, h2, h3⟩ | ⟨rfl, rfl, hn⟩ <;> rcases h' with ⟨rfl, k1, k2, k3⟩ | ⟨rfl, rfl, kn⟩
  · exact ⟨itoa_inj h1 k1 (h3.trans k3.symm), rfl⟩
  · exact absurd h3 (kn _ h1 h2)
  · exact absurd k3 (hn _ k1 k2)
  · exact ⟨rfl, rfl⟩

/-- digits of at most 18 places are read by the library's reader as they are worth. -/
theorem uint_val (l : List UInt8) : ∀ (k acc : Nat), (∀ c ∈ l, 48 ≤ c.toNat ∧ c.toNat ≤ 57) → acc < 10 ^ k → k + l.length ≤ 18 → Lib.parseUint10 acc l = .ok (val acc l) := by
  induction l with
  | nil => intro k acc _ _ _; rw [Lib.parseUint10, val_nil]
  | cons c r ih =>
    intro k acc hd ha hl
    have hc := hd c (List.mem_cons_self ..)
    have hl' : r.length + 1 = (c :: r).length := rfl
    have hp : 10 ^ (k + 1) = 10 ^ k * 10 := Nat.pow_succ ..
    have hq : 10 ^ k ≤ 10 ^ 17 := Nat.pow_le_pow_right (by omega) (by omega)
    have hn : 10 * acc + (c.toNat - 48) < 10 ^ (k + 1) := by omega
    have h1 : ¬ 1844674407370955162 ≤ acc := by omega
    have h2 : ¬ 18446744073709551616 ≤ acc * 10 + (c.toNat - 48) := by omega
    have hr := ih (k + 1) _ (fun x hx => hd x (List.mem_cons_of_mem _ hx)) hn (by omega)
    rw [Lib.parseUint10, if_pos hc, if_neg h1, if_neg h2, val_cons, Nat.mul_comm acc 10]
    exact hr
theorem atoi_itoa {u : Int} (h0 : 0 ≤ u) (h1 : u ≤ 1000000000000) : Lib.atoiAll (Lib.itoa u) = .ok u := by
  have hl : (Lib.decDigits u.toNat).length ≤ 13 := by
    rw [Lib.decDigits_length]
    have := Fmt.nDigits_le 13 u.toNat (by omega)
    omega
  have hv := uint_val (Lib.decDigits u.toNat) 0 0 (dec_dig _) (by decide) (by omega)
  rw [dec_val] at hv
  have hd := dec_dig u.toNat
  rw [itoa_nat h0]
  have hne : Lib.decDigits u.toNat ≠ [] := by
    intro e
    have := congrArg List.length e
    rw [Lib.decDigits_length] at this
    have := Lib.nDigits_pos u.toNat
    simp at *; omega
  match hm : Lib.decDigits u.toNat, hne with
  | c :: r, _ =>
    rw [hm] at hv hd
    have hc := hd c (List.mem_cons_self ..)
    rw [Lib.atoiAll_plain c r (by omega) (by omega)]
    unfold Lib.parseMag
    rw [if_neg (by simp), hv]
    show (if 9223372036854775808 ≤ u.toNat then Lib.NumEnd.range else .ok (u.toNat : Int)) = _
    rw [if_neg (by omega), show (u.toNat : Int) = u by omega]

/-- m is what the first k bytes are worth, all of them digits. -/
def Good (s : ByteArray) (k m : Nat) : Prop := m = val 0 (s.data.toList.take k) ∧ m < 10 ^ k ∧ ∀ c ∈ s.data.toList.take k, 48 ≤ c.toNat ∧ c.toNat ≤ 57
theorem good_zero (s : ByteArray) : Good s 0 0 := ⟨by simp [val_nil], by simp, by simp⟩
theorem take_snoc (s : ByteArray) (k : Nat) (h : k < s.size) : s.data.toList.take (k + 1) = s.data.toList.take k ++ [s[k]] := by
  rw [List.take_succ_eq_append_getElem (by simpa using h)]; rfl
theorem good_step {s : ByteArray} {k m : Nat} (h : k < s.size) (g : Good s k m) (h1 : 48 ≤ (s[k].toNat : Int)) (h2 : (s[k].toNat : Int) ≤ 57) : Good s (k + 1) (10 * m + (s[k].toNat - 48)) := by
  obtain ⟨rfl, g2, g3⟩ := g
  refine ⟨?_, ?_, ?_⟩
  · rw [take_snoc s k h, val_append, val_one]
  · have : 10 ^ (k + 1) = 10 ^ k * 10 := Nat.pow_succ ..
    omega
  · rw [take_snoc s k h]
    intro c hc
    rcases List.mem_append.1 hc with hc | hc
    · exact g3 c hc
    · rw [List.mem_singleton] at hc; subst hc; omega
theorem good_bound {s : ByteArray} {k m : Nat} (g : Good s k m) (hk : k ≤ 13) : m < 10000000000000 := by
  have : 10 ^ k ≤ 10 ^ 13 := Nat.pow_le_pow_right (by omega) hk
  have e : (10 : Nat) ^ 13 = 10000000000000 := by decide
  have := g.2.1
  omega
theorem itoa_short {u : Int} (h0 : 0 ≤ u) (h1 : u ≤ 1000000000000) : 1 ≤ (Lib.itoa u).length ∧ (Lib.itoa u).length ≤ 13 := by
  rw [itoa_nat h0, Lib.decDigits_length]
  have := Fmt.nDigits_le 13 u.toNat (by omega)
  have := Lib.nDigits_pos u.toNat
  omega
theorem size_len (s : ByteArray) : s.data.toList.length = s.size := Array.length_toList
theorem ps_short {s : ByteArray} (h : (s.size : Int) < 1 ∨ 13 < (s.size : Int)) : PS s.data.toList 0 false := by
  refine Or.inr ⟨rfl, rfl, fun u h0 h1 e => ?_⟩
  have := itoa_short h0 h1
  rw [e] at this
  have hz := size_len s
  omega
theorem ps_bad {s : ByteArray} {k : Nat} (h : k < s.size) (hc : (s[k].toNat : Int) < 48 ∨ 57 < (s[k].toNat : Int)) : PS s.data.toList 0 false := by
  refine Or.inr ⟨rfl, rfl, fun u h0 h1 e => ?_⟩
  have hm : s[k] ∈ s.data.toList := by
    have : s[k] = s.data.toList[k]'(by simpa using h) := rfl
    rw [this]; exact List.getElem_mem _
  rw [← e, itoa_nat h0] at hm
  have := dec_dig _ _ hm
  omega
theorem good_val {s : ByteArray} {m : Nat} (g : Good s s.size m) : m = val 0 s.data.toList := by
  have hz := size_len s
  have := g.1
  rwa [← hz, List.take_length] at this
theorem ps_great {s : ByteArray} {m : Nat} (g : Good s s.size m) (h : 1000000000000 < (m : Int)) : PS s.data.toList 0 false := by
  refine Or.inr ⟨rfl, rfl, fun u h0 h1 e => ?_⟩
  have := itoa_val h0
  rw [e, ← good_val g] at this
  omega
theorem ps_other {s : ByteArray} {m : Nat} (g : Good s s.size m) (h : Lib.itoa m ≠ s.data.toList) : PS s.data.toList 0 false := by
  refine Or.inr ⟨rfl, rfl, fun u h0 h1 e => ?_⟩
  have := itoa_val h0
  rw [e, ← good_val g] at this
  rw [this] at h
  exact h e
theorem ps_is {s : ByteArray} {m : Nat} (h : (m : Int) ≤ 1000000000000) (e : Lib.itoa m = s.data.toList) : PS s.data.toList m true := Or.inl ⟨rfl, by omega, h, e⟩
end Go.Proofs.YtjjelbijbbnmcaaGreatDoor.Par
