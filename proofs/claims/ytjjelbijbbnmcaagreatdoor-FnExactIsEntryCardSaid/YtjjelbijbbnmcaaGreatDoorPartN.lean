/-
  CONTRACTS AND PLAIN FACTS, several texts in one; each says in its own words what it proves.
-/
import Derived.Test.YtjjelbijbbnmcaaGreatDoorPartM
import Derived.LoopTactic
import Derived.Laws.IdiomStrings
import Derived.Laws.Concat
import Derived.Test.YtjjelbijbbnmcaaGreatDoorPartC
import Derived.Test.YtjjelbijbbnmcaaGreatDoorPartA
import Derived.Outline
import Derived.Test.YtjjelbijbbnmcaaGreatDoorPartD
import Derived.Lib.SmallJoins
import Derived.Test.YtjjelbijbbnmcaaGreatDoorPartL

/-
  CONTRACT of the model's FormatInt: at every integer of 64 bits it returns the decimal numeral; nothing that was there before is changed.
-/
namespace Go.Proofs.YtjjelbijbbnmcaaGreatDoor.Fmt
open Go Go.RowKit
set_option linter.unusedVariables false
set_option maxRecDepth 1000000

theorem ret_str {a b : List UInt8} (h : a = b) : Ending.returned (.string ⟨a.toArray⟩) = .returned (.string ⟨b.toArray⟩) := by rw [h]

/-- A byte in a new block of its own, read back as a string. -/
theorem byteback (wr : World) (z : Int) (h0 : 0 ≤ z) (h1 : z ≤ 255) :
    (convert 103 9 (.slice (some ⟨wr.heap.size, 0, none⟩) 1 1)).run Tryz.prog (wr.alloc (.cells #[.int .u8 z] 5)) = .ok (.string ⟨[UInt8.ofNat z.toNat].toArray⟩) (wr.alloc (.cells #[.int .u8 z] 5)) := by
  have h := run_convert_bytes_back (P := Tryz.prog) (wr.alloc (.cells #[.int .u8 z] 5)) 103 9 5 ⟨wr.heap.size, 0, none⟩ 1 [UInt8.ofNat z.toNat] Tryz.underlying103 Tryz.underlying5 Tryz.underlying9 (fun j hj => by
    have hj0 : j = 0 := by simpa using hj
    subst hj0
    have : ((UInt8.ofNat z.toNat).toNat : Int) = z := by
      rw [UInt8.toNat_ofNat']; omega
    show World.cell? _ ⟨wr.heap.size, 0 + 0, none⟩ = _
    rw [World.cell?_alloc_new]
    simp; omega)
  exact h
theorem addone (c : UInt8) (suf : List UInt8) (h : suf.length ≤ 40) (W : World) :
    (Op.stringOp .add ⟨[c].toArray⟩ ⟨suf.toArray⟩).run Tryz.prog W = .ok (.string ⟨(c :: suf).toArray⟩) W := by
  rw [run_string_add_sum W _ _ (by simp [ByteArray.size]; omega)]; rfl

theorem step (u : Nat) (suf : List UInt8) (hz : u ≠ 0) (wr : World) : ∃ c : UInt8, dd (u / 10) ++ (c :: suf) = dd u ++ suf ∧
    (convert 103 9 (.slice (some ⟨wr.heap.size, 0, none⟩) 1 1)).run Tryz.prog (wr.alloc (.cells #[.int .u8 (48 + (u : Int) % 10)] 5)) = .ok (.string ⟨[c].toArray⟩) (wr.alloc (.cells #[.int .u8 (48 + (u : Int) % 10)] 5)) := by
  refine ⟨_, ?_, byteback wr _ (by omega) (by omega)⟩
  rw [dd_step hz, show (48 + (u : Int) % 10).toNat = 48 + u % 10 by omega, List.append_assoc]; rfl
theorem step_len (u m : Nat) (c : UInt8) (suf : List UInt8) (h : m ≤ 9223372036854775808) (e : dd (u / 10) ++ (c :: suf) = dd m) : (c :: suf).length ≤ 19 := by
  have h19 := dd_len h
  rw [← e, List.length_append] at h19
  omega

set_option maxRecDepth 1000000 in
set_option maxHeartbeats 400000 in
theorem spec_pos (n : Int) (h0 : 0 < n) (h1 : n ≤ 9223372036854775807) (w : World) :
    Calls Tryz.prog 69 #[.int .i64 n] w fun e w' => e = .returned (.string ⟨(Lib.itoa n).toArray⟩) ∧ Below w.heap.size w w' := by
  have hn : ¬ n = 0 := by omega
  have hns : ¬ n < 0 := by omega
  have HI := Lib.hid (itoa_pos h0)
  go_enter Tryz.func69, Tryz.ntmps69
  go_wp2
  go_loopw [3, 4] (fun s x wr => ∃ (u : Nat) (suf : List UInt8), x = .int .i64 u ∧ (u : Int) ≤ n ∧ s = .string ⟨suf.toArray⟩ ∧ suf.length ≤ 19 ∧ dd u ++ suf = dd n.natAbs ∧ Below w.heap.size w wr) (fun _ x _ => (intOf x).toNat)
  case atStart => exact ⟨n.natAbs, [], by rw [Int.natAbs_of_nonneg (by omega)], by omega, rfl, by simp, by simp, Below.refl _ _⟩
  case round =>
    obtain ⟨u, suf, rfl, hu, rfl, hsl, hdd, hb⟩ := hrel
    have HD := Lib.hid hdd
    clear hdd
    by_cases hz : u = 0
    · subst hz
      go_wp2
      go_ret
      refine ⟨ret_str ?_, hb⟩
      rw [HI.out, ← HD.out, dd_zero]; rfl
    · have hz' : 0 < (u : Int) := by omega
      obtain ⟨c, hst, hcv⟩ := step u suf hz wr
      have hadd := addone c suf (by omega)
      have HL := Lib.hid (step_len u n.natAbs c suf (by omega) (hst.trans HD.out))
      have HS := Lib.hid (hst.trans HD.out)
      clear hst
      go_wp2
      go_roundw
      case rel => exact ⟨u / 10, _, by go_num, by omega, rfl, HL.out, HS.out, hb.alloc hb.size _⟩
      case measure => simp [intOf]; omega

theorem neg_mod (u : Nat) : (-(u : Int)).tmod 10 = -((u : Int) % 10) := by
  rw [Int.neg_tmod]; congr 1
theorem neg_div (u : Nat) : (-(u : Int)).tdiv 10 = -((u : Int) / 10) := by
  rw [Int.neg_tdiv]; congr 1

set_option maxRecDepth 1000000 in
set_option maxHeartbeats 800000 in
theorem spec_neg (n : Int) (h0 : -9223372036854775808 ≤ n) (h1 : n < 0) (w : World) :
    Calls Tryz.prog 69 #[.int .i64 n] w fun e w' => e = .returned (.string ⟨(Lib.itoa n).toArray⟩) ∧ Below w.heap.size w w' := by
  have hn : ¬ n = 0 := by omega
  have HI := Lib.hid (itoa_neg h1)
  go_enter Tryz.func69, Tryz.ntmps69
  go_wp2
  go_loopw [3, 4] (fun s x wr => ∃ (u : Nat) (suf : List UInt8), x = .int .i64 (-(u : Int)) ∧ n ≤ -(u : Int) ∧ s = .string ⟨suf.toArray⟩ ∧ suf.length ≤ 19 ∧ dd u ++ suf = dd n.natAbs ∧ Below w.heap.size w wr) (fun _ x _ => (-(intOf x)).toNat)
  case atStart => exact ⟨n.natAbs, [], by rw [show -(n.natAbs : Int) = n by omega], by omega, rfl, by simp, by simp, Below.refl _ _⟩
  case round =>
    obtain ⟨u, suf, rfl, hu, rfl, hsl, hdd, hb⟩ := hrel
    have HD := Lib.hid hdd
    clear hdd
    by_cases hz : u = 0
    · subst hz
      have hadd := addone 45 suf (by omega)
      go_wp2
      go_ret
      refine ⟨ret_str ?_, hb⟩
      rw [HI.out, ← HD.out, dd_zero]; rfl
    · have hz' : 0 < (u : Int) := by omega
      obtain ⟨c, hst, hcv⟩ := step u suf hz wr
      have hadd := addone c suf (by omega)
      have HL := Lib.hid (step_len u n.natAbs c suf (by omega) (hst.trans HD.out))
      have HS := Lib.hid (hst.trans HD.out)
      clear hst
      have htm := neg_mod u
      have htd := neg_div u
      by_cases hm : (u : Int) % 10 = 0
      · rw [hm, show (48 : Int) + 0 = 48 from rfl] at hcv
        go_wp2
        go_roundw
        case rel => exact ⟨u / 10, _, by go_num, by omega, rfl, HL.out, HS.out, hb.alloc hb.size _⟩
        case measure => simp [intOf]; omega
      · go_wp2
        go_roundw
        case rel => exact ⟨u / 10, _, by go_num, by omega, rfl, HL.out, HS.out, hb.alloc hb.size _⟩
        case measure => simp [intOf]; omega

theorem spec_zero (w : World) :
    Calls Tryz.prog 69 #[.int .i64 0] w fun e w' => e = .returned (.string ⟨(Lib.itoa 0).toArray⟩) ∧ Below w.heap.size w w' := by
  have HI := Lib.hid itoa_zero
  go_enter Tryz.func69, Tryz.ntmps69
  go_wp2
  go_ret
  exact ⟨by rw [HI.out]; rfl, Below.refl _ _⟩

/-- The model's FormatInt, at every integer of 64 bits. -/
theorem spec_fmt (n : Int) (h0 : -9223372036854775808 ≤ n) (h1 : n ≤ 9223372036854775807) (w : World) :
    Calls Tryz.prog 69 #[.int .i64 n] w fun e w' => e = .returned (.string ⟨(Lib.itoa n).toArray⟩) ∧ Below w.heap.size w w' := by
  rcases Int.lt_trichotomy n 0 with h | h | h
  · exact spec_neg n h0 h w
  · subst h; exact spec_zero w
  · exact spec_pos n h h1 w
end Go.Proofs.YtjjelbijbbnmcaaGreatDoor.Fmt

/-
  CONTRACT of the model's ParseInt: at every text it answers the number whose decimal numeral the text is, if it lies between 0 and the greatest integer that is read; nothing that was there before is changed.
-/
namespace Go.Proofs.YtjjelbijbbnmcaaGreatDoor.Par
open Go Go.RowKit
set_option linter.unusedVariables false
set_option maxRecDepth 1000000

theorem list_eq {l : List UInt8} {s : ByteArray} (h : (!l == s.toList) = false) : l = s.data.toList := by
  rw [← Go.ByteArray.toList_eq]
  simpa using h
theorem list_ne {l : List UInt8} {s : ByteArray} (h : (!l == s.toList) = true) : l ≠ s.data.toList := by
  rw [← Go.ByteArray.toList_eq]
  simpa using h
/-- How ParseInt ends. -/
def Parsed (l : List UInt8) (w : World) (e : Ending) (w' : World) : Prop := ∃ v b, PS l v b ∧ e = .returned (.tuple #[.int .i64 v, .bool b]) ∧ Below w.heap.size w w'

end Go.Proofs.YtjjelbijbbnmcaaGreatDoor.Par

/-
  CONTRACT of the program's FormatInt: at every integer of 64 bits, where the library's table of powers of ten reads as it is written, it returns the decimal numeral; nothing that was there before is changed.
-/
namespace Go.Proofs.YtjjelbijbbnmcaaGreatDoor.Fmt
open Go Go.RowKit
set_option linter.unusedVariables false
set_option maxRecDepth 1000000

/-- The library's table of powers of ten, as it is written. -/
def Tens (w : World) : Prop := Lib.TabIs Tryz.prog w "internal/strconv.uint64pow10" .u64 Lib.pow10Tab
theorem tens_below {W w1 : World} (h : Tens W) (hb : Below W.heap.size W w1) : Tens w1 := Base.var_below h hb

theorem impl_fmt (n : Int) (h0 : -9223372036854775808 ≤ n) (h1 : n ≤ 9223372036854775807) (w : World) (ht : Tens w) :
    Calls Tryz.prog 126 #[.int .i64 n] w fun e w' => e = .returned (.string ⟨(Lib.itoa n).toArray⟩) ∧ Below w.heap.size w w' := by
  go_enter Tryz.func126, Tryz.ntmps126
  go_wp2_with (go_at_call 141; refine (Tryz.strconv_Itoa n h0 h1 _ ht).mono ?_; rintro e w' ⟨rfl, k, os, rfl⟩)
  go_ret
  exact ⟨rfl, Base.below_grow_drewN _ _ _⟩
end Go.Proofs.YtjjelbijbbnmcaaGreatDoor.Fmt

/-
  CONTRACT of the program's ParseInt: at every text of at most 2 to the 48 bytes, where the library's table of powers of ten and its two errors read as they are written, it answers the number whose decimal numeral the text is, if it lies between 0 and the greatest integer that is read; nothing that was there before is changed.
-/
namespace Go.Proofs.YtjjelbijbbnmcaaGreatDoor.Par
open Go Go.RowKit
set_option linter.unusedVariables false
set_option maxRecDepth 1000000

/-- The library's two errors are there. -/
def Errs (w : World) : Prop := (∃ tp p, w.var? Tryz.prog "strconv.ErrSyntax" = some #[.iface tp p]) ∧ (∃ tp p, w.var? Tryz.prog "strconv.ErrRange" = some #[.iface tp p])
theorem errs_below {W w1 : World} (h : Errs W) (hb : Below W.heap.size W w1) : Errs w1 := by
  obtain ⟨⟨tp, p, h1⟩, ⟨tq, q, h2⟩⟩ := h
  exact ⟨⟨tp, p, Base.var_below h1 hb⟩, ⟨tq, q, Base.var_below h2 hb⟩⟩


theorem ps_noatoi {s : ByteArray} (h : ∀ v, Lib.atoiAll s.data.toList ≠ .ok v) : PS s.data.toList 0 false := by
  refine Or.inr ⟨rfl, rfl, fun u h0 h1 e => ?_⟩
  exact h u (e ▸ atoi_itoa h0 h1)
theorem ps_out {s : ByteArray} {v : Int} (h : Lib.atoiAll s.data.toList = .ok v) (hv : v < 0 ∨ 1000000000000 < v) : PS s.data.toList 0 false := by
  refine Or.inr ⟨rfl, rfl, fun u h0 h1 e => ?_⟩
  have := atoi_itoa h0 h1
  rw [e, h] at this
  injection this with this
  omega
theorem ps_not {s : ByteArray} {v : Int} (h : Lib.atoiAll s.data.toList = .ok v) (hv : Lib.itoa v ≠ s.data.toList) : PS s.data.toList 0 false := by
  refine Or.inr ⟨rfl, rfl, fun u h0 h1 e => ?_⟩
  have := atoi_itoa h0 h1
  rw [e, h] at this
  injection this with this
  exact hv (this ▸ e)

end Go.Proofs.YtjjelbijbbnmcaaGreatDoor.Par

/-
  CONTRACTS of ParseInt on both sides as a function of the text.
-/
namespace Go.Proofs.YtjjelbijbbnmcaaGreatDoor.Pin
open Go Go.RowKit
set_option linter.unusedVariables false
set_option maxRecDepth 1000000

/-- What ParseInt answers, as a function. -/
def pin (l : List UInt8) : Int × Bool := if Lib.itoa (Par.val 0 l : Int) = l ∧ Par.val 0 l ≤ 1000000000000 then ((Par.val 0 l : Int), true) else (0, false)
theorem ps_pin (l : List UInt8) : Par.PS l (pin l).1 (pin l).2 := by
  unfold pin
  split
  · rename_i h; exact Or.inl ⟨rfl, by simp only; omega, by simp only; omega, h.1⟩
  · rename_i h
    refine Or.inr ⟨rfl, rfl, fun u h0 h1 e => h ?_⟩
    have hv := Par.itoa_val h0
    rw [e] at hv
    rw [hv]; exact ⟨e, by omega⟩
theorem pin_nn (l : List UInt8) : 0 ≤ (pin l).1 ∧ (pin l).1 ≤ 1000000000000 := by
  unfold pin; split
  · simp only; omega
  · simp only; omega
theorem pin_nil : pin [] = (0, false) := by
  rcases ps_pin [] with ⟨h1, h2, h3, h4⟩ | ⟨h1, h2, _⟩
  · rw [Par.itoa_nat h2] at h4
    have := Par.dec_val (pin []).1.toNat
    exfalso
    rw [Lib.decDigits] at h4
    split at h4 <;> simp at h4
  · exact Prod.ext h2 h1
def PinEnd (l : List UInt8) (w : World) (e : Ending) (w' : World) : Prop := e = .returned (.tuple #[.int .i64 (pin l).1, .bool (pin l).2]) ∧ Below w.heap.size w w'
theorem pin_end {l : List UInt8} {w : World} {e : Ending} {w' : World} (h : Par.Parsed l w e w') : PinEnd l w e w' := by
  obtain ⟨v, b, hp, rfl, hb⟩ := h
  obtain ⟨rfl, rfl⟩ := hp.uniq (ps_pin l)
  exact ⟨rfl, hb⟩
end Go.Proofs.YtjjelbijbbnmcaaGreatDoor.Pin

/-
  CONTRACTS of the model's Min.
-/
namespace Go.Proofs.YtjjelbijbbnmcaaGreatDoor.Mm
theorem ret_int2 {a b : Int} (h : a = b) : Go.Ending.returned (.int .i64 a) = .returned (.int .i64 b) := by rw [h]
open Go Go.RowKit
set_option linter.unusedVariables false
set_option maxRecDepth 1000000
end Go.Proofs.YtjjelbijbbnmcaaGreatDoor.Mm

/-
  CONTRACT of the program's clamp.
-/
namespace Go.Proofs.YtjjelbijbbnmcaaGreatDoor.Mm
open Go Go.RowKit
set_option linter.unusedVariables false
set_option maxRecDepth 1000000
theorem ret_clp {a b : Int} (h : a = b) : Ending.returned (.int .i64 a) = .returned (.int .i64 b) := by rw [h]
end Go.Proofs.YtjjelbijbbnmcaaGreatDoor.Mm

/-
  CONTRACTS of both sides' AgeField.
-/
namespace Go.Proofs.YtjjelbijbbnmcaaGreatDoor.Age
open Go Go.RowKit
set_option linter.unusedVariables false
set_option maxRecDepth 1000000
/-- The name of the field. -/
def ageN : List UInt8 := [97, 103, 101]
/-- The age that an answer itself says. -/
def agef (l : List Flds.Fld) : Int := min (Pin.pin (Flds.got ageN l)).1 2147483648
def NumEnd (z : Int) (w : World) (e : Ending) (w' : World) : Prop := e = .returned (.int .i64 z) ∧ Below w.heap.size w w'
theorem ret_n {a b : Int} (h : a = b) : Ending.returned (.int .i64 a) = .returned (.int .i64 b) := by rw [h]
theorem agef_bd (l : List Flds.Fld) : 0 ≤ agef l ∧ agef l ≤ 2147483648 := by have := Pin.pin_nn (Flds.got ageN l); unfold agef; omega
/-- a struct of three cells that was laid by a call stays. -/
theorem kept3 {w w1 : World} {T : TypeId} {a b c : Value} (hb : Below (w.alloc (.cells #[a, b, c] T)).heap.size (w.alloc (.cells #[a, b, c] T)) w1) :
    (w1.cell? ⟨w.heap.size, 0, none⟩ = some a ∧ w1.cell? ⟨w.heap.size, 1, none⟩ = some b ∧ w1.cell? ⟨w.heap.size, 2, none⟩ = some c) ∧ Below w.heap.size w w1 := by
  refine ⟨⟨?_, ?_, ?_⟩, ((Below.refl _ _).alloc (Nat.le_refl _) _).trans (hb.mono (by simp))⟩
  · rw [hb.cell (p := ⟨w.heap.size, 0, none⟩) (by simp), World.cell?_alloc_new]; rfl
  · rw [hb.cell (p := ⟨w.heap.size, 1, none⟩) (by simp), World.cell?_alloc_new]; rfl
  · rw [hb.cell (p := ⟨w.heap.size, 2, none⟩) (by simp), World.cell?_alloc_new]; rfl

end Go.Proofs.YtjjelbijbbnmcaaGreatDoor.Age

/-
  PLAIN FACTS on leap years.
-/
namespace Go.Proofs.YtjjelbijbbnmcaaGreatDoor.Dt
open Go
set_option linter.unusedVariables false
set_option maxRecDepth 1000000

def lpB (y : Int) : Bool := y % 4 == 0 && (y % 100 != 0 || y % 400 == 0)
theorem lp_no {y : Int} (h : y % 4 ≠ 0) : lpB y = false := by unfold lpB; simp [h]
theorem lp_yes {y : Int} (h : y % 4 = 0) (h2 : y % 100 ≠ 0) : lpB y = true := by unfold lpB; simp [h, h2]
theorem lp_cent {y : Int} (h2 : y % 100 = 0) : lpB y = (y % 400 == 0) := by unfold lpB; simp [h2]; intro h; omega
theorem ret_bool {a b : Bool} (h : a = b) : Ending.returned (.bool a) = .returned (.bool b) := by rw [h]
theorem b_yes {a b : Int} (h : a = b) : (a == b) = true := by simp [h]
theorem b_no {a b : Int} (h : a ≠ b) : (a == b) = false := by simp [h]
theorem n_yes {a b : Int} (h : a ≠ b) : (a != b) = true := by simp [h]
theorem n_no {a b : Int} (h : a = b) : (a != b) = false := by simp [h]
end Go.Proofs.YtjjelbijbbnmcaaGreatDoor.Dt

/-
  PLAIN FACTS on days, months and years from 1970 on.
-/
namespace Go.Proofs.YtjjelbijbbnmcaaGreatDoor.Dt
open Go
set_option linter.unusedVariables false
set_option maxRecDepth 1000000

/-- How many days a year has; a month of it. -/
def yl (y : Int) : Int := if lpB y = true then 366 else 365
def mdays : List Int := [31, 28, 31, 30, 31, 30, 31, 31, 30, 31, 30, 31]
def mdt (k : Nat) : Int := mdays.getD k 0
def dim (y m : Int) : Int := if m = 2 ∧ lpB y = true then 29 else mdt (m - 1).toNat
theorem yl_bd (y : Int) : 365 ≤ yl y ∧ yl y ≤ 366 := by unfold yl; split <;> omega
theorem mdt_bd (k : Nat) (h : k < 12) : 28 ≤ mdt k ∧ mdt k ≤ 31 := by
  have : ∀ k : Fin 12, 28 ≤ mdt k.1 ∧ mdt k.1 ≤ 31 := by decide
  exact this ⟨k, h⟩
theorem dim_bd (y m : Int) (h1 : 1 ≤ m) (h2 : m ≤ 12) : 28 ≤ dim y m ∧ dim y m ≤ 31 := by
  unfold dim; split
  · omega
  · exact mdt_bd _ (by omega)
/-- The days of the n years from 1970 on; of the first n months of a year. -/
def dby : Nat → Int
  | 0 => 0
  | n + 1 => dby n + yl (1970 + n)
def cum (y : Int) : Nat → Int
  | 0 => 0
  | n + 1 => cum y n + dim y (n + 1)
theorem dby_bd (n : Nat) : 365 * n ≤ dby n ∧ dby n ≤ 366 * n := by
  induction n with
  | zero => simp [dby]
  | succ n ih => have := yl_bd (1970 + n); unfold dby; omega
theorem cum_bd (y : Int) (n : Nat) (h : n ≤ 12) : 28 * n ≤ cum y n ∧ cum y n ≤ 31 * n := by
  induction n with
  | zero => simp [cum]
  | succ n ih => have := ih (by omega); have := dim_bd y (n + 1) (by omega) (by omega); unfold cum; omega
theorem dby_mono {a b : Nat} (h : a ≤ b) : dby a ≤ dby b := by
  induction b with
  | zero => have : a = 0 := by omega
            subst this; omega
  | succ b ih =>
    by_cases e : a = b + 1
    · subst e; omega
    · have := ih (by omega); have := yl_bd (1970 + b)
      show dby a ≤ dby b + yl (1970 + b); omega
theorem cum_mono {y : Int} {a b : Nat} (h : a ≤ b) (hb : b ≤ 12) : cum y a ≤ cum y b := by
  induction b with
  | zero => have : a = 0 := by omega
            subst this; omega
  | succ b ih =>
    by_cases e : a = b + 1
    · subst e; omega
    · have := ih (by omega) (by omega); have := dim_bd y (b + 1) (by omega) (by omega)
      show cum y a ≤ cum y b + dim y (b + 1); omega
theorem dby_all : dby 130 = 47482 := by decide +kernel
theorem cum_all (y : Int) : cum y 12 = yl y := by
  have hd : ∀ m : Int, dim y m = if m = 2 then (if lpB y = true then 29 else mdt (m - 1).toNat) else mdt (m - 1).toNat := by
    intro m; unfold dim
    by_cases h1 : m = 2 <;> by_cases h2 : lpB y = true <;> simp [h1, h2]
  unfold yl
  simp only [cum, hd]
  by_cases h : lpB y = true
  · rw [h]; decide
  · rw [show lpB y = false by simpa using h]; decide

/-- The day of a date; -1 where there is none from 1970 to 2099. -/
def dof (y m d : Int) : Int := if 1970 ≤ y ∧ y ≤ 2099 ∧ 1 ≤ m ∧ m ≤ 12 ∧ 1 ≤ d ∧ d ≤ dim y m then d - 1 + dby (y - 1970).toNat + cum y (m - 1).toNat else -1
/-- A day has this date. -/
def CV (day : Int) (y m d : Int) : Prop := 1970 ≤ y ∧ y ≤ 2099 ∧ 1 ≤ m ∧ m ≤ 12 ∧ 1 ≤ d ∧ d ≤ dim y m ∧ day = d - 1 + dby (y - 1970).toNat + cum y (m - 1).toNat
theorem dof_cv {day y m d : Int} (h : CV day y m d) : dof y m d = day := by
  obtain ⟨a, b, c, e, f, g, h⟩ := h
  unfold dof; rw [if_pos ⟨a, b, c, e, f, g⟩, h]
theorem cum_succ (y : Int) {m : Int} (h1 : 1 ≤ m) : cum y m.toNat = cum y (m - 1).toNat + dim y m := by
  obtain ⟨n, rfl⟩ : ∃ n : Nat, m = (n : Int) + 1 := ⟨(m - 1).toNat, by omega⟩
  rw [show ((n : Int) + 1).toNat = n + 1 by omega, show ((n : Int) + 1 - 1).toNat = n by omega]
  rfl
theorem dby_succ {y : Int} (h : 1970 ≤ y) : dby (y - 1970 + 1).toNat = dby (y - 1970).toNat + yl y := by
  obtain ⟨n, rfl⟩ : ∃ n : Nat, y = 1970 + (n : Int) := ⟨(y - 1970).toNat, by omega⟩
  rw [show (1970 + (n : Int) - 1970 + 1).toNat = n + 1 by omega, show (1970 + (n : Int) - 1970).toNat = n by omega]
  rfl
theorem cv_rest {day y m d : Int} (h : CV day y m d) : dby (y - 1970).toNat ≤ day ∧ day < dby (y - 1970 + 1).toNat := by
  obtain ⟨a, b, c, e, f, g, h⟩ := h
  have h0 := cum_bd y (m - 1).toNat (by omega)
  have h1 := cum_succ y c
  have h2 : cum y m.toNat ≤ cum y 12 := cum_mono (by omega) (Nat.le_refl _)
  rw [cum_all] at h2
  rw [dby_succ a]
  omega
theorem cv_uniq {day y m d y' m' d' : Int} (h : CV day y m d) (h' : CV day y' m' d') : y = y' ∧ m = m' ∧ d = d' := by
  have r := cv_rest h
  have r' := cv_rest h'
  have hy : y = y' := by
    rcases Int.lt_trichotomy y y' with hl | he | hl
    · have := dby_mono (a := (y - 1970 + 1).toNat) (b := (y' - 1970).toNat) (by have := h.1; omega); omega
    · exact he
    · have := dby_mono (a := (y' - 1970 + 1).toNat) (b := (y - 1970).toNat) (by have := h'.1; omega); omega
  subst hy
  obtain ⟨a, b, c, e, f, g, h⟩ := h
  obtain ⟨_, _, c', e', f', g', h'⟩ := h'
  have hm : m = m' := by
    rcases Int.lt_trichotomy m m' with hl | he | hl
    · have h1 := cum_succ y c
      have h2 : cum y m.toNat ≤ cum y (m' - 1).toNat := cum_mono (by omega) (by omega)
      omega
    · exact he
    · have h1 := cum_succ y c'
      have h2 : cum y m'.toNat ≤ cum y (m - 1).toNat := cum_mono (by omega) (by omega)
      omega
  subst hm
  exact ⟨rfl, rfl, by omega⟩
theorem cv_mk {day : Int} {n k : Nat} (hn : n ≤ 129) (hk : k ≤ 11) (h0 : 0 ≤ day - dby n - cum (1970 + n) k) (h1 : day - dby n - cum (1970 + n) k < dim (1970 + n) (k + 1)) :
    CV day (1970 + n) (k + 1) (day - dby n - cum (1970 + n) k + 1) := by
  refine ⟨by omega, by omega, by omega, by omega, by omega, by omega, ?_⟩
  rw [show (1970 + (n : Int) - 1970).toNat = n by omega, show ((k : Int) + 1 - 1).toNat = k by omega]; omega
end Go.Proofs.YtjjelbijbbnmcaaGreatDoor.Dt

/-
  PLAIN FACTS of numerals that are filled up with zeros; no word of the program stands here.
-/
namespace Go.Proofs.YtjjelbijbbnmcaaGreatDoor.Dig
open Go Go.RowKit
set_option linter.unusedVariables false
set_option maxRecDepth 1000000

def mx (n : Int) : Int := if n < 0 then 0 else n
def mn (n : Int) : Int := if n < 20 then n else 20
theorem mx_bd {n : Int} (h1 : n ≤ 9223372036854775807) : 0 ≤ mx n ∧ mx n ≤ 9223372036854775807 := by unfold mx; split <;> omega
theorem mn_bd (n : Int) : mn n ≤ 20 ∧ mn n ≤ n ∧ (mn n = n ∨ mn n = 20) := by unfold mn; split <;> omega
/-- zeros in front, up to k bytes. -/
def zpad (l : List UInt8) (k : Nat) : List UInt8 := List.replicate (k - l.length) 48 ++ l
theorem zpad_done {l : List UInt8} {k : Nat} (h : k ≤ l.length) : zpad l k = l := by
  unfold zpad; rw [show k - l.length = 0 by omega]; rfl
theorem zpad_step {l : List UInt8} {k : Nat} (h : l.length < k) : zpad (48 :: l) k = zpad l k := by
  unfold zpad
  rw [show k - l.length = (k - (48 :: l).length) + 1 by simp; omega, List.replicate_succ', List.append_assoc]; rfl
theorem zpad_len (l : List UInt8) (k : Nat) : (zpad l k).length = max l.length k := by
  unfold zpad; simp; omega
/-- The digits that the document asks for. -/
def digs (n width : Int) : List UInt8 := zpad (Lib.itoa (mx n)) (mn width).toNat
theorem digs_len {n width : Int} (h1 : n ≤ 9223372036854775807) : mn width ≤ (digs n width).length ∧ (digs n width).length ≤ 20 := by
  obtain ⟨b0, b1⟩ := mx_bd h1
  have hl := Fmt.itoa_len (n := mx n) (by omega) b1
  have hb := mn_bd width
  unfold digs
  rw [zpad_len]
  omega
def strLen : Value → Nat | .string b => b.size | _ => 0
end Go.Proofs.YtjjelbijbbnmcaaGreatDoor.Dig
