/-
  CONTRACTS AND PLAIN FACTS, several texts in one; each says in its own words what it proves.
-/
import Derived.Test.YtjeihicjfgimdaaGreatDoorPartM
import Derived.Lib.SmallJoins
import Derived.Test.YtjeihicjfgimdaaGreatDoorPartA
import Derived.LoopTactic
import Derived.Test.YtjeihicjfgimdaaGreatDoorPartL
import Derived.Test.YtjeihicjfgimdaaGreatDoorPartC
set_option linter.unusedSimpArgs false
set_option linter.unusedVariables false

/-
  CONTRACT of the program's ParseInt: at every text of at most 2 to the 48 bytes, where the library's table of powers of ten and its two errors read as they are written, it answers the number whose decimal numeral the text is, if it lies between 0 and the greatest integer that is read; nothing that was there before is changed.
-/
namespace Go.Proofs.YtjeihicjfgimdaaGreatDoor.Par
open Go Go.RowKit
set_option linter.unusedVariables false
set_option maxRecDepth 1000000

/-- The library's two errors are there. -/
def Errs (w : World) : Prop := (∃ tp p, w.var? Tryz.prog "strconv.ErrSyntax" = some #[.iface tp p]) ∧ (∃ tp p, w.var? Tryz.prog "strconv.ErrRange" = some #[.iface tp p])
theorem errs_below {W w1 : World} (h : Errs W) (hb : Below W.heap.size W w1) : Errs w1 := by
  obtain ⟨⟨tp, p, h1⟩, ⟨tq, q, h2⟩⟩ := h
  exact ⟨⟨tp, p, Base.var_below h1 hb⟩, ⟨tq, q, Base.var_below h2 hb⟩⟩


theorem atoi_ok (s : ByteArray) (hs : s.size ≤ 281474976710656) (v : Int) (h : Lib.atoiAll s.data.toList = .ok v) (w : World) :
    Calls Tryz.prog 92 #[.string s] w fun e w' => e = .returned (.tuple #[.int .i64 v, .nilIface]) ∧ Below w.heap.size w w' := by
  refine (Tryz.strconv_Atoi_ok s (by omega) v h w).mono ?_
  rintro e w' ⟨rfl, rfl | ⟨t, rfl⟩⟩
  · exact ⟨rfl, Below.refl _ _⟩
  · exact ⟨rfl, Joins.below_bytesWorld _ _ _ _ (Nat.le_refl _)⟩
/-- Any other end of Atoi: an error that is there. -/
theorem atoi_err (s : ByteArray) (hs : s.size ≤ 281474976710656) (h : ∀ v, Lib.atoiAll s.data.toList ≠ .ok v) (w : World) (he : Errs w) :
    Calls Tryz.prog 92 #[.string s] w fun e w' => (∃ z p, e = .returned (.tuple #[.int .i64 z, .iface 170 (.pointer (some p))])) ∧ Below w.heap.size w w' := by
  obtain ⟨⟨tp, p, h1⟩, ⟨tq, q, h2⟩⟩ := he
  rcases hk : Lib.atoiAll s.data.toList with v | _ | _
  · exact absurd hk (h v)
  · refine (Tryz.strconv_Atoi_syntax_var s hs hk tp p w h1).mono ?_
    rintro e w' ⟨N, rfl, _, _, hb⟩
    exact ⟨⟨_, _, rfl⟩, hb⟩
  · refine (Tryz.strconv_Atoi_range_var s hs hk tq q w h2).mono ?_
    rintro e w' ⟨N, rfl, _, _, hb⟩
    exact ⟨⟨_, _, rfl⟩, hb⟩

theorem ps_noatoi {s : ByteArray} (h : ∀ v, Lib.atoiAll s.data.toList ≠ .ok v) : PS s.data.toList 0 false := by
  refine Or.inr ⟨rfl, rfl, fun u h0 h1 e => ?_⟩
  exact h u (e ▸ atoi_itoa h0 h1)
theorem ps_out {s : ByteArray} {v : Int} (h : Lib.atoiAll s.data.toList = .ok v) (hv : v < 0 ∨ 1000000000000 < v) : PS s.data.toList 0 false := by
  refine Or.inr ⟨rfl, rfl, fun u h0 h1 e => ?_⟩
  have := atoi_itoa h0 h1
  rw [e, h] at this
  injection this with this
  omega
theorem ps_not {s : ByteArray} {v : Int} (h : Lib.atoiAll s.data.toList = .ok v) (hv : Lib.itoa v ≠ s.data.toList) : PS s.data.toList 0 false := by
  refine Or.inr ⟨rfl, rfl, fun u h0 h1 e => ?_⟩
  have := atoi_itoa h0 h1
  rw [e, h] at this
  injection this with this
  exact hv (this ▸ e)

set_option maxHeartbeats 1000000 in
theorem impl_parse (s : ByteArray) (w : World) (hs : s.size ≤ 281474976710656) (ht : Fmt.Tens w) (he : Errs w) :
    Calls Tryz.prog 55 #[.string s] w (Parsed s.data.toList w) := by
  by_cases hk : ∃ v, Lib.atoiAll s.data.toList = .ok v
  · obtain ⟨v, hv⟩ := hk
    have hbd := Lib.atoiAll_bounds hv
    obtain ⟨b0, b1⟩ := hbd
    have HV := Lib.hid hv
    clear hv
    by_cases hn : v < 0
    · have G := Lib.hid (ps_out HV.out (Or.inl hn))
      go_enter Tryz.func55, Tryz.ntmps55
      go_wp2_with (go_at_call 92; refine (atoi_ok s hs v HV.out _).mono ?_; rintro e w1 ⟨rfl, hb1⟩)
      go_ret2
      exact ⟨_, _, G.out, rfl, hb1⟩
    · by_cases hg : 1000000000000 < v
      · have G := Lib.hid (ps_out HV.out (Or.inr hg))
        go_enter Tryz.func55, Tryz.ntmps55
        go_wp2_with (go_at_call 92; refine (atoi_ok s hs v HV.out _).mono ?_; rintro e w1 ⟨rfl, hb1⟩)
        go_ret2
        exact ⟨_, _, G.out, rfl, hb1⟩
      · go_enter Tryz.func55, Tryz.ntmps55
        go_wp2_with (first | (go_at_call 92; refine (atoi_ok s hs v HV.out _).mono ?_; rintro e w1 ⟨rfl, hb1⟩) | (go_at_call 93; refine (Fmt.impl_fmt v b0 b1 _ (Fmt.tens_below ht hb1)).mono ?_; rintro e w2 ⟨rfl, hb2⟩))
        · have hq : (!Lib.itoa v == s.toList) = true := by assumption
          go_ret2
          exact ⟨_, _, ps_not HV.out (list_ne hq), rfl, Base.then_below hb1 hb2⟩
        · have hq : (!Lib.itoa v == s.toList) = false := by assumption
          go_ret2
          exact ⟨_, _, Or.inl ⟨rfl, by omega, by omega, list_eq hq⟩, rfl, Base.then_below hb1 hb2⟩
  · have hno : ∀ v, Lib.atoiAll s.data.toList ≠ .ok v := fun v h => hk ⟨v, h⟩
    have HN := Lib.hid hno
    have G := Lib.hid (ps_noatoi hno)
    clear hk hno
    go_enter Tryz.func55, Tryz.ntmps55
    go_wp2_with (go_at_call 92; refine (atoi_err s hs HN.out _ he).mono ?_; rintro e w1 ⟨⟨z, p, rfl⟩, hb1⟩)
    go_ret2
    exact ⟨_, _, G.out, rfl, hb1⟩
end Go.Proofs.YtjeihicjfgimdaaGreatDoor.Par

/-
  CONTRACTS of ParseInt on both sides as a function of the text.
-/
namespace Go.Proofs.YtjeihicjfgimdaaGreatDoor.Pin
open Go Go.RowKit
set_option linter.unusedVariables false
set_option maxRecDepth 1000000

/-- What ParseInt answers, as a function. -/
def pin (l : List UInt8) : Int × Bool := if Lib.itoa (Par.val 0 l : Int) = l ∧ Par.val 0 l ≤ 1000000000000 then ((Par.val 0 l : Int), true) else (0, false)
theorem ps_pin (l : List UInt8) : Par.PS l (pin l).1 (pin l).2 := by
  unfold pin
  split
  · rename_i h; exact Or.inl ⟨rfl, by simp only; omega, by simp only; omega, h.1⟩
  · rename_i h
    refine Or.inr ⟨rfl, rfl, fun u h0 h1 e => h ?_⟩
    have hv := Par.itoa_val h0
    rw [e] at hv
    rw [hv]; exact ⟨e, by omega⟩
theorem pin_nn (l : List UInt8) : 0 ≤ (pin l).1 ∧ (pin l).1 ≤ 1000000000000 := by
  unfold pin; split
  · simp only; omega
  · simp only; omega
theorem pin_nil : pin [] = (0, false) := by
  rcases ps_pin [] with ⟨h1, h2, h3, h4⟩ | ⟨h1, h2, _⟩
  · rw [Par.itoa_nat h2] at h4
    have := Par.dec_val (pin []).1.toNat
    exfalso
    rw [Lib.decDigits] at h4
    split at h4 <;> simp at h4
  · exact Prod.ext h2 h1
def PinEnd (l : List UInt8) (w : World) (e : Ending) (w' : World) : Prop := e = .returned (.tuple #[.int .i64 (pin l).1, .bool (pin l).2]) ∧ Below w.heap.size w w'
theorem pin_end {l : List UInt8} {w : World} {e : Ending} {w' : World} (h : Par.Parsed l w e w') : PinEnd l w e w' := by
  obtain ⟨v, b, hp, rfl, hb⟩ := h
  obtain ⟨rfl, rfl⟩ := hp.uniq (ps_pin l)
  exact ⟨rfl, hb⟩
theorem spec_pin (l : List UInt8) (w : World) (hl : l.length ≤ 4194304) : Calls Tryz.prog 52 #[.string ⟨l.toArray⟩] w (PinEnd l w) :=
  (Par.spec_parse ⟨l.toArray⟩ w (by simp [ByteArray.size]; omega)).mono fun _ _ h => pin_end h
theorem impl_pin (l : List UInt8) (w : World) (hl : l.length ≤ 4194304) (ht : Fmt.Tens w) (he : Par.Errs w) : Calls Tryz.prog 55 #[.string ⟨l.toArray⟩] w (PinEnd l w) :=
  (Par.impl_parse ⟨l.toArray⟩ w (by simp [ByteArray.size]; omega) ht he).mono fun _ _ h => pin_end h
end Go.Proofs.YtjeihicjfgimdaaGreatDoor.Pin

/-
  CONTRACTS of the model's Min.
-/
namespace Go.Proofs.YtjeihicjfgimdaaGreatDoor.Mm
theorem ret_int2 {a b : Int} (h : a = b) : Go.Ending.returned (.int .i64 a) = .returned (.int .i64 b) := by rw [h]
open Go Go.RowKit
set_option linter.unusedVariables false
set_option maxRecDepth 1000000
theorem spec_min (a b : Int) (w : World) : Calls Tryz.prog 62 #[.int .i64 a, .int .i64 b] w fun e w' => e = .returned (.int .i64 (min a b)) ∧ w = w' := by
  by_cases h : a ≤ b
  · have HE := Lib.hid (show a = min a b by omega)
    go_enter Tryz.func62, Tryz.ntmps62
    go_wp2
    all_goals go_ret
    all_goals exact ⟨Go.Proofs.YtjeihicjfgimdaaGreatDoor.Mm.ret_int2 (by omega), rfl⟩
  · go_enter Tryz.func62, Tryz.ntmps62
    go_wp2
    all_goals go_ret
    all_goals exact ⟨Go.Proofs.YtjeihicjfgimdaaGreatDoor.Mm.ret_int2 (by omega), rfl⟩
end Go.Proofs.YtjeihicjfgimdaaGreatDoor.Mm

/-
  CONTRACT of the program's clamp.
-/
namespace Go.Proofs.YtjeihicjfgimdaaGreatDoor.Mm
open Go Go.RowKit
set_option linter.unusedVariables false
set_option maxRecDepth 1000000
theorem ret_clp {a b : Int} (h : a = b) : Ending.returned (.int .i64 a) = .returned (.int .i64 b) := by rw [h]
theorem impl_clamp (n lo hi : Int) (w : World) : Calls Tryz.prog 70 #[.int .i64 n, .int .i64 lo, .int .i64 hi] w fun e w' => e = .returned (.int .i64 (min (max n lo) hi)) ∧ w = w' := by
  by_cases h : lo ≤ n <;> by_cases h2 : n ≤ hi <;> by_cases h3 : lo ≤ hi
  all_goals
    go_enter Tryz.func70, Tryz.ntmps70
    go_wp2
    all_goals go_ret
    all_goals exact ⟨ret_clp (by omega), rfl⟩
end Go.Proofs.YtjeihicjfgimdaaGreatDoor.Mm

/-
  CONTRACTS of both sides' AgeField.
-/
namespace Go.Proofs.YtjeihicjfgimdaaGreatDoor.Age
open Go Go.RowKit
set_option linter.unusedVariables false
set_option maxRecDepth 1000000
/-- The name of the field. -/
def ageN : List UInt8 := [97, 103, 101]
/-- The age that an answer itself says. -/
def agef (l : List Flds.Fld) : Int := min (Pin.pin (Flds.got ageN l)).1 2147483648
def NumEnd (z : Int) (w : World) (e : Ending) (w' : World) : Prop := e = .returned (.int .i64 z) ∧ Below w.heap.size w w'
theorem ret_n {a b : Int} (h : a = b) : Ending.returned (.int .i64 a) = .returned (.int .i64 b) := by rw [h]
theorem agef_bd (l : List Flds.Fld) : 0 ≤ agef l ∧ agef l ≤ 2147483648 := by have := Pin.pin_nn (Flds.got ageN l); unfold agef; omega
/-- a struct of three cells that was laid by a call stays. -/
theorem kept3 {w w1 : World} {T : TypeId} {a b c : Value} (hb : Below (w.alloc (.cells #[a, b, c] T)).heap.size (w.alloc (.cells #[a, b, c] T)) w1) :
    (w1.cell? ⟨w.heap.size, 0, none⟩ = some a ∧ w1.cell? ⟨w.heap.size, 1, none⟩ = some b ∧ w1.cell? ⟨w.heap.size, 2, none⟩ = some c) ∧ Below w.heap.size w w1 := by
  refine ⟨⟨?_, ?_, ?_⟩, ((Below.refl _ _).alloc (Nat.le_refl _) _).trans (hb.mono (by simp))⟩
  · rw [hb.cell (p := ⟨w.heap.size, 0, none⟩) (by simp), World.cell?_alloc_new]; rfl
  · rw [hb.cell (p := ⟨w.heap.size, 1, none⟩) (by simp), World.cell?_alloc_new]; rfl
  · rw [hb.cell (p := ⟨w.heap.size, 2, none⟩) (by simp), World.cell?_alloc_new]; rfl

set_option maxHeartbeats 2000000 in
theorem spec_agef (c : Int) (v : Value) (B : Nat) (l : List Flds.Fld) (b : List UInt8) (w : World) (h : Flds.Holds w B v l) (hB : B ≤ w.heap.size) (hl : Flds.total l ≤ 1048576) :
    Calls Tryz.prog 28 #[.agg #[.int .i64 c, v, .string ⟨b.toArray⟩]] w (NumEnd (agef l) w) := by
  have HB0 : Hid (Below w.heap.size w (w.alloc (.cells #[.int .i64 c, v, .string ⟨b.toArray⟩] 36))) := Lib.hid ((Below.refl _ _).alloc (Nat.le_refl _) _)
  have hg : (Flds.got ageN l).length ≤ 4194304 := by have := Flds.got_len ageN l; omega
  have HG := Lib.hid (Flds.spec_lget v B l ageN _ (Flds.holds_below h (HB0.out.mono hB)) (by omega))
  have HP := Lib.hid (fun W => Pin.spec_pin (Flds.got ageN l) W hg)
  have HE : Hid (agef l = min (Pin.pin (Flds.got ageN l)).1 2147483648) := Lib.hid rfl
  unfold Flds.GotEnd at HG
  unfold Pin.PinEnd at HP
  clear h hl hg
  generalize agef l = z at HE ⊢
  generalize Flds.got ageN l = t at HG HP HE
  generalize Pin.pin t = p at HP HE
  unfold ageN at HG
  unfold NumEnd
  go_enter Tryz.func28, Tryz.ntmps28
  go_wp2_with (fail)
  go_at_call 61
  refine HG.out.mono ?_
  rintro e w1 ⟨rfl, hb1⟩
  have HB1 := Lib.hid (HB0.out.trans (hb1.mono HB0.out.size))
  clear hb1
  go_wp2_with (fail)
  go_at_call 52
  refine (HP.out _).mono ?_
  rintro e w2 ⟨rfl, hb2⟩
  have HB2 := Lib.hid (Base.then_below HB1.out hb2)
  clear hb2
  go_wp2_with (fail)
  go_at_call 62
  refine (Mm.spec_min _ _ _).mono ?_
  rintro e w3 ⟨rfl, rfl⟩
  go_wp2
  go_ret
  exact ⟨ret_n HE.out.symm, HB2.out⟩

set_option maxHeartbeats 2000000 in
theorem impl_agef (c : Int) (v : Value) (B : Nat) (l : List Flds.Fld) (b : List UInt8) (w : World) (h : Flds.Holds w B v l) (hB : B ≤ w.heap.size) (hl : Flds.total l ≤ 1048576) (ht : Fmt.Tens w) (he : Par.Errs w) :
    Calls Tryz.prog 36 #[.agg #[.int .i64 c, v, .string ⟨b.toArray⟩]] w (NumEnd (agef l) w) := by
  have HB0 : Hid (Below w.heap.size w (w.alloc (.cells #[.int .i64 c, v, .string ⟨b.toArray⟩] 36))) := Lib.hid ((Below.refl _ _).alloc (Nat.le_refl _) _)
  have hg : (Flds.got ageN l).length ≤ 4194304 := by have := Flds.got_len ageN l; omega
  have HG := Lib.hid (Flds.impl_get v B l ageN _ (Flds.holds_below h (HB0.out.mono hB)) (Nat.le_trans hB HB0.out.size) hl)
  have HP := Lib.hid (fun W (hb : Below w.heap.size w W) => Pin.impl_pin (Flds.got ageN l) W hg (Fmt.tens_below ht hb) (Par.errs_below he hb))
  have HE : Hid (agef l = min (max (Pin.pin (Flds.got ageN l)).1 0) 2147483648) := Lib.hid (by have := Pin.pin_nn (Flds.got ageN l); unfold agef; omega)
  unfold Flds.GetEnd at HG
  unfold Pin.PinEnd at HP
  clear h hl hg ht he
  have hj : Tx.join (Flds.vals ageN l) = Flds.got ageN l := rfl
  rw [hj] at HG
  clear hj
  generalize agef l = z at HE ⊢
  generalize Flds.got ageN l = t at HG HP HE
  generalize decide (0 < (Flds.vals ageN l).length) = q at HG
  generalize Pin.pin t = p at HP HE
  unfold ageN at HG
  unfold NumEnd
  go_enter Tryz.func36, Tryz.ntmps36
  go_wp2_with (fail)
  go_at_call 69
  refine HG.out.mono ?_
  rintro e w1 ⟨rfl, hb1⟩
  have HB1 := Lib.hid (HB0.out.trans (hb1.mono HB0.out.size))
  clear hb1
  go_wp2_with (fail)
  go_at_call 55
  refine (HP.out _ HB1.out).mono ?_
  rintro e w2 ⟨rfl, hb2⟩
  have HB2 := Lib.hid (Base.then_below HB1.out hb2)
  clear hb2
  go_wp2_with (fail)
  go_at_call 70
  refine (Mm.impl_clamp _ _ _ _).mono ?_
  rintro e w3 ⟨rfl, rfl⟩
  go_wp2
  go_ret
  exact ⟨ret_n HE.out.symm, HB2.out⟩
end Go.Proofs.YtjeihicjfgimdaaGreatDoor.Age

/-
  PLAIN FACTS on leap years.
-/
namespace Go.Proofs.YtjeihicjfgimdaaGreatDoor.Dt
open Go
set_option linter.unusedVariables false
set_option maxRecDepth 1000000

def lpB (y : Int) : Bool := y % 4 == 0 && (y % 100 != 0 || y % 400 == 0)
theorem lp_no {y : Int} (h : y % 4 ≠ 0) : lpB y = false := by unfold lpB; simp [h]
theorem lp_yes {y : Int} (h : y % 4 = 0) (h2 : y % 100 ≠ 0) : lpB y = true := by unfold lpB; simp [h, h2]
theorem lp_cent {y : Int} (h2 : y % 100 = 0) : lpB y = (y % 400 == 0) := by unfold lpB; simp [h2]; intro h; omega
theorem ret_bool {a b : Bool} (h : a = b) : Ending.returned (.bool a) = .returned (.bool b) := by rw [h]
theorem b_yes {a b : Int} (h : a = b) : (a == b) = true := by simp [h]
theorem b_no {a b : Int} (h : a ≠ b) : (a == b) = false := by simp [h]
theorem n_yes {a b : Int} (h : a ≠ b) : (a != b) = true := by simp [h]
theorem n_no {a b : Int} (h : a = b) : (a != b) = false := by simp [h]
end Go.Proofs.YtjeihicjfgimdaaGreatDoor.Dt

/-
  PLAIN FACTS on days, months and years from 1970 on.
-/
namespace Go.Proofs.YtjeihicjfgimdaaGreatDoor.Dt
open Go
set_option linter.unusedVariables false
set_option maxRecDepth 1000000

/-- How many days a year has; a month of it. -/
def yl (y : Int) : Int := if lpB y = true then 366 else 365
def mdays : List Int := [31, 28, 31, 30, 31, 30, 31, 31, 30, 31, 30, 31]
def mdt (k : Nat) : Int := mdays.getD k 0
def dim (y m : Int) : Int := if m = 2 ∧ lpB y = true then 29 else mdt (m - 1).toNat
theorem yl_bd (y : Int) : 365 ≤ yl y ∧ yl y ≤ 366 := by unfold yl; split <;> omega
theorem mdt_bd (k : Nat) (h : k < 12) : 28 ≤ mdt k ∧ mdt k ≤ 31 := by
  have : ∀ k : Fin 12, 28 ≤ mdt k.1 ∧ mdt k.1 ≤ 31 := by decide
  exact this ⟨k, h⟩
theorem dim_bd (y m : Int) (h1 : 1 ≤ m) (h2 : m ≤ 12) : 28 ≤ dim y m ∧ dim y m ≤ 31 := by
  unfold dim; split
  · omega
  · exact mdt_bd _ (by omega)
/-- The days of the n years from 1970 on; of the first n months of a year. -/
def dby : Nat → Int
  | 0 => 0
  | n + 1 => dby n + yl (1970 + n)
def cum (y : Int) : Nat → Int
  | 0 => 0
  | n + 1 => cum y n + dim y (n + 1)
theorem dby_bd (n : Nat) : 365 * n ≤ dby n ∧ dby n ≤ 366 * n := by
  induction n with
  | zero => simp [dby]
  | succ n ih => have := yl_bd (1970 + n); unfold dby; omega
theorem cum_bd (y : Int) (n : Nat) (h : n ≤ 12) : 28 * n ≤ cum y n ∧ cum y n ≤ 31 * n := by
  induction n with
  | zero => simp [cum]
  | succ n ih => have := ih (by omega); have := dim_bd y (n + 1) (by omega) (by omega); unfold cum; omega
theorem dby_mono {a b : Nat} (h : a ≤ b) : dby a ≤ dby b := by
  induction b with
  | zero => have : a = 0 := by omega
            subst this; omega
  | succ b ih =>
    by_cases e : a = b + 1
    · subst e; omega
    · have := ih (by omega); have := yl_bd (1970 + b)
      show dby a ≤ dby b + yl (1970 + b); omega
theorem cum_mono {y : Int} {a b : Nat} (h : a ≤ b) (hb : b ≤ 12) : cum y a ≤ cum y b := by
  induction b with
  | zero => have : a = 0 := by omega
            subst this; omega
  | succ b ih =>
    by_cases e : a = b + 1
    · subst e; omega
    · have := ih (by omega) (by omega); have := dim_bd y (b + 1) (by omega) (by omega)
      show cum y a ≤ cum y b + dim y (b + 1); omega
theorem dby_all : dby 130 = 47482 := by decide +kernel
theorem cum_all (y : Int) : cum y 12 = yl y := by
  have hd : ∀ m : Int, dim y m = if m = 2 then (if lpB y = true then 29 else mdt (m - 1).toNat) else mdt (m - 1).toNat := by
    intro m; unfold dim
    by_cases h1 : m = 2 <;> by_cases h2 : lpB y = true <;> simp [h1, h2]
  unfold yl
  simp only [cum, hd]
  by_cases h : lpB y = true
  · rw [h]; decide
  · rw [show lpB y = false by simpa using h]; decide

/-- The day of a date; -1 where there is none from 1970 to 2099. -/
def dof (y m d : Int) : Int := if 1970 ≤ y ∧ y ≤ 2099 ∧ 1 ≤ m ∧ m ≤ 12 ∧ 1 ≤ d ∧ d ≤ dim y m then d - 1 + dby (y - 1970).toNat + cum y (m - 1).toNat else -1
/-- A day has this date. -/
def CV (day : Int) (y m d : Int) : Prop := 1970 ≤ y ∧ y ≤ 2099 ∧ 1 ≤ m ∧ m ≤ 12 ∧ 1 ≤ d ∧ d ≤ dim y m ∧ day = d - 1 + dby (y - 1970).toNat + cum y (m - 1).toNat
theorem dof_cv {day y m d : Int} (h : CV day y m d) : dof y m d = day := by
  obtain ⟨a, b, c, e, f, g, h⟩ := h
  unfold dof; rw [if_pos ⟨a, b, c, e, f, g⟩, h]
theorem cum_succ (y : Int) {m : Int} (h1 : 1 ≤ m) : cum y m.toNat = cum y (m - 1).toNat + dim y m := by
  obtain ⟨n, rfl⟩ : ∃ n : Nat, m = (n : Int) + 1 := ⟨(m - 1).toNat, by omega⟩
  rw [show ((n : Int) + 1).toNat = n + 1 by omega, show ((n : Int) + 1 - 1).toNat = n by omega]
  rfl
theorem dby_succ {y : Int} (h : 1970 ≤ y) : dby (y - 1970 + 1).toNat = dby (y - 1970).toNat + yl y := by
  obtain ⟨n, rfl⟩ : ∃ n : Nat, y = 1970 + (n : Int) := ⟨(y - 1970).toNat, by omega⟩
  rw [show (1970 + (n : Int) - 1970 + 1).toNat = n + 1 by omega, show (1970 + (n : Int) - 1970).toNat = n by omega]
  rfl
theorem cv_rest {day y m d : Int} (h : CV day y m d) : dby (y - 1970).toNat ≤ day ∧ day < dby (y - 1970 + 1).toNat := by
  obtain ⟨a, b, c, e, f, g, h⟩ := h
  have h0 := cum_bd y (m - 1).toNat (by omega)
  have h1 := cum_succ y c
  have h2 : cum y m.toNat ≤ cum y 12 := cum_mono (by omega) (Nat.le_refl _)
  rw [cum_all] at h2
  rw [dby_succ a]
  omega
theorem cv_uniq {day y m d y' m' d' : Int} (h : CV day y m d) (h' : CV day y' m' d') : y = y' ∧ m = m' ∧ d = d' := by
  have r := cv_rest h
  have r' := cv_rest h'
  have hy : y = y' := by
    rcases Int.lt_trichotomy y y' with hl | he | hl
    · have := dby_mono (a := (y - 1970 + 1).toNat) (b := (y' - 1970).toNat) (by have := h.1; omega); omega
    · exact he
    · have := dby_mono (a := (y' - 1970 + 1).toNat) (b := (y - 1970).toNat) (by have := h'.1; omega); omega
  subst hy
  obtain ⟨a, b, c, e, f, g, h⟩ := h
  obtain ⟨_, _, c', e', f', g', h'⟩ := h'
  have hm : m = m' := by
    rcases Int.lt_trichotomy m m' with hl | he | hl
    · have h1 := cum_succ y c
      have h2 : cum y m.toNat ≤ cum y (m' - 1).toNat := cum_mono (by omega) (by omega)
      omega
    · exact he
    · have h1 := cum_succ y c'
      have h2 : cum y m'.toNat ≤ cum y (m - 1).toNat := cum_mono (by omega) (by omega)
      omega
  subst hm
  exact ⟨rfl, rfl, by omega⟩
theorem cv_mk {day : Int} {n k : Nat} (hn : n ≤ 129) (hk : k ≤ 11) (h0 : 0 ≤ day - dby n - cum (1970 + n) k) (h1 : day - dby n - cum (1970 + n) k < dim (1970 + n) (k + 1)) :
    CV day (1970 + n) (k + 1) (day - dby n - cum (1970 + n) k + 1) := by
  refine ⟨by omega, by omega, by omega, by omega, by omega, by omega, ?_⟩
  rw [show (1970 + (n : Int) - 1970).toNat = n by omega, show ((k : Int) + 1 - 1).toNat = k by omega]; omega
end Go.Proofs.YtjeihicjfgimdaaGreatDoor.Dt

/-
  PLAIN FACTS of numerals that are filled up with zeros; no word of the program stands here.
-/
namespace Go.Proofs.YtjeihicjfgimdaaGreatDoor.Dig
open Go Go.RowKit
set_option linter.unusedVariables false
set_option maxRecDepth 1000000

def mx (n : Int) : Int := if n < 0 then 0 else n
def mn (n : Int) : Int := if n < 20 then n else 20
theorem mx_bd {n : Int} (h1 : n ≤ 9223372036854775807) : 0 ≤ mx n ∧ mx n ≤ 9223372036854775807 := by unfold mx; split <;> omega
theorem mn_bd (n : Int) : mn n ≤ 20 ∧ mn n ≤ n ∧ (mn n = n ∨ mn n = 20) := by unfold mn; split <;> omega
/-- zeros in front, up to k bytes. -/
def zpad (l : List UInt8) (k : Nat) : List UInt8 := List.replicate (k - l.length) 48 ++ l
theorem zpad_done {l : List UInt8} {k : Nat} (h : k ≤ l.length) : zpad l k = l := by
  unfold zpad; rw [show k - l.length = 0 by omega]; rfl
theorem zpad_step {l : List UInt8} {k : Nat} (h : l.length < k) : zpad (48 :: l) k = zpad l k := by
  unfold zpad
  rw [show k - l.length = (k - (48 :: l).length) + 1 by simp; omega, List.replicate_succ', List.append_assoc]; rfl
theorem zpad_len (l : List UInt8) (k : Nat) : (zpad l k).length = max l.length k := by
  unfold zpad; simp; omega
/-- The digits that the document asks for. -/
def digs (n width : Int) : List UInt8 := zpad (Lib.itoa (mx n)) (mn width).toNat
theorem digs_len {n width : Int} (h1 : n ≤ 9223372036854775807) : mn width ≤ (digs n width).length ∧ (digs n width).length ≤ 20 := by
  obtain ⟨b0, b1⟩ := mx_bd h1
  have hl := Fmt.itoa_len (n := mx n) (by omega) b1
  have hb := mn_bd width
  unfold digs
  rw [zpad_len]
  omega
def strLen : Value → Nat | .string b => b.size | _ => 0
end Go.Proofs.YtjeihicjfgimdaaGreatDoor.Dig

/-
  PLAIN FACTS on the texts of dates.
-/
namespace Go.Proofs.YtjeihicjfgimdaaGreatDoor.Dt
open Go Go.RowKit
set_option linter.unusedVariables false
set_option maxRecDepth 1000000

def days7 : List (List UInt8) := [[83, 117, 110, 100, 97, 121], [77, 111, 110, 100, 97, 121], [84, 117, 101, 115, 100, 97, 121], [87, 101, 100, 110, 101, 115, 100, 97, 121], [84, 104, 117, 114, 115, 100, 97, 121], [70, 114, 105, 100, 97, 121], [83, 97, 116, 117, 114, 100, 97, 121]]
def mons12 : List (List UInt8) := [[74, 97, 110], [70, 101, 98], [77, 97, 114], [65, 112, 114], [77, 97, 121], [74, 117, 110], [74, 117, 108], [65, 117, 103], [83, 101, 112], [79, 99, 116], [78, 111, 118], [68, 101, 99]]
def dnm (k : Nat) : List UInt8 := days7.getD k []
def mnm (k : Nat) : List UInt8 := mons12.getD k []
theorem dnm_len {k : Nat} (h : k < 7) : 6 ≤ (dnm k).length ∧ (dnm k).length ≤ 9 := by
  have : ∀ k : Fin 7, 6 ≤ (dnm k.1).length ∧ (dnm k.1).length ≤ 9 := by decide
  exact this ⟨k, h⟩
theorem mnm_len {k : Nat} (h : k < 12) : (mnm k).length = 3 := by
  have : ∀ k : Fin 12, (mnm k.1).length = 3 := by decide
  exact this ⟨k, h⟩
/-- The weekday of a day. -/
def wkd (day : Int) : Nat := ((day % 7 + 4) % 7).toNat
theorem wkd_lt (day : Int) : wkd day < 7 := by unfold wkd; omega
theorem wkd_cast (day : Int) : ((wkd day : Nat) : Int) = (day % 7 + 4) % 7 := by unfold wkd; omega
def clk (s : Int) : List UInt8 := Dig.digs (s / 3600) 2 ++ [58] ++ Dig.digs (s % 3600 / 60) 2 ++ [58] ++ Dig.digs (s % 60) 2
theorem min_eq {s : Int} (h : 0 ≤ s) : s / 60 % 60 = s % 3600 / 60 := by omega
def form1 (t y m d : Int) : List UInt8 := (dnm (wkd (t / 86400))).take 3 ++ [44, 32] ++ Dig.digs d 2 ++ [32] ++ mnm (m - 1).toNat ++ [32] ++ Dig.digs y 4 ++ [32] ++ clk (t % 86400) ++ [32, 71, 77, 84]
theorem dg2 {n : Int} (h : n ≤ 9223372036854775807) (w : Int) : (Dig.digs n w).length ≤ 20 := (Dig.digs_len h).2
theorem clk_len {s : Int} (h0 : 0 ≤ s) (h1 : s ≤ 86399) : (clk s).length ≤ 62 := by
  unfold clk
  have a := dg2 (n := s / 3600) (by omega) 2
  have b := dg2 (n := s % 3600 / 60) (by omega) 2
  have c := dg2 (n := s % 60) (by omega) 2
  simp only [List.length_append, List.length_cons, List.length_nil]; omega
end Go.Proofs.YtjeihicjfgimdaaGreatDoor.Dt
