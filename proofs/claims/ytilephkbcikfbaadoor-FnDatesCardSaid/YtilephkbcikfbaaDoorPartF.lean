/-
  CONTRACTS AND PLAIN FACTS, several texts in one; each says in its own words what it proves.
-/
import Derived.Test.YtilephkbcikfbaaDoorPartE
import Derived.Test.YtilephkbcikfbaaDoorRows
import Derived.WalkKit
import Derived.ProofKit
import Derived.Lib.Hide
import Derived.OpenShut
import Derived.Below
import Derived.Lib.ItoaNum
set_option linter.unusedSimpArgs false
set_option linter.unusedVariables false

/-
  PLAIN FACTS on days, months and years from 1970 on.
-/
namespace Go.Proofs.YtilephkbcikfbaaDoor.Dt
open Go
set_option linter.unusedVariables false
set_option maxRecDepth 1000000

/-- How many days a year has; a month of it. -/
def yl (y : Int) : Int := if lpB y = true then 366 else 365
def mdays : List Int := [31, 28, 31, 30, 31, 30, 31, 31, 30, 31, 30, 31]
def mdt (k : Nat) : Int := mdays.getD k 0
def dim (y m : Int) : Int := if m = 2 ∧ lpB y = true then 29 else mdt (m - 1).toNat
theorem yl_bd (y : Int) : 365 ≤ yl y ∧ yl y ≤ 366 := by unfold yl; split <;> omega
theorem mdt_bd (k : Nat) (h : k < 12) : 28 ≤ mdt k ∧ mdt k ≤ 31 := by
  have : ∀ k : Fin 12, 28 ≤ mdt k.1 ∧ mdt k.1 ≤ 31 := by decide
  exact this ⟨k, h⟩
theorem dim_bd (y m : Int) (h1 : 1 ≤ m) (h2 : m ≤ 12) : 28 ≤ dim y m ∧ dim y m ≤ 31 := by
  unfold dim; split
  · omega
  · exact mdt_bd _ (by omega)
/-- The days of the n years from 1970 on; of the first n months of a year. -/
def dby : Nat → Int
  | 0 => 0
  | n + 1 => dby n + yl (1970 + n)
def cum (y : Int) : Nat → Int
  | 0 => 0
  | n + 1 => cum y n + dim y (n + 1)
theorem dby_bd (n : Nat) : 365 * n ≤ dby n ∧ dby n ≤ 366 * n := by
  induction n with
  | zero => simp [dby]
  | succ n ih => have := yl_bd (1970 + n); unfold dby; omega
theorem cum_bd (y : Int) (n : Nat) (h : n ≤ 12) : 28 * n ≤ cum y n ∧ cum y n ≤ 31 * n := by
  induction n with
  | zero => simp [cum]
  | succ n ih => have := ih (by omega); have := dim_bd y (n + 1) (by omega) (by omega); unfold cum; omega
theorem dby_mono {a b : Nat} (h : a ≤ b) : dby a ≤ dby b := by
  induction b with
  | zero => have : a = 0 := by omega
            subst this; omega
  | succ b ih =>
    by_cases e : a = b + 1
    · subst e; omega
    · have := ih (by omega); have := yl_bd (1970 + b)
      show dby a ≤ dby b + yl (1970 + b); omega
theorem cum_mono {y : Int} {a b : Nat} (h : a ≤ b) (hb : b ≤ 12) : cum y a ≤ cum y b := by
  induction b with
  | zero => have : a = 0 := by omega
            subst this; omega
  | succ b ih =>
    by_cases e : a = b + 1
    · subst e; omega
    · have := ih (by omega) (by omega); have := dim_bd y (b + 1) (by omega) (by omega)
      show cum y a ≤ cum y b + dim y (b + 1); omega
theorem dby_all : dby 130 = 47482 := by decide +kernel
theorem cum_all (y : Int) : cum y 12 = yl y := by
  have hd : ∀ m : Int, dim y m = if m = 2 then (if lpB y = true then 29 else mdt (m - 1).toNat) else mdt (m - 1).toNat := by
    intro m; unfold dim
    by_cases h1 : m = 2 <;> by_cases h2 : lpB y = true <;> simp [h1, h2]
  unfold yl
  simp only [cum, hd]
  by_cases h : lpB y = true
  · rw [h]; decide
  · rw [show lpB y = false by simpa using h]; decide

/-- The day of a date; -1 where there is none from 1970 to 2099. -/
def dof (y m d : Int) : Int := if 1970 ≤ y ∧ y ≤ 2099 ∧ 1 ≤ m ∧ m ≤ 12 ∧ 1 ≤ d ∧ d ≤ dim y m then d - 1 + dby (y - 1970).toNat + cum y (m - 1).toNat else -1
/-- A day has this date. -/
def CV (day : Int) (y m d : Int) : Prop := 1970 ≤ y ∧ y ≤ 2099 ∧ 1 ≤ m ∧ m ≤ 12 ∧ 1 ≤ d ∧ d ≤ dim y m ∧ day = d - 1 + dby (y - 1970).toNat + cum y (m - 1).toNat
theorem dof_cv {day y m d : Int} (h : CV day y m d) : dof y m d = day := by
  obtain ⟨a, b, c, e, f, g, h⟩ := h
  unfold dof; rw [if_pos ⟨a, b, c, e, f, g⟩, h]
theorem cum_succ (y : Int) {m : Int} (h1 : 1 ≤ m) : cum y m.toNat = cum y (m - 1).toNat + dim y m := by
  obtain ⟨n, rfl⟩ : ∃ n : Nat, m = (n : Int) + 1 := ⟨(m - 1).toNat, by omega⟩
  rw [show ((n : Int) + 1).toNat = n + 1 by omega, show ((n : Int) + 1 - 1).toNat = n by omega]
  rfl
theorem dby_succ {y : Int} (h : 1970 ≤ y) : dby (y - 1970 + 1).toNat = dby (y - 1970).toNat + yl y := by
  obtain ⟨n, rfl⟩ : ∃ n : Nat, y = 1970 + (n : Int) := ⟨(y - 1970).toNat, by omega⟩
  rw [show (1970 + (n : Int) - 1970 + 1).toNat = n + 1 by omega, show (1970 + (n : Int) - 1970).toNat = n by omega]
  rfl
theorem cv_rest {day y m d : Int} (h : CV day y m d) : dby (y - 1970).toNat ≤ day ∧ day < dby (y - 1970 + 1).toNat := by
  obtain ⟨a, b, c, e, f, g, h⟩ := h
  have h0 := cum_bd y (m - 1).toNat (by omega)
  have h1 := cum_succ y c
  have h2 : cum y m.toNat ≤ cum y 12 := cum_mono (by omega) (Nat.le_refl _)
  rw [cum_all] at h2
  rw [dby_succ a]
  omega
theorem cv_uniq {day y m d y' m' d' : Int} (h : CV day y m d) (h' : CV day y' m' d') : y = y' ∧ m = m' ∧ d = d' := by
  have r := cv_rest h
  have r' := cv_rest h'
  have hy : y = y' := by
    rcases Int.lt_trichotomy y y' with hl | he | hl
    · have := dby_mono (a := (y - 1970 + 1).toNat) (b := (y' - 1970).toNat) (by have := h.1; omega); omega
    · exact he
    · have := dby_mono (a := (y' - 1970 + 1).toNat) (b := (y - 1970).toNat) (by have := h'.1; omega); omega
  subst hy
  obtain ⟨a, b, c, e, f, g, h⟩ := h
  obtain ⟨_, _, c', e', f', g', h'⟩ := h'
  have hm : m = m' := by
    rcases Int.lt_trichotomy m m' with hl | he | hl
    · have h1 := cum_succ y c
      have h2 : cum y m.toNat ≤ cum y (m' - 1).toNat := cum_mono (by omega) (by omega)
      omega
    · exact he
    · have h1 := cum_succ y c'
      have h2 : cum y m'.toNat ≤ cum y (m - 1).toNat := cum_mono (by omega) (by omega)
      omega
  subst hm
  exact ⟨rfl, rfl, by omega⟩
theorem cv_mk {day : Int} {n k : Nat} (hn : n ≤ 129) (hk : k ≤ 11) (h0 : 0 ≤ day - dby n - cum (1970 + n) k) (h1 : day - dby n - cum (1970 + n) k < dim (1970 + n) (k + 1)) :
    CV day (1970 + n) (k + 1) (day - dby n - cum (1970 + n) k + 1) := by
  refine ⟨by omega, by omega, by omega, by omega, by omega, by omega, ?_⟩
  rw [show (1970 + (n : Int) - 1970).toNat = n by omega, show ((k : Int) + 1 - 1).toNat = k by omega]; omega
end Go.Proofs.YtilephkbcikfbaaDoor.Dt

/-
  PLAIN FACTS OF DECIMAL NUMERALS: the digits of a number as the model writes them, one in front of the other; no word of the program stands here.
-/
namespace Go.Proofs.YtilephkbcikfbaaDoor.Fmt
open Go Go.RowKit
set_option linter.unusedVariables false
set_option maxRecDepth 1000000

/-- the digits of u; nothing for 0. -/
def dd (u : Nat) : List UInt8 := if u = 0 then [] else Lib.decDigits u
theorem dd_zero : dd 0 = [] := rfl
theorem dd_pos {u : Nat} (h : u ≠ 0) : dd u = Lib.decDigits u := by unfold dd; rw [if_neg h]
theorem dd_step {u : Nat} (h : u ≠ 0) : dd u = dd (u / 10) ++ [UInt8.ofNat (48 + u % 10)] := by
  rw [dd_pos h, Lib.decDigits]
  by_cases hs : u < 10
  · rw [dif_pos hs, show u / 10 = 0 by omega, dd_zero, show u % 10 = u by omega]; rfl
  · rw [dif_neg hs, dd_pos (by omega)]
theorem nDigits_le (k : Nat) : ∀ u : Nat, u < 10 ^ k → Lib.nDigits u ≤ max k 1 := by
  induction k with
  | zero => intro u h; rw [Lib.nDigits_small (by simp at h; omega)]; omega
  | succ k ih =>
    intro u h
    by_cases hs : u < 10
    · rw [Lib.nDigits_small hs]; omega
    · rw [Lib.nDigits_big hs]
      have hk : k ≠ 0 := by rintro rfl; simp at h; omega
      have := ih (u / 10) (by rw [Nat.pow_succ] at h; omega)
      omega
theorem dd_len {u : Nat} (h : u ≤ 9223372036854775808) : (dd u).length ≤ 19 := by
  unfold dd
  split
  · simp
  · rw [Lib.decDigits_length]
    have := nDigits_le 19 u (by omega)
    omega
theorem itoa_zero : Lib.itoa 0 = [48] := by decide +kernel
theorem itoa_pos {n : Int} (h : 0 < n) : Lib.itoa n = dd n.natAbs := by
  unfold Lib.itoa; rw [if_neg (by omega), dd_pos (by omega)]; congr 1; omega
theorem itoa_neg {n : Int} (h : n < 0) : Lib.itoa n = 45 :: dd n.natAbs := by
  unfold Lib.itoa; rw [if_pos h, dd_pos (by omega)]
theorem itoa_len {n : Int} (h0 : -9223372036854775808 ≤ n) (h1 : n ≤ 9223372036854775807) : 1 ≤ (Lib.itoa n).length ∧ (Lib.itoa n).length ≤ 20 := by
  have hl := dd_len (u := n.natAbs) (by omega)
  rcases Int.lt_trichotomy n 0 with h | h | h
  · rw [itoa_neg h]; simp; omega
  · subst h; rw [itoa_zero]; simp
  · rw [itoa_pos h]
    refine ⟨?_, by omega⟩
    rw [dd_step (by omega)]; simp
end Go.Proofs.YtilephkbcikfbaaDoor.Fmt

/-
  PLAIN FACTS of numerals that are filled up with zeros; no word of the program stands here.
-/
namespace Go.Proofs.YtilephkbcikfbaaDoor.Dig
open Go Go.RowKit
set_option linter.unusedVariables false
set_option maxRecDepth 1000000

def mx (n : Int) : Int := if n < 0 then 0 else n
def mn (n : Int) : Int := if n < 20 then n else 20
theorem mx_bd {n : Int} (h1 : n ≤ 9223372036854775807) : 0 ≤ mx n ∧ mx n ≤ 9223372036854775807 := by unfold mx; split <;> omega
theorem mn_bd (n : Int) : mn n ≤ 20 ∧ mn n ≤ n ∧ (mn n = n ∨ mn n = 20) := by unfold mn; split <;> omega
/-- zeros in front, up to k bytes. -/
def zpad (l : List UInt8) (k : Nat) : List UInt8 := List.replicate (k - l.length) 48 ++ l
theorem zpad_done {l : List UInt8} {k : Nat} (h : k ≤ l.length) : zpad l k = l := by
  unfold zpad; rw [show k - l.length = 0 by omega]; rfl
theorem zpad_step {l : List UInt8} {k : Nat} (h : l.length < k) : zpad (48 :: l) k = zpad l k := by
  unfold zpad
  rw [show k - l.length = (k - (48 :: l).length) + 1 by simp; omega, List.replicate_succ', List.append_assoc]; rfl
theorem zpad_len (l : List UInt8) (k : Nat) : (zpad l k).length = max l.length k := by
  unfold zpad; simp; omega
/-- The digits that the document asks for. -/
def digs (n width : Int) : List UInt8 := zpad (Lib.itoa (mx n)) (mn width).toNat
theorem digs_len {n width : Int} (h1 : n ≤ 9223372036854775807) : mn width ≤ (digs n width).length ∧ (digs n width).length ≤ 20 := by
  obtain ⟨b0, b1⟩ := mx_bd h1
  have hl := Fmt.itoa_len (n := mx n) (by omega) b1
  have hb := mn_bd width
  unfold digs
  rw [zpad_len]
  omega
def strLen : Value → Nat | .string b => b.size | _ => 0
end Go.Proofs.YtilephkbcikfbaaDoor.Dig

/-
  PLAIN FACTS on the texts of dates.
-/
namespace Go.Proofs.YtilephkbcikfbaaDoor.Dt
open Go Go.RowKit
set_option linter.unusedVariables false
set_option maxRecDepth 1000000

def days7 : List (List UInt8) := [[83, 117, 110, 100, 97, 121], [77, 111, 110, 100, 97, 121], [84, 117, 101, 115, 100, 97, 121], [87, 101, 100, 110, 101, 115, 100, 97, 121], [84, 104, 117, 114, 115, 100, 97, 121], [70, 114, 105, 100, 97, 121], [83, 97, 116, 117, 114, 100, 97, 121]]
def mons12 : List (List UInt8) := [[74, 97, 110], [70, 101, 98], [77, 97, 114], [65, 112, 114], [77, 97, 121], [74, 117, 110], [74, 117, 108], [65, 117, 103], [83, 101, 112], [79, 99, 116], [78, 111, 118], [68, 101, 99]]
def dnm (k : Nat) : List UInt8 := days7.getD k []
def mnm (k : Nat) : List UInt8 := mons12.getD k []
theorem dnm_len {k : Nat} (h : k < 7) : 6 ≤ (dnm k).length ∧ (dnm k).length ≤ 9 := by
  have : ∀ k : Fin 7, 6 ≤ (dnm k.1).length ∧ (dnm k.1).length ≤ 9 := by decide
  exact this ⟨k, h⟩
theorem mnm_len {k : Nat} (h : k < 12) : (mnm k).length = 3 := by
  have : ∀ k : Fin 12, (mnm k.1).length = 3 := by decide
  exact this ⟨k, h⟩
/-- The weekday of a day. -/
def wkd (day : Int) : Nat := ((day % 7 + 4) % 7).toNat
theorem wkd_lt (day : Int) : wkd day < 7 := by unfold wkd; omega
theorem wkd_cast (day : Int) : ((wkd day : Nat) : Int) = (day % 7 + 4) % 7 := by unfold wkd; omega
def clk (s : Int) : List UInt8 := Dig.digs (s / 3600) 2 ++ [58] ++ Dig.digs (s % 3600 / 60) 2 ++ [58] ++ Dig.digs (s % 60) 2
theorem min_eq {s : Int} (h : 0 ≤ s) : s / 60 % 60 = s % 3600 / 60 := by omega
def form1 (t y m d : Int) : List UInt8 := (dnm (wkd (t / 86400))).take 3 ++ [44, 32] ++ Dig.digs d 2 ++ [32] ++ mnm (m - 1).toNat ++ [32] ++ Dig.digs y 4 ++ [32] ++ clk (t % 86400) ++ [32, 71, 77, 84]
theorem dg2 {n : Int} (h : n ≤ 9223372036854775807) (w : Int) : (Dig.digs n w).length ≤ 20 := (Dig.digs_len h).2
theorem clk_len {s : Int} (h0 : 0 ≤ s) (h1 : s ≤ 86399) : (clk s).length ≤ 62 := by
  unfold clk
  have a := dg2 (n := s / 3600) (by omega) 2
  have b := dg2 (n := s % 3600 / 60) (by omega) 2
  have c := dg2 (n := s % 60) (by omega) 2
  simp only [List.length_append, List.length_cons, List.length_nil]; omega
end Go.Proofs.YtilephkbcikfbaaDoor.Dt

/-
  CONTRACT of the model's small test l1In: whether a number lies between two others; the world stays as it was.
-/
namespace Go.Proofs.YtilephkbcikfbaaDoor.NumDiv
open Go Go.RowKit
set_option linter.unusedVariables false
set_option maxRecDepth 1000000

theorem in_yes (x lo hi : Int) (w : World) (h1 : lo ≤ x) (h2 : x ≤ hi) :
    Calls Tryd.prog 26 #[.int .i64 x, .int .i64 lo, .int .i64 hi] w fun e w' => e = .returned (.bool true) ∧ w = w' := by
  go_enter Tryd.func26, Tryd.ntmps26
  go_wp2
  go_ret
  exact ⟨rfl, rfl⟩
theorem in_no (x lo hi : Int) (w : World) (h : x < lo ∨ hi < x) :
    Calls Tryd.prog 26 #[.int .i64 x, .int .i64 lo, .int .i64 hi] w fun e w' => e = .returned (.bool false) ∧ w = w' := by
  by_cases h1 : lo ≤ x
  · have h2 : ¬ x ≤ hi := by omega
    clear h
    go_enter Tryd.func26, Tryd.ntmps26
    go_wp2
    go_ret
    exact ⟨rfl, rfl⟩
  · clear h
    go_enter Tryd.func26, Tryd.ntmps26
    go_wp2
    go_ret
    exact ⟨rfl, rfl⟩
end Go.Proofs.YtilephkbcikfbaaDoor.NumDiv

/-
  CONTRACT of the model's Mod: at every two integers of 64 bits it returns the remainder rounded down, 0 for a divisor out of range; the world stays as it was.
-/
namespace Go.Proofs.YtilephkbcikfbaaDoor.NumDiv
open Go Go.RowKit
set_option linter.unusedVariables false
set_option maxRecDepth 1000000

theorem spec_mod (n m : Int) (w : World) (wn : (Lit.int .i64 n).wf = true) (wm : (Lit.int .i64 m).wf = true) :
    Calls Tryd.prog 52 #[.int .i64 n, .int .i64 m] w fun e w' => e = .returned (.int .i64 (md n m)) ∧ w = w' := by
  by_cases h : m < 1 ∨ 1000000000000 < m
  · rw [md_out h]
    have H := Lib.hid h; clear h
    go_enter Tryd.func52, Tryd.ntmps52
    go_wp2_with (go_at_call 26; refine (in_no _ _ _ _ H.out).mono ?_; rintro e w' ⟨rfl, rfl⟩)
    go_ret
    exact ⟨rfl, rfl⟩
  · have h1 : 1 ≤ m := by omega
    have h2 : m ≤ 1000000000000 := by omega
    rw [md_in h1 h2]
    clear h
    obtain ⟨b1, b2⟩ := tmod_bd n m h1
    have h0 : 0 ≤ n.tmod m + m := by omega
    go_enter Tryd.func52, Tryd.ntmps52
    go_wp2_with (go_at_call 26; refine (in_yes _ _ _ _ h1 h2).mono ?_; rintro e w' ⟨rfl, rfl⟩)
    go_ret
    refine ⟨ret_int ?_, rfl⟩
    rcases tmod_split n m h1 with e | ⟨_, e⟩ <;> rw [e] <;> simp
end Go.Proofs.YtilephkbcikfbaaDoor.NumDiv

/-
  CONTRACT of the model's IsLeap: at every integer of 64 bits it returns whether the year is a leap year; the world stays as it was.
-/
namespace Go.Proofs.YtilephkbcikfbaaDoor.Dt
open Go Go.RowKit
set_option linter.unusedVariables false
set_option maxRecDepth 1000000

theorem mod_s (y m : Int) (w : World) (wy : (Lit.int .i64 y).wf = true) (h1 : 1 ≤ m) (h2 : m ≤ 1000000) :
    Calls Tryd.prog 52 #[.int .i64 y, .int .i64 m] w fun e w' => e = .returned (.int .i64 (y % m)) ∧ w = w' := by
  have c := NumDiv.spec_mod y m w wy (Go.WalkArith.wf_i64 ⟨by omega, by omega⟩)
  rw [NumDiv.md_in h1 (by omega)] at c
  exact c

set_option maxHeartbeats 1000000 in
theorem spec_leap (y : Int) (w : World) (wy : (Lit.int .i64 y).wf = true) :
    Calls Tryd.prog 50 #[.int .i64 y] w fun e w' => e = .returned (.bool (lpB y)) ∧ w = w' := by
  have c4 := mod_s y 4 w wy (by omega) (by omega)
  have c100 := mod_s y 100 w wy (by omega) (by omega)
  have c400 := mod_s y 400 w wy (by omega) (by omega)
  by_cases h4 : y % 4 = 0
  · by_cases h100 : y % 100 = 0
    · rw [lp_cent h100]
      have k4 := b_yes h4
      have k100 := n_no h100
      generalize y % 4 = a at *
      generalize y % 100 = b at *
      generalize y % 400 = c at *
      clear h4 h100
      go_enter Tryd.func50, Tryd.ntmps50
      go_wp2_with (fail)
      go_at_call 52
      refine c4.mono ?_
      rintro e w' ⟨rfl, rfl⟩
      go_wp2_with (fail)
      go_at_call 52
      refine c100.mono ?_
      rintro e w' ⟨rfl, rfl⟩
      go_wp2_with (fail)
      go_at_call 52
      refine c400.mono ?_
      rintro e w' ⟨rfl, rfl⟩
      go_wp2
      go_ret
      exact ⟨rfl, rfl⟩
    · rw [lp_yes h4 h100]
      have k4 := b_yes h4
      have k100 := n_yes h100
      generalize y % 4 = a at *
      generalize y % 100 = b at *
      clear h4 h100
      go_enter Tryd.func50, Tryd.ntmps50
      go_wp2_with (fail)
      go_at_call 52
      refine c4.mono ?_
      rintro e w' ⟨rfl, rfl⟩
      go_wp2_with (fail)
      go_at_call 52
      refine c100.mono ?_
      rintro e w' ⟨rfl, rfl⟩
      go_wp2
      go_ret
      exact ⟨rfl, rfl⟩
  · rw [lp_no h4]
    have k4 := b_no h4
    generalize y % 4 = a at *
    clear h4
    go_enter Tryd.func50, Tryd.ntmps50
    go_wp2_with (fail)
    go_at_call 52
    refine c4.mono ?_
    rintro e w' ⟨rfl, rfl⟩
    go_wp2
    go_ret
    exact ⟨rfl, rfl⟩
end Go.Proofs.YtilephkbcikfbaaDoor.Dt

/-
  CONTRACT of the program's isDivisor: whether a number may be a divisor; the world stays as it was.
-/
namespace Go.Proofs.YtilephkbcikfbaaDoor.NumDiv
open Go Go.RowKit
set_option linter.unusedVariables false
set_option maxRecDepth 1000000

theorem isd_yes (m : Int) (w : World) (h1 : 1 ≤ m) (h2 : m ≤ 1000000000000) :
    Calls Tryd.prog 30 #[.int .i64 m] w fun e w' => e = .returned (.bool true) ∧ w = w' := by
  go_enter Tryd.func30, Tryd.ntmps30
  go_wp2
  go_ret
  exact ⟨rfl, rfl⟩
theorem isd_no (m : Int) (w : World) (h : m < 1 ∨ 1000000000000 < m) :
    Calls Tryd.prog 30 #[.int .i64 m] w fun e w' => e = .returned (.bool false) ∧ w = w' := by
  by_cases h1 : 1 ≤ m
  · have h2 : ¬ m ≤ 1000000000000 := by omega
    clear h
    go_enter Tryd.func30, Tryd.ntmps30
    go_wp2
    go_ret
    exact ⟨rfl, rfl⟩
  · clear h
    go_enter Tryd.func30, Tryd.ntmps30
    go_wp2
    go_ret
    exact ⟨rfl, rfl⟩
end Go.Proofs.YtilephkbcikfbaaDoor.NumDiv

/-
  CONTRACT of the program's Mod: at every two integers of 64 bits it returns the remainder rounded down, 0 for a divisor out of range; the world stays as it was.
-/
namespace Go.Proofs.YtilephkbcikfbaaDoor.NumDiv
open Go Go.RowKit
set_option linter.unusedVariables false
set_option maxRecDepth 1000000

theorem impl_mod (n m : Int) (w : World) (wn : (Lit.int .i64 n).wf = true) (wm : (Lit.int .i64 m).wf = true) :
    Calls Tryd.prog 13 #[.int .i64 n, .int .i64 m] w fun e w' => e = .returned (.int .i64 (md n m)) ∧ w = w' := by
  by_cases h : m < 1 ∨ 1000000000000 < m
  · rw [md_out h]
    have H := Lib.hid h; clear h
    go_enter Tryd.func13, Tryd.ntmps13
    go_wp2_with (go_at_call 30; refine (isd_no _ _ H.out).mono ?_; rintro e w' ⟨rfl, rfl⟩)
    go_ret
    exact ⟨rfl, rfl⟩
  · have h1 : 1 ≤ m := by omega
    have h2 : m ≤ 1000000000000 := by omega
    rw [md_in h1 h2]
    clear h
    have bd := tmod_bd n m h1
    obtain ⟨b1, b2⟩ := bd
    by_cases hr : n.tmod m < 0
    · rw [← tmod_neg_emod h1 hr]
      go_enter Tryd.func13, Tryd.ntmps13
      go_wp2_with (go_at_call 30; refine (isd_yes _ _ h1 h2).mono ?_; rintro e w' ⟨rfl, rfl⟩)
      go_ret
      exact ⟨rfl, rfl⟩
    · rw [← tmod_pos_emod h1 (by omega)]
      go_enter Tryd.func13, Tryd.ntmps13
      go_wp2_with (go_at_call 30; refine (isd_yes _ _ h1 h2).mono ?_; rintro e w' ⟨rfl, rfl⟩)
      go_ret
      exact ⟨rfl, rfl⟩
end Go.Proofs.YtilephkbcikfbaaDoor.NumDiv

/-
  CONTRACT of the program's IsLeap: at every integer of 64 bits it returns whether the year is a leap year; the world stays as it was.
-/
namespace Go.Proofs.YtilephkbcikfbaaDoor.Dt
open Go Go.RowKit
set_option linter.unusedVariables false
set_option maxRecDepth 1000000

theorem mod_i (y m : Int) (w : World) (wy : (Lit.int .i64 y).wf = true) (h1 : 1 ≤ m) (h2 : m ≤ 1000000) :
    Calls Tryd.prog 13 #[.int .i64 y, .int .i64 m] w fun e w' => e = .returned (.int .i64 (y % m)) ∧ w = w' := by
  have c := NumDiv.impl_mod y m w wy (Go.WalkArith.wf_i64 ⟨by omega, by omega⟩)
  rw [NumDiv.md_in h1 (by omega)] at c
  exact c

set_option maxHeartbeats 1000000 in
theorem impl_leap (y : Int) (w : World) (wy : (Lit.int .i64 y).wf = true) :
    Calls Tryd.prog 14 #[.int .i64 y] w fun e w' => e = .returned (.bool (lpB y)) ∧ w = w' := by
  have c4 := mod_i y 4 w wy (by omega) (by omega)
  have c100 := mod_i y 100 w wy (by omega) (by omega)
  have c400 := mod_i y 400 w wy (by omega) (by omega)
  by_cases h4 : y % 4 = 0
  · by_cases h100 : y % 100 = 0
    · rw [lp_cent h100]
      have k4 := b_yes h4
      have k100 := n_no h100
      generalize y % 4 = a at *
      generalize y % 100 = b at *
      generalize y % 400 = c at *
      clear h4 h100
      go_enter Tryd.func14, Tryd.ntmps14
      go_wp2_with (fail)
      go_at_call 13
      refine c4.mono ?_
      rintro e w' ⟨rfl, rfl⟩
      go_wp2_with (fail)
      go_at_call 13
      refine c100.mono ?_
      rintro e w' ⟨rfl, rfl⟩
      go_wp2_with (fail)
      go_at_call 13
      refine c400.mono ?_
      rintro e w' ⟨rfl, rfl⟩
      go_wp2
      go_ret
      exact ⟨rfl, rfl⟩
    · rw [lp_yes h4 h100]
      have k4 := b_yes h4
      have k100 := n_yes h100
      generalize y % 4 = a at *
      generalize y % 100 = b at *
      clear h4 h100
      go_enter Tryd.func14, Tryd.ntmps14
      go_wp2_with (fail)
      go_at_call 13
      refine c4.mono ?_
      rintro e w' ⟨rfl, rfl⟩
      go_wp2_with (fail)
      go_at_call 13
      refine c100.mono ?_
      rintro e w' ⟨rfl, rfl⟩
      go_wp2
      go_ret
      exact ⟨rfl, rfl⟩
  · rw [lp_no h4]
    have k400 : (y % 400 == 0) = false := b_no (by omega)
    have k4 := b_no h4
    generalize y % 4 = a at *
    generalize y % 400 = c at *
    clear h4
    go_enter Tryd.func14, Tryd.ntmps14
    go_wp2_with (fail)
    go_at_call 13
    refine c4.mono ?_
    rintro e w' ⟨rfl, rfl⟩
    go_wp2_with (fail)
    go_at_call 13
    refine c400.mono ?_
    rintro e w' ⟨rfl, rfl⟩
    go_wp2
    go_ret
    exact ⟨rfl, rfl⟩
end Go.Proofs.YtilephkbcikfbaaDoor.Dt
