/-
  PLAIN FACTS on days, months and years from 1970 on.
-/
import Derived.Test.YtgclilgahalgaaaDoorLeapM
namespace Go.Proofs.YtgclilgahalgaaaDoor.Dt
open Go
set_option linter.unusedVariables false

/-- How many days a year has; a month of it. -/
def yl (y : Int) : Int := if lpB y = true then 366 else 365
def mdays : List Int := [31, 28, 31, 30, 31, 30, 31, 31, 30, 31, 30, 31]
def mdt (k : Nat) : Int := mdays.getD k 0
def dim (y m : Int) : Int := if m = 2 ∧ lpB y = true then 29 else mdt (m - 1).toNat
theorem yl_bd (y : Int) : 365 ≤ yl y ∧ yl y ≤ 366 := by unfold yl; split <;> omega
theorem mdt_bd (k : Nat) (h : k < 12) : 28 ≤ mdt k ∧ mdt k ≤ 31 := by
  have : ∀ k : Fin 12, 28 ≤ mdt k.1 ∧ mdt k.1 ≤ 31 := by decide
  exact this ⟨k, h⟩
theorem dim_bd (y m : Int) (h1 : 1 ≤ m) (h2 : m ≤ 12) : 28 ≤ dim y m ∧ dim y m ≤ 31 := by
  unfold dim; split
  · omega
  · exact mdt_bd _ (by omega)
/-- The days of the n years from 1970 on; of the first n months of a year. -/
def dby : Nat → Int
  | 0 => 0
  | n + 1 => dby n + yl (1970 + n)
def cum (y : Int) : Nat → Int
  | 0 => 0
  | n + 1 => cum y n + dim y (n + 1)
theorem dby_bd (n : Nat) : 365 * n ≤ dby n ∧ dby n ≤ 366 * n := by
  induction n with
  | zero => simp [dby]
  | succ n ih => have := yl_bd (1970 + n); unfold dby; omega
theorem cum_bd (y : Int) (n : Nat) (h : n ≤ 12) : 28 * n ≤ cum y n ∧ cum y n ≤ 31 * n := by
  induction n with
  | zero => simp [cum]
  | succ n ih => have := ih (by omega); have := dim_bd y (n + 1) (by omega) (by omega); unfold cum; omega
theorem dby_mono {a b : Nat} (h : a ≤ b) : dby a ≤ dby b := by
  induction b with
  | zero => have : a = 0 := by omega
            subst this; omega
  | succ b ih =>
    by_cases e : a = b + 1
    · subst e; omega
    · have := ih (by omega); have := yl_bd (1970 + b)
      show dby a ≤ dby b + yl (1970 + b); omega
theorem cum_mono {y : Int} {a b : Nat} (h : a ≤ b) (hb : b ≤ 12) : cum y a ≤ cum y b := by
  induction b with
  | zero => have : a = 0 := by omega
            subst this; omega
  | succ b ih =>
    by_cases e : a = b + 1
    · subst e; omega
    · have := ih (by omega) (by omega); have := dim_bd y (b + 1) (by omega) (by omega)
      show cum y a ≤ cum y b + dim y (b + 1); omega
theorem dby_all : dby 130 = 47482 := by decide +kernel
theorem cum_all (y : Int) : cum y 12 = yl y := by
  have hd : ∀ m : Int, dim y m = if m = 2 then (if lpB y = true then 29 else mdt (m - 1).toNat) else mdt (m - 1).toNat := by
    intro m; unfold dim
    by_cases h1 : m = 2 <;> by_cases h2 : lpB y = true <;> simp [h1, h2]
  unfold yl
  simp only [cum, hd]
  by_cases h : lpB y = true
  · rw [h]; decide
  · rw [show lpB y = false by simpa using h]; decide

/-- The day of a date; -1 where there is none from 1970 to 2099. -/
def dof (y m d : Int) : Int := if 1970 ≤ y ∧ y ≤ 2099 ∧ 1 ≤ m ∧ m ≤ 12 ∧ 1 ≤ d ∧ d ≤ dim y m then d - 1 + dby (y - 1970).toNat + cum y (m - 1).toNat else -1
/-- A day has this date. -/
def CV (day : Int) (y m d : Int) : Prop := 1970 ≤ y ∧ y ≤ 2099 ∧ 1 ≤ m ∧ m ≤ 12 ∧ 1 ≤ d ∧ d ≤ dim y m ∧ day = d - 1 + dby (y - 1970).toNat + cum y (m - 1).toNat
theorem dof_cv {day y m d : Int} (h : CV day y m d) : dof y m d = day := by
  obtain ⟨a, b, c, e, f, g, h⟩ := h
  unfold dof; rw [if_pos ⟨a, b, c, e, f, g⟩, h]
theorem cum_succ (y : Int) {m : Int} (h1 : 1 ≤ m) : cum y m.toNat = cum y (m - 1).toNat + dim y m := by
  obtain ⟨n, rfl⟩ : ∃ n : Nat, m = (n : Int) + 1 := ⟨(m - 1).toNat, by omega⟩
  rw [show ((n : Int) + 1).toNat = n + 1 by omega, show ((n : Int) + 1 - 1).toNat = n by omega]
  rfl
theorem dby_succ {y : Int} (h : 1970 ≤ y) : dby (y - 1970 + 1).toNat = dby (y - 1970).toNat + yl y := by
  obtain ⟨n, rfl⟩ : ∃ n : Nat, y = 1970 + (n : Int) := ⟨(y - 1970).toNat, by omega⟩
  rw [show (1970 + (n : Int) - 1970 + 1).toNat = n + 1 by omega, show (1970 + (n : Int) - 1970).toNat = n by omega]
  rfl
theorem cv_rest {day y m d : Int} (h : CV day y m d) : dby (y - 1970).toNat ≤ day ∧ day < dby (y - 1970 + 1).toNat := by
  obtain ⟨a, b, c, e, f, g, h⟩ := h
  have h0 := cum_bd y (m - 1).toNat (by omega)
  have h1 := cum_succ y c
  have h2 : cum y m.toNat ≤ cum y 12 := cum_mono (by omega) (Nat.le_refl _)
  rw [cum_all] at h2
  rw [dby_succ a]
  omega
theorem cv_uniq {day y m d y' m' d' : Int} (h : CV day y m d) (h' : CV day y' m' d') : y = y' ∧ m = m' ∧ d = d' := by
  have r := cv_rest h
  have r' := cv_rest h'
  have hy : y = y' := by
    rcases Int.lt_trichotomy y y' with hl | he | hl
    · have := dby_mono (a := (y - 1970 + 1).toNat) (b := (y' - 1970).toNat) (by have := h.1; omega); omega
    · exact he
    · have := dby_mono (a := (y' - 1970 + 1).toNat) (b := (y - 1970).toNat) (by have := h'.1; omega); omega
  subst hy
  obtain ⟨a, b, c, e, f, g, h⟩ := h
  obtain ⟨_, _, c', e', f', g', h'⟩ := h'
  have hm : m = m' := by
    rcases Int.lt_trichotomy m m' with hl | he | hl
    · have h1 := cum_succ y c
      have h2 : cum y m.toNat ≤ cum y (m' - 1).toNat := cum_mono (by omega) (by omega)
      omega
    · exact he
    · have h1 := cum_succ y c'
      have h2 : cum y m'.toNat ≤ cum y (m - 1).toNat := cum_mono (by omega) (by omega)
      omega
  subst hm
  exact ⟨rfl, rfl, by omega⟩
theorem cv_mk {day : Int} {n k : Nat} (hn : n ≤ 129) (hk : k ≤ 11) (h0 : 0 ≤ day - dby n - cum (1970 + n) k) (h1 : day - dby n - cum (1970 + n) k < dim (1970 + n) (k + 1)) :
    CV day (1970 + n) (k + 1) (day - dby n - cum (1970 + n) k + 1) := by
  refine ⟨by omega, by omega, by omega, by omega, by omega, by omega, ?_⟩
  rw [show (1970 + (n : Int) - 1970).toNat = n by omega, show ((k : Int) + 1 - 1).toNat = k by omega]; omega
end Go.Proofs.YtgclilgahalgaaaDoor.Dt
