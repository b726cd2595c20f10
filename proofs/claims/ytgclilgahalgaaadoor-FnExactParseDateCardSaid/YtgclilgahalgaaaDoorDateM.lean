/-
  PLAIN FACTS on the texts of dates.
-/
import Derived.Test.YtgclilgahalgaaaDoorDayM
import Derived.Test.YtgclilgahalgaaaDoorDigMath
namespace Go.Proofs.YtgclilgahalgaaaDoor.Dt
open Go Go.RowKit
set_option linter.unusedVariables false

def days7 : List (List UInt8) := [[83, 117, 110, 100, 97, 121], [77, 111, 110, 100, 97, 121], [84, 117, 101, 115, 100, 97, 121], [87, 101, 100, 110, 101, 115, 100, 97, 121], [84, 104, 117, 114, 115, 100, 97, 121], [70, 114, 105, 100, 97, 121], [83, 97, 116, 117, 114, 100, 97, 121]]
def mons12 : List (List UInt8) := [[74, 97, 110], [70, 101, 98], [77, 97, 114], [65, 112, 114], [77, 97, 121], [74, 117, 110], [74, 117, 108], [65, 117, 103], [83, 101, 112], [79, 99, 116], [78, 111, 118], [68, 101, 99]]
def dnm (k : Nat) : List UInt8 := days7.getD k []
def mnm (k : Nat) : List UInt8 := mons12.getD k []
theorem dnm_len {k : Nat} (h : k < 7) : 6 ≤ (dnm k).length ∧ (dnm k).length ≤ 9 := by
  have : ∀ k : Fin 7, 6 ≤ (dnm k.1).length ∧ (dnm k.1).length ≤ 9 := by decide
  exact this ⟨k, h⟩
theorem mnm_len {k : Nat} (h : k < 12) : (mnm k).length = 3 := by
  have : ∀ k : Fin 12, (mnm k.1).length = 3 := by decide
  exact this ⟨k, h⟩
/-- The weekday of a day. -/
def wkd (day : Int) : Nat := ((day % 7 + 4) % 7).toNat
theorem wkd_lt (day : Int) : wkd day < 7 := by unfold wkd; omega
theorem wkd_cast (day : Int) : ((wkd day : Nat) : Int) = (day % 7 + 4) % 7 := by unfold wkd; omega
def clk (s : Int) : List UInt8 := Dig.digs (s / 3600) 2 ++ [58] ++ Dig.digs (s % 3600 / 60) 2 ++ [58] ++ Dig.digs (s % 60) 2
theorem min_eq {s : Int} (h : 0 ≤ s) : s / 60 % 60 = s % 3600 / 60 := by omega
def form1 (t y m d : Int) : List UInt8 := (dnm (wkd (t / 86400))).take 3 ++ [44, 32] ++ Dig.digs d 2 ++ [32] ++ mnm (m - 1).toNat ++ [32] ++ Dig.digs y 4 ++ [32] ++ clk (t % 86400) ++ [32, 71, 77, 84]
theorem dg2 {n : Int} (h : n ≤ 9223372036854775807) (w : Int) : (Dig.digs n w).length ≤ 20 := (Dig.digs_len h).2
theorem clk_len {s : Int} (h0 : 0 ≤ s) (h1 : s ≤ 86399) : (clk s).length ≤ 62 := by
  unfold clk
  have a := dg2 (n := s / 3600) (by omega) 2
  have b := dg2 (n := s % 3600 / 60) (by omega) 2
  have c := dg2 (n := s % 60) (by omega) 2
  simp only [List.length_append, List.length_cons, List.length_nil]; omega
end Go.Proofs.YtgclilgahalgaaaDoor.Dt
