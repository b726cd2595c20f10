/-
  CONTRACTS of the draws of chapter 1 (DrawFormatInt, DrawFloorDiv, DrawDigits): over any slice of bytes they answer integers of 64 bits; nothing that was there before is changed.
-/
import Derived.Test.YtnlacigaedkijaaDoorCurNew
namespace Go.Proofs.YtnlacigaedkijaaDoor.Cur
open Go Go.RowKit
set_option linter.unusedVariables false

def OneInt (w : World) (e : Ending) (w' : World) : Prop := ∃ x : Int, Fits x ∧ e = .returned (.int .i64 x) ∧ Below w.heap.size w w'
def TwoInts (w : World) (e : Ending) (w' : World) : Prop := ∃ x y : Int, Fits x ∧ Fits y ∧ e = .returned (.tuple #[.int .i64 x, .int .i64 y]) ∧ Below w.heap.size w w'

theorem draw_one (B : Nat) (bv : Value) (w : World) (hby : Bytes w B bv) (hB : B ≤ w.heap.size) :
    Calls Tryd.prog 8 #[bv] w (OneInt w) := by
  go_enter Tryd.func8, Tryd.ntmps8
  go_wp2_with (fail)
  go_at_call 21
  refine (new_any B bv _ hby).mono ?_
  rintro e w1 ⟨h, rfl, rfl⟩
  go_wp2_with (fail)
  go_at_call 22
  refine (one_any w.heap.size B bv _ (made_cur bv h w) (bytes_alloc hby _) hB).mono ?_
  rintro e w2 ⟨x, hx, rfl, hc2, hg2⟩
  go_wp2
  go_ret
  exact ⟨_, hx, rfl, below_gb ((Below.refl _ _).alloc (Nat.le_refl _) _) hg2 (by simp) (Nat.le_refl _)⟩

def widths : List Int := [0, 2, 4, 25, -1]
def divisors : List Int := [1, 2, 7, 251, 0, -3, 1000000000000, 1000000000001]
theorem widths_fit (x : Int) (h : x ∈ widths) : Fits x := by unfold widths at h; unfold Fits; simp at h; omega
theorem divisors_fit (x : Int) (h : x ∈ divisors) : Fits x := by unfold divisors at h; unfold Fits; simp at h; omega

theorem draw_div (B : Nat) (bv : Value) (w : World) (hby : Bytes w B bv) (hB : B ≤ w.heap.size) :
    Calls Tryd.prog 11 #[bv] w (TwoInts w) := by
  go_enter Tryd.func11, Tryd.ntmps11
  go_wp2_with (fail)
  go_at_call 21
  refine (new_any B bv _ hby).mono ?_
  rintro e w1 ⟨h, rfl, rfl⟩
  go_wp2_with (fail)
  go_at_call 22
  refine (one_any w.heap.size B bv _ (made_cur bv h w) (bytes_alloc hby _) hB).mono ?_
  rintro e w2 ⟨x, hx, rfl, hc2, hg2⟩
  have hb2 := bytes_kept (bytes_alloc hby _) hg2 hB
  have H := int_lits w.heap.size B bv divisors 8 rfl w2 hc2 hb2 hB (by decide) (by decide) 3
  go_wp2_with (fail)
  go_at_call 25
  refine H.mono ?_
  rintro e w3 ⟨y, hy, rfl, hc3, hg3⟩
  have HY := Lib.hid (divisors_fit y hy)
  clear hy H
  go_wp2
  go_ret2
  exact ⟨_, _, hx, HY.out, rfl, below_gb (below_gb ((Below.refl _ _).alloc (Nat.le_refl _) _) hg2 (by simp) (Nat.le_refl _)) hg3 (by have := cur_lt hc2; omega) (Nat.le_refl _)⟩

theorem draw_dig (B : Nat) (bv : Value) (w : World) (hby : Bytes w B bv) (hB : B ≤ w.heap.size) :
    Calls Tryd.prog 14 #[bv] w (TwoInts w) := by
  go_enter Tryd.func14, Tryd.ntmps14
  go_wp2_with (fail)
  go_at_call 21
  refine (new_any B bv _ hby).mono ?_
  rintro e w1 ⟨h, rfl, rfl⟩
  go_wp2_with (fail)
  go_at_call 22
  refine (one_any w.heap.size B bv _ (made_cur bv h w) (bytes_alloc hby _) hB).mono ?_
  rintro e w2 ⟨x, hx, rfl, hc2, hg2⟩
  have hb2 := bytes_kept (bytes_alloc hby _) hg2 hB
  have H := int_lits w.heap.size B bv widths 5 rfl w2 hc2 hb2 hB (by decide) (by decide) 3
  go_wp2_with (fail)
  go_at_call 25
  refine H.mono ?_
  rintro e w3 ⟨y, hy, rfl, hc3, hg3⟩
  have HY := Lib.hid (widths_fit y hy)
  clear hy H
  go_wp2
  go_ret2
  exact ⟨_, _, hx, HY.out, rfl, below_gb (below_gb ((Below.refl _ _).alloc (Nat.le_refl _) _) hg2 (by simp) (Nat.le_refl _)) hg3 (by have := cur_lt hc2; omega) (Nat.le_refl _)⟩
end Go.Proofs.YtnlacigaedkijaaDoor.Cur
