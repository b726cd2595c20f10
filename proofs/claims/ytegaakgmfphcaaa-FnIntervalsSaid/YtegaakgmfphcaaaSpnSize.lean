/-
  CONTRACTS of SpanSize, the model's and the program's; nothing that was there before is changed.
-/
import Derived.Test.YtegaakgmfphcaaaSpnIs
import Derived.Test.YtegaakgmfphcaaaRegS
namespace Go.Proofs.Ytegaakgmfphcaaa.Spn
open Go Go.RowKit
set_option linter.unusedVariables false
set_option maxRecDepth 1000000

def wsum (l : List S) : Int := RowKit.wrap64 (ssum l)
def IntEnd (n : Int) (w : World) (e : Ending) (w' : World) : Prop := e = .returned (.int .i64 n) ∧ Below w.heap.size w w'
theorem ret_int {a b : Int} (h : a = b) : Ending.returned (.int .i64 a) = .returned (.int .i64 b) := by rw [h]
theorem wsum_zero (l : List S) : wsum (l.take 0) = 0 := by unfold wsum; rw [ssum_zero]; unfold RowKit.wrap64; omega
theorem wrap_add (a b : Int) : RowKit.wrap64 (RowKit.wrap64 a + b) = RowKit.wrap64 (a + b) := by unfold RowKit.wrap64; omega
theorem wrap_add' (a b : Int) : RowKit.wrap64 (a + RowKit.wrap64 b) = RowKit.wrap64 (a + b) := by unfold RowKit.wrap64; omega
theorem wrap_sub (a b : Int) : RowKit.wrap64 (RowKit.wrap64 a - b) = RowKit.wrap64 (a - b) := by unfold RowKit.wrap64; omega
theorem wsum_a {l : List S} {k : Nat} (h : k < l.length) : wsum (l.take (k + 1)) = RowKit.wrap64 (RowKit.wrap64 (wsum (l.take k) + (l.getD k nos).2) - (l.getD k nos).1) := by
  unfold wsum; rw [ssum_more h, wrap_sub, show RowKit.wrap64 (ssum (l.take k)) + (l.getD k nos).2 - (l.getD k nos).1 = RowKit.wrap64 (ssum (l.take k)) + ((l.getD k nos).2 - (l.getD k nos).1) by omega, wrap_add]
theorem wsum_b {l : List S} {k : Nat} (h : k < l.length) : wsum (l.take (k + 1)) = RowKit.wrap64 (wsum (l.take k) + RowKit.wrap64 ((l.getD k nos).2 - (l.getD k nos).1)) := by
  unfold wsum; rw [ssum_more h, wrap_add, wrap_add']
theorem wsum_all {l : List S} {k : Nat} (h : ¬ k < l.length) : wsum (l.take k) = wsum l := by unfold wsum; rw [ssum_all h]

set_option maxHeartbeats 2000000 in
theorem impl_size (v : Value) (B : Nat) (l : List T) (w : World) (h : Holds w B v l) (hB : B ≤ w.heap.size) (hl : l.length ≤ 4194304) :
    Calls Try.prog 15 #[v] w (IntEnd (wsum l) w) := by
  obtain ⟨a, cap, rfl, ha⟩ := shape h
  have HA := Lib.hid ha
  clear ha h
  go_enter Try.func15, Try.ntmps15
  go_wp2
  go_loopw [3, 8] (fun n i wr => ∃ k : Nat, k ≤ l.length ∧ i = .int .i64 (k : Int) ∧ n = .int .i64 (wsum (l.take k)) ∧ Below w.heap.size w wr) (fun _ i _ => l.length - (intOf i).toNat)
  case atStart => exact ⟨0, Nat.zero_le _, rfl, by rw [wsum_zero], Below.refl _ _⟩
  case round =>
    obtain ⟨k, hk, rfl, rfl, hb⟩ := hrel
    have HB := Lib.hid hb
    by_cases hlt : k < l.length
    · obtain ⟨b, off, rfl, hbw, hcap, hc⟩ := HA.out (by omega)
      obtain ⟨c0, c1⟩ := at_cells (at_below hc hb (Nat.lt_of_lt_of_le hbw hB)) hlt
      have HM := Lib.hid (wsum_b hlt)
      have hn : l.getD k nov = l.getD k nos := rfl
      rw [hn] at c0 c1
      clear hb hc hn
      generalize l.getD k nos = x at c0 c1 HM
      obtain ⟨x, y⟩ := x
      simp only at c0 c1 HM
      generalize wsum (l.take k) = n at HM ⊢
      have HBA := Lib.hid (HB.out.alloc HB.out.size (.cells #[.int .i64 x, .int .i64 y] 26))
      go_wp2
      all_goals first | (go_quiet (fail); go_wp2) | skip
      go_roundw
      case rel => exact ⟨k + 1, by omega, by go_num, by rw [HM.out], by first | exact HBA.out | exact Rec.below_drewN HBA.out _⟩
      case measure => simp [intOf]; omega
    · have HE := Lib.hid (wsum_all hlt)
      clear hb
      go_wp2
      go_ret
      exact ⟨ret_int HE.out, HB.out⟩
end Go.Proofs.Ytegaakgmfphcaaa.Spn
