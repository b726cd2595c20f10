/-
  CONTRACTS of the laws' helpers for slices of integers: a copy (toIntS) holds the same integers in a new block; two slices of the same integers are equal (eqIntS). Nothing that was there before is changed.
-/
import Derived.Test.YtebkhailknbnhaaNums
import Derived.LoopTactic
namespace Go.Proofs.Ytebkhailknbnhaa.Nums
open Go Go.RowKit
set_option linter.unusedVariables false
set_option maxRecDepth 1000000

/-- The copy, when k of its places are filled. -/
def part (zs : List Int) (k : Nat) : List Int := zs.take k ++ List.replicate (zs.length - k) 0
theorem part_len (zs : List Int) {k : Nat} (h : k ≤ zs.length) : (part zs k).length = zs.length := by
  unfold part; rw [List.length_append, List.length_take, List.length_replicate]; omega
theorem part_zero (zs : List Int) : part zs 0 = List.replicate zs.length 0 := by unfold part; simp
theorem part_all (zs : List Int) : part zs zs.length = zs := by unfold part; simp
theorem part_more {zs : List Int} {k : Nat} (h : k < zs.length) : (part zs k).set k (zs.getD k 0) = part zs (k + 1) := by
  unfold part
  rw [List.set_append_right _ _ (by rw [List.length_take]; omega), List.length_take, show k - min k zs.length = 0 by omega,
    show zs.length - k = (zs.length - (k + 1)) + 1 by omega, List.replicate_succ, List.set_cons_zero, List.take_succ_eq_append_getElem h, List.append_assoc]
  simp [List.getD, h]
theorem made_part (zs : List Int) : (madeCells (Value.int .i64 0).cells (zs.length * 1)).toList = (part zs 0).map (Value.int .i64) := by
  rw [show (Value.int .i64 0).cells = #[.int .i64 0] from rfl, Nat.mul_one, toList_madeCells_one, part_zero, List.map_replicate]

def Copied (zs : List Int) (w : World) (e : Ending) (w' : World) : Prop := ∃ v, e = .returned v ∧ Holds w' v zs ∧ Below w.heap.size w w'

theorem copy_nil (a : Option Addr) (cap : Nat) (w : World) :
    Calls Try.prog 36 #[.slice a 0 cap] w (Copied [] w) := by
  obtain ⟨i0, hi, hz0, hz1, hz2⟩ := info_parts info_int
  go_enter Try.func36, Try.ntmps36
  go_wp2_with (refine wpList_make_full _ (by rfl) (.tmp 6) (.tmp 6) 22 (by rfl) w.heap.size 3 i0 (.int .i64 0) 1 Try.underlying22 hi hz0 hz1 .i64 .i64 _ _ 0 (by rfl) (by rfl) rfl rfl (by rw [hz2]; omega) (by decide) (Nat.le_refl _) ?_; intro w1 hown hgrow)
  go_loop [4] (fun i => i = .int .i64 0) (fun i => 0)
  case atStart => rfl
  case round =>
    obtain rfl := hrel
    go_wp2
    go_ret
    exact ⟨_, rfl, Or.inl ⟨rfl, _, _, rfl⟩, (Below.refl _ _).grown hgrow (Nat.le_refl _) (fun k e => by cases e)⟩

theorem copy_some (b off cap : Nat) (zs : List Int) (w : World) (hc : At w b off zs) (h0 : 0 < zs.length) (hl : zs.length ≤ 1000000000000) :
    Calls Try.prog 36 #[.slice (some ⟨b, off, none⟩) zs.length cap] w (Copied zs w) := by
  obtain ⟨i0, hi, hz0, hz1, hz2⟩ := info_parts info_int
  have hbl := at_lt hc h0
  have HC := Lib.hid hc
  clear hc
  go_enter Try.func36, Try.ntmps36
  go_wp2_with (at_make; refine wpList_make_full _ rfl (.tmp 6) (.tmp 6) 22 rfl w.heap.size 3 i0 (.int .i64 0) 1 Try.underlying22 hi hz0 hz1 .i64 .i64 _ _ zs.length rfl rfl rfl rfl (by rw [hz2]; omega) (by unfold maxLen; omega) (Nat.le_refl _) ?_; intro w1 hown hgrow)
  rw [made_part] at hown
  have hb1 : Below w.heap.size w w1 := (Below.refl _ _).grown hgrow (Nat.le_refl _) (fun k e => by cases e)
  clear hgrow hi hz0 hz1 hz2
  have HO := Lib.hid hown
  clear hown
  go_loopw [4] (fun i wr => ∃ k : Nat, k ≤ zs.length ∧ i = .int .i64 k ∧
      wr.ownsRow w.heap.size 3 1 (.slice (some ⟨w.heap.size, 0, none⟩) zs.length zs.length) zs.length ((part zs k).map (Value.int .i64)) ∧ Below w.heap.size w wr) (fun i _ => zs.length - (intOf i).toNat)
  case atStart => exact ⟨0, Nat.zero_le _, rfl, HO.out, hb1⟩
  case round =>
    obtain ⟨k, hk, rfl, hown, hb⟩ := hrel
    clear HO hb1
    by_cases hlt : k < zs.length
    · have hsrc : wr.cell? ⟨b, off + k, none⟩ = some (.int .i64 (zs.getD k 0)) := at_below HC.out hb hbl k hlt
      have hdst := own_cell hown hlt
      have hfz := hown.frozenAt k
      have hst := hown.stored k (.int .i64 (zs.getD k 0))
      rw [← List.map_set, part_more hlt] at hst
      have hg := Lib.hid (hb.grown hst.2 hb.size (fun k e => by cases e; exact Nat.le_refl _))
      have HS := Lib.hid hst.1
      clear hst hown
      obtain ⟨z, hz⟩ : ∃ z, z = zs.getD k 0 := ⟨_, rfl⟩
      obtain ⟨y, hy⟩ : ∃ y, y = (part zs k).getD k 0 := ⟨_, rfl⟩
      rw [← hz] at hsrc hg HS
      rw [← hy] at hdst
      clear hz hy
      go_wp2
      go_roundw
      case rel => exact ⟨k + 1, by omega, by go_num, HS.out, hg.out⟩
      case measure => simp [intOf]; omega
    · obtain rfl : k = zs.length := by omega
      rw [part_all] at hown
      go_wp2
      go_ret
      exact ⟨_, rfl, own_holds hown, hb⟩

theorem copy (v : Value) (zs : List Int) (w : World) (h : Holds w v zs) (hl : zs.length ≤ 1000000000000) :
    Calls Try.prog 36 #[v] w (Copied zs w) := by
  rcases h with ⟨rfl, a, cap, rfl⟩ | ⟨h0, b, off, cap, rfl, hc⟩
  · exact copy_nil a cap w
  · exact copy_some b off cap zs w hc h0 hl
end Go.Proofs.Ytebkhailknbnhaa.Nums
