/-
  CONTRACT of the program's HexText: from 0 to the modulus it returns the eight hexadecimal digits, at every other integer the empty text; nothing that was there before is changed.
-/
import Derived.Test.YtembiiddheocgaaHexMath
import Derived.Test.YtembiiddheocgaaByteStr
import Derived.OwnWalk
import Derived.Laws.OwnMore
namespace Go.Proofs.Ytembiiddheocgaa.Hex
open Go Go.RowKit
set_option linter.unusedVariables false

theorem info_byte : (Try.prog.info? 5).map (fun i => (i.zero, i.size, i.bytes)) = some (some (.int .u8 0), 1, 1) := by kernel_rfl
def u8s (l : List UInt8) : List Value := l.map (fun c => Value.int .u8 (c.toNat : Int))
/-- Eight places, the last k of them filled. -/
def pad (n k : Nat) : List UInt8 := List.replicate (8 - k) 0 ++ hx n k
theorem pad_zero (n : Nat) : (madeCells (Value.int .u8 0).cells (8 * 1)).toList = u8s (pad n 0) := by
  rw [show (Value.int .u8 0).cells = #[.int .u8 0] from rfl, toList_madeCells_one]; rfl
theorem pad_more {n k : Nat} (h : k < 8) : (pad n k).set (7 - k) (hexd (n / 16 ^ k % 16)) = pad n (k + 1) := by
  unfold pad
  rw [List.set_append_left _ _ (by rw [List.length_replicate]; omega), show 8 - k = (8 - (k + 1)) + 1 by omega, List.replicate_succ', List.set_append_right _ _ (by rw [List.length_replicate]; omega), List.length_replicate,
    show 7 - k - (8 - (k + 1)) = 0 by omega, List.set_cons_zero, List.append_assoc]
  rfl
theorem pad_all (n : Nat) : pad n 8 = hx n 8 := by unfold pad; rfl

/-- The table of digits, read at a place. -/
theorem tab_fin : ∀ r : Fin 16, (⟨#[48, 49, 50, 51, 52, 53, 54, 55, 56, 57, 97, 98, 99, 100, 101, 102]⟩ : ByteArray)[r.1]'(r.2) = hexd r.1 := by decide
theorem tab_at (u : Nat) (h : ((u : Int) % 16).toNat < (⟨#[48, 49, 50, 51, 52, 53, 54, 55, 56, 57, 97, 98, 99, 100, 101, 102]⟩ : ByteArray).size) :
    ((⟨#[48, 49, 50, 51, 52, 53, 54, 55, 56, 57, 97, 98, 99, 100, 101, 102]⟩ : ByteArray)[((u : Int) % 16).toNat]'h) = hexd (u % 16) := by
  have e : ((u : Int) % 16).toNat = u % 16 := by omega
  have := tab_fin ⟨((u : Int) % 16).toNat, h⟩
  rw [show hexd (u % 16) = hexd ((u : Int) % 16).toNat by rw [e]]
  exact this
theorem cell_u8 {w : World} {base : Nat} {e : TypeId} {g cap n : Nat} {l : List UInt8} (h : w.ownsRow base e 1 (.slice (some ⟨g, 0, none⟩) n cap) n (u8s l)) {j : Nat} (hj : j < n) : ∃ z : Int, w.cell? ⟨g, j, none⟩ = some (.int .u8 z) := by
  have hn : l.length = n := by simpa [u8s] using h.1
  refine ⟨((l[j]'(by omega)).toNat : Int), ?_⟩
  rw [h.cellAt j (by omega)]
  simp [u8s, show j < l.length by omega]
theorem cell_l {w : World} {base : Nat} {e : TypeId} {g cap n : Nat} {l : List UInt8} (h : w.ownsRow base e 1 (.slice (some ⟨g, 0, none⟩) n cap) n (u8s l)) {j : Nat} (hj : j < n) : w.cell? ⟨g, j, none⟩ = some (.int .u8 ((l.getD j 0).toNat : Int)) := by
  have hn : l.length = n := by simpa [u8s] using h.1
  rw [h.cellAt j (by omega)]
  simp [u8s, List.getD, show j < l.length by omega]
theorem bytes_back (w : World) (g cap : Nat) (l : List UInt8) (hl : 0 < l.length) (hc : ∀ j, j < l.length → w.cell? ⟨g, j, none⟩ = some (.int .u8 ((l.getD j 0).toNat : Int))) :
    (convert 22 9 (.slice (some ⟨g, 0, none⟩) l.length cap)).run Try.prog w = .ok (.string ⟨l.toArray⟩) w := by
  have h := run_convert_bytes_back (P := Try.prog) w 22 9 5 ⟨g, 0, none⟩ cap l Try.underlying22 Try.underlying5 Try.underlying9 (fun j hj => by
    rw [WideShapes.add_plain, Nat.zero_add, hc j hj]
    simp [List.getD, hj])
  exact h
theorem stored_u8 (l : List UInt8) (j : Nat) (c : UInt8) : (u8s l).set j (.int .u8 (c.toNat : Int)) = u8s (l.set j c) := by unfold u8s; rw [List.map_set]

set_option maxHeartbeats 1000000 in
theorem impl_in (n : Nat) (w : World) (h : (n : Int) ≤ 2147483647) :
    Calls Try.prog 13 #[.int .i64 n] w fun e w' => e = .returned (.string ⟨(hx n 8).toArray⟩) ∧ Below w.heap.size w w' := by
  obtain ⟨i0, hi, hz0, hz1, hz2⟩ := info_parts info_byte
  go_enter Try.func13, Try.ntmps13
  go_wp2_with (at_make; refine wpList_make_full _ rfl _ _ 22 rfl w.heap.size 5 i0 (.int .u8 0) 1 Try.underlying22 hi hz0 hz1 .i64 .i64 _ _ 8 rfl rfl rfl rfl (by rw [hz2]; omega) (by decide) (Nat.le_refl _) ?_; intro w1 hown hgrow)
  rw [pad_zero n] at hown
  have hb1 : Below w.heap.size w w1 := (Below.refl _ _).grown hgrow (Nat.le_refl _) (fun k e => by cases e)
  clear hgrow hi hz0 hz1 hz2
  have HO := Lib.hid hown
  clear hown
  go_loopw [0, 12] (fun x i wr => ∃ (k u : Nat), i = .int .i64 k ∧ k ≤ 8 ∧ u = n / 16 ^ k ∧ x = .int .i64 (u : Int) ∧ wr.ownsRow w.heap.size 5 1 (.slice (some ⟨w.heap.size, 0, none⟩) 8 8) 8 (u8s (pad n k)) ∧ Below w.heap.size w wr) (fun _ i _ => 8 - (intOf i).toNat)
  case atStart => exact ⟨0, n, rfl, by omega, by simp, rfl, HO.out, hb1⟩
  case round =>
    clear HO hb1
    obtain ⟨k, u, rfl, hk, hu, rfl, hown, hb⟩ := hrel
    by_cases hz : k < 8
    · have HP := pad_more (n := n) hz
      have HN := Lib.hid (show u / 16 = n / 16 ^ (k + 1) by rw [hu, Nat.pow_succ, Nat.div_div_eq_div_mul])
      have hub : (u : Int) ≤ 2147483647 := by have := Nat.div_le_self n (16 ^ k); omega
      rw [← hu] at HP
      clear hu
      obtain ⟨y, hdst⟩ := cell_u8 hown (j := 7 - k) (by omega)
      have hfz := hown.frozenAt (7 - k)
      have hst := hown.stored (7 - k) (.int .u8 ((hexd (u % 16)).toNat : Int))
      rw [stored_u8, HP] at hst
      have hg := Lib.hid (hb.grown hst.2 hb.size (fun k e => by cases e; exact Nat.le_refl _))
      have HS := Lib.hid hst.1
      clear hst hown HP
      have htab := tab_at u
      go_wp2
      go_roundw
      case rel => exact ⟨k + 1, u / 16, by go_num, by omega, HN.out, by go_num, HS.out, hg.out⟩
      case measure => simp [intOf]; omega
    · obtain rfl : k = 8 := by omega
      rw [pad_all] at hown
      have hcv := bytes_back wr w.heap.size 8 (hx n 8) (by rw [hx_len]; omega) (fun j hj => cell_l hown (by rw [hx_len] at hj; exact hj))
      rw [show ((hx n 8).length) = 8 from hx_len n 8] at hcv
      clear hown hu
      go_wp2
      go_ret
      exact ⟨rfl, hb⟩

theorem impl_out (n : Int) (w : World) (h : n < 0 ∨ 2147483647 < n) :
    Calls Try.prog 13 #[.int .i64 n] w fun e w' => e = .returned (.string ⟨#[]⟩) ∧ Below w.heap.size w w' := by
  by_cases h0 : n < 0
  · clear h
    go_enter Try.func13, Try.ntmps13
    go_wp2
    go_ret
    exact ⟨rfl, Below.refl _ _⟩
  · have h1 : 2147483647 < n := by omega
    clear h
    go_enter Try.func13, Try.ntmps13
    go_wp2
    go_ret
    exact ⟨rfl, Below.refl _ _⟩
end Go.Proofs.Ytembiiddheocgaa.Hex
