/-
  CONTRACTS of the draws out of a list (l1Int, l1Odd, l1One): each answers an integer of 64 bits, writes into the cursor alone, and leaves it a cursor over the same bytes.
-/
import Derived.Test.YtegaakgmfphcaaaCurKit
namespace Go.Proofs.Ytegaakgmfphcaaa.Cur
open Go Go.RowKit
set_option linter.unusedVariables false
set_option maxRecDepth 1000000

def Fits (x : Int) : Prop := -9223372036854775808 ≤ x ∧ x ≤ 9223372036854775807

theorem int_any (c B : Nat) (bv : Value) (b len cap : Nat) (f : Nat → Int) (w : World) (hcur : CurAt w c bv) (hby : Bytes w B bv) (hB : B ≤ c)
    (hb : b ≠ c) (hbl : b < w.heap.size) (h1 : 1 ≤ len) (hl : len ≤ 1000000) (hf : ∀ j, j < len → w.cell? ⟨b, j, none⟩ = some (.int .i64 (f j))) :
    Calls Try.prog 31 #[.pointer (some ⟨c, 0, none⟩), .slice (some ⟨b, 0, none⟩) len cap] w (Drawn (fun x => ∃ j, j < len ∧ x = f j) c bv w) := by
  have HF := Lib.hid hf
  clear hf
  go_enter Try.func31, Try.ntmps31
  go_wp2_with (fail)
  go_at_call 29
  refine (below_any c B bv _ _ hcur hby hB (by omega)).mono ?_
  rintro e w1 ⟨x, hx, rfl, hc1, hg1⟩
  obtain ⟨j, rfl, hj⟩ : ∃ j : Nat, x = (j : Int) ∧ j < len := ⟨x.toNat, by have := hx.1; omega, by have := hx.1; have := hx.2; omega⟩
  have hcell : w1.cell? ⟨b, j, none⟩ = some (.int .i64 (f j)) := hg1.cell (HF.out j hj) (by simp; omega)
  clear hx
  go_wp2
  go_ret
  exact ⟨_, ⟨j, hj, rfl⟩, rfl, hc1, hg1⟩

theorem lits_at (w : World) (zs : List Int) (T : TypeId) (j : Nat) (h : j < zs.length) :
    (w.alloc (.cells ((zs.map (Value.int .i64)).toArray) T)).cell? ⟨w.heap.size, j, none⟩ = some (.int .i64 (zs.getD j 0)) := by
  rw [World.cell?_alloc_new]
  simp [List.getD, h]
/-- l1Int over a list that was just written out. -/
theorem int_lits (c B : Nat) (bv : Value) (zs : List Int) (n : Nat) (hn : n = zs.length) (w : World) (hcur : CurAt w c bv) (hby : Bytes w B bv) (hB : B ≤ c) (h1 : 1 ≤ zs.length) (hl : zs.length ≤ 1000000) (T : TypeId) :
    Calls Try.prog 31 #[.pointer (some ⟨c, 0, none⟩), .slice (some ⟨w.heap.size, 0, none⟩) n n] (w.alloc (.cells ((zs.map (Value.int .i64)).toArray) T))
      (Drawn (fun x => x ∈ zs) c bv w) := by
  subst hn
  refine (int_any c B bv w.heap.size zs.length zs.length (fun j => zs.getD j 0) _ (cur_alloc hcur _) (bytes_alloc hby _) hB (by have := cur_lt hcur; omega) (by simp) h1 hl (fun j hj => lits_at w zs T j hj)).mono ?_
  rintro e w1 ⟨x, ⟨j, hj, rfl⟩, rfl, hc1, hg1⟩
  refine ⟨_, ?_, rfl, hc1, gb_trans (World.grownBy_alloc _ _ _) hg1⟩
  simp [List.getD, hj]

def odds : List Int := [-1, 0, 1, 2, 255, 256, 65535, 2147483647, 2147483648, 4294967295, 4294967296, -2147483648, 9223372036854775807, -9223372036854775808]
theorem odds_fit (x : Int) (h : x ∈ odds) : Fits x := by
  unfold odds at h; unfold Fits
  simp at h
  omega
theorem odd_any (c B : Nat) (bv : Value) (w : World) (hcur : CurAt w c bv) (hby : Bytes w B bv) (hB : B ≤ c) :
    Calls Try.prog 20 #[.pointer (some ⟨c, 0, none⟩)] w (Drawn Fits c bv w) := by
  have H := int_lits c B bv odds 14 rfl w hcur hby hB (by decide) (by decide) 3
  go_enter Try.func20, Try.ntmps20
  go_wp2_with (fail)
  go_at_call 31
  refine H.mono ?_
  rintro e w1 ⟨x, hx, rfl, hc1, hg1⟩
  have HX := Lib.hid (odds_fit x hx)
  clear hx
  go_wp2
  go_ret
  exact ⟨_, HX.out, rfl, hc1, hg1⟩

theorem wrap_fits (n : Int) : Fits (wrap64 n) := by unfold Fits wrap64; omega
end Go.Proofs.Ytegaakgmfphcaaa.Cur
