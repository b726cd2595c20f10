/-
  CONTRACTS of the draws out of a list (l1Int, l1Odd, l1One): each answers an integer of 64 bits, writes into the cursor alone, and leaves it a cursor over the same bytes.
-/
import Derived.Test.YtembiiddheocgaaCurBelow
namespace Go.Proofs.Ytembiiddheocgaa.Cur
open Go Go.RowKit
set_option linter.unusedVariables false

def Fits (x : Int) : Prop := -9223372036854775808 ≤ x ∧ x ≤ 9223372036854775807

theorem int_any (c B : Nat) (bv : Value) (b len cap : Nat) (f : Nat → Int) (w : World) (hcur : CurAt w c bv) (hby : Bytes w B bv) (hB : B ≤ c)
    (hb : b ≠ c) (hbl : b < w.heap.size) (h1 : 1 ≤ len) (hl : len ≤ 1000000) (hf : ∀ j, j < len → w.cell? ⟨b, j, none⟩ = some (.int .i64 (f j))) :
    Calls Try.prog 29 #[.pointer (some ⟨c, 0, none⟩), .slice (some ⟨b, 0, none⟩) len cap] w (Drawn (fun x => ∃ j, j < len ∧ x = f j) c bv w) := by
  have HF := Lib.hid hf
  clear hf
  go_enter Try.func29, Try.ntmps29
  go_wp2_with (fail)
  go_at_call 20
  refine (below_any c B bv _ _ hcur hby hB (by omega)).mono ?_
  rintro e w1 ⟨x, hx, rfl, hc1, hg1⟩
  obtain ⟨j, rfl, hj⟩ : ∃ j : Nat, x = (j : Int) ∧ j < len := ⟨x.toNat, by have := hx.1; omega, by have := hx.1; have := hx.2; omega⟩
  have hcell : w1.cell? ⟨b, j, none⟩ = some (.int .i64 (f j)) := hg1.cell (HF.out j hj) (by simp; omega)
  clear hx
  go_wp2
  go_ret
  exact ⟨_, ⟨j, hj, rfl⟩, rfl, hc1, hg1⟩

theorem gb_alloc {a w : World} {row : Option Nat} (h : a.grownBy w row) (o : Obj) : a.grownBy (w.alloc o) row := gb_trans h (World.grownBy_alloc _ _ _)
theorem cur_kept {w w' : World} {c d : Nat} {bv : Value} (h : CurAt w c bv) (hg : w.grownBy w' (some d)) (hd : c ≠ d) : CurAt w' c bv := by
  obtain ⟨i, k, h0, hb⟩ := h
  exact ⟨i, k, h0, by rw [hg.block c (lt_of_block hb) (by simpa using hd)]; exact hb⟩
theorem cur_alloc {w : World} {c : Nat} {bv : Value} (h : CurAt w c bv) (o : Obj) : CurAt (w.alloc o) c bv := by
  obtain ⟨i, k, h0, hb⟩ := h
  exact ⟨i, k, h0, by rw [Below.heap_alloc _ _ _ (lt_of_block hb)]; exact hb⟩
theorem cur_lt {w : World} {c : Nat} {bv : Value} (h : CurAt w c bv) : c < w.heap.size := by
  obtain ⟨i, k, h0, hb⟩ := h
  exact lt_of_block hb
theorem bytes_alloc {w : World} {B : Nat} {bv : Value} (h : Bytes w B bv) (o : Obj) : Bytes (w.alloc o) B bv := by
  rcases h with h | ⟨b, off, len, cap, f, h1, h2, h3, h4, h5⟩
  · exact Or.inl h
  · refine Or.inr ⟨b, off, len, cap, f, h1, h2, by simp; omega, h4, fun j hj => ⟨(h5 j hj).1, (h5 j hj).2.1, ?_⟩⟩
    rw [World.cell?_of_block (w := w) (Below.heap_alloc _ _ _ h3)]
    exact (h5 j hj).2.2
theorem lits_at (w : World) (zs : List Int) (T : TypeId) (j : Nat) (h : j < zs.length) :
    (w.alloc (.cells ((zs.map (Value.int .i64)).toArray) T)).cell? ⟨w.heap.size, j, none⟩ = some (.int .i64 (zs.getD j 0)) := by
  rw [World.cell?_alloc_new]
  simp [List.getD, h]
/-- l1Int over a list that was just written out. -/
theorem int_lits (c B : Nat) (bv : Value) (zs : List Int) (n : Nat) (hn : n = zs.length) (w : World) (hcur : CurAt w c bv) (hby : Bytes w B bv) (hB : B ≤ c) (h1 : 1 ≤ zs.length) (hl : zs.length ≤ 1000000) (T : TypeId) :
    Calls Try.prog 29 #[.pointer (some ⟨c, 0, none⟩), .slice (some ⟨w.heap.size, 0, none⟩) n n] (w.alloc (.cells ((zs.map (Value.int .i64)).toArray) T))
      (Drawn (fun x => x ∈ zs) c bv w) := by
  subst hn
  refine (int_any c B bv w.heap.size zs.length zs.length (fun j => zs.getD j 0) _ (cur_alloc hcur _) (bytes_alloc hby _) hB (by have := cur_lt hcur; omega) (by simp) h1 hl (fun j hj => lits_at w zs T j hj)).mono ?_
  rintro e w1 ⟨x, ⟨j, hj, rfl⟩, rfl, hc1, hg1⟩
  refine ⟨_, ?_, rfl, hc1, gb_trans (World.grownBy_alloc _ _ _) hg1⟩
  simp [List.getD, hj]

def odds : List Int := [-1, 0, 1, 2, 255, 256, 65535, 2147483647, 2147483648, 4294967295, 4294967296, -2147483648, 9223372036854775807, -9223372036854775808]
theorem odds_fit (x : Int) (h : x ∈ odds) : Fits x := by
  unfold odds at h; unfold Fits
  simp at h
  omega
theorem odd_any (c B : Nat) (bv : Value) (w : World) (hcur : CurAt w c bv) (hby : Bytes w B bv) (hB : B ≤ c) :
    Calls Try.prog 28 #[.pointer (some ⟨c, 0, none⟩)] w (Drawn Fits c bv w) := by
  have H := int_lits c B bv odds 14 rfl w hcur hby hB (by decide) (by decide) 3
  go_enter Try.func28, Try.ntmps28
  go_wp2_with (fail)
  go_at_call 29
  refine H.mono ?_
  rintro e w1 ⟨x, hx, rfl, hc1, hg1⟩
  have HX := Lib.hid (odds_fit x hx)
  clear hx
  go_wp2
  go_ret
  exact ⟨_, HX.out, rfl, hc1, hg1⟩

theorem wrap_fits (n : Int) : Fits (wrap64 n) := by unfold Fits wrap64; omega
theorem one_any (c B : Nat) (bv : Value) (w : World) (hcur : CurAt w c bv) (hby : Bytes w B bv) (hB : B ≤ c) :
    Calls Try.prog 21 #[.pointer (some ⟨c, 0, none⟩)] w (Drawn Fits c bv w) := by
  go_enter Try.func21, Try.ntmps21
  go_wp2_with (fail)
  go_at_call 20
  refine (below_any c B bv _ _ hcur hby hB (by omega)).mono ?_
  rintro e w1 ⟨k, hk, rfl, hc1, hg1⟩
  have hb1 := bytes_kept hby hg1 hB
  obtain ⟨hk0, hk1⟩ := hk
  have hk6 : k < 6 := by omega
  clear hk1
  by_cases e0 : k = 0
  · subst e0
    go_wp2_with (go_at_call 28; refine (odd_any c B bv _ hc1 hb1 hB).mono ?_; rintro e w2 ⟨x, hx, rfl, hc2, hg2⟩)
    go_ret
    exact ⟨_, hx, rfl, hc2, gb_trans hg1 hg2⟩
  · by_cases e1 : k = 1
    · subst e1
      go_wp2_with (fail)
      go_at_call 20
      refine (below_any c B bv _ _ hc1 hb1 hB (by omega)).mono ?_
      rintro e w2 ⟨x, hx, rfl, hc2, hg2⟩
      obtain ⟨hx0, hx1⟩ := hx
      have hx2 : x < 2000 := by omega
      clear hx1
      go_wp2
      go_ret
      exact ⟨_, ⟨by omega, by omega⟩, rfl, hc2, gb_trans hg1 hg2⟩
    · by_cases e2 : k = 2
      · subst e2
        go_wp2_with (fail)
        go_at_call 20
        refine (below_any c B bv _ _ hc1 hb1 hB (by omega)).mono ?_
        rintro e w2 ⟨x, hx, rfl, hc2, hg2⟩
        have hb2 := bytes_kept hb1 hg2 hB
        obtain ⟨hx0, hx1⟩ := hx
        have hx2 : x < 1000000 := by omega
        clear hx1
        go_wp2_with (fail)
        go_at_call 20
        refine (below_any c B bv _ _ hc2 hb2 hB (by omega)).mono ?_
        rintro e w3 ⟨y, hy, rfl, hc3, hg3⟩
        go_wp2
        go_ret
        exact ⟨_, wrap_fits _, rfl, hc3, gb_trans (gb_trans hg1 hg2) hg3⟩
      · go_wp2_with (fail)
        go_at_call 20
        refine (below_any c B bv _ _ hc1 hb1 hB (by omega)).mono ?_
        rintro e w2 ⟨x, hx, rfl, hc2, hg2⟩
        obtain ⟨hx0, hx1⟩ := hx
        have hx2 : x < 3000 := by omega
        clear hx1
        go_wp2
        go_ret
        exact ⟨_, ⟨by omega, by omega⟩, rfl, hc2, gb_trans hg1 hg2⟩
end Go.Proofs.Ytembiiddheocgaa.Cur
