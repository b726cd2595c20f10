/-
  CONTRACT of the program's countsOf: the four indices of a key. Nothing that was there before is changed.
-/
import Derived.Test.YtebkhailknbnhaaSkIs
import Derived.Test.YtebkhailknbnhaaTextImpl
import Derived.Test.YtebkhailknbnhaaNumImplMod
namespace Go.Proofs.Ytebkhailknbnhaa.Sk
open Go Go.RowKit
set_option linter.unusedVariables false
set_option maxRecDepth 1000000

/-- The index of the count of a key in a row. -/
def ix (i : Nat) (s : List UInt8) : Int := i * 16 + Dg.hash ((i : Int) :: Nums.bytes ⟨s.toArray⟩) % 16
theorem ix_bd (i : Nat) (s : List UInt8) : (i : Int) * 16 ≤ ix i s ∧ ix i s < i * 16 + 16 := by
  unfold ix; generalize Dg.hash _ = h; omega
def four (f : Nat → Int) : Value := .agg #[.int .i64 (f 0), .int .i64 (f 1), .int .i64 (f 2), .int .i64 (f 3)]
set_option maxRecDepth 1000000 in
theorem idx4 (f : Nat → Int) (k : Nat) (h : k < 4) (W : World) : (Instr.index 65 (four f) (.int .i64 (k : Int))).run Try.prog W = .ok (.int .i64 (f k)) W := by
  have hu := Try.underlying65
  have hkc : k = 0 ∨ k = 1 ∨ k = 2 ∨ k = 3 := by omega
  have hi : Try.prog.info? 3 = some _ := rfl
  rcases hkc with rfl | rfl | rfl | rfl
  all_goals simp [four, Instr.index, asIntOf, run_underlying hu, go_sem]
theorem text_hash (i : Nat) (h : i < 4) (s : List UInt8) (W : World) (hl : s.length ≤ 1048576) : Calls Try.prog 69 #[.int .i64 (i : Int), .string ⟨s.toArray⟩] W (Dg.TextI (i : Int) ⟨s.toArray⟩ W) :=
  Dg.impl_text (i : Int) ⟨s.toArray⟩ W (Go.WalkArith.wf_i64 ⟨by omega, by omega⟩) (by simpa [ByteArray.size] using hl)
theorem mod_ix (i : Nat) (s : List UInt8) (W : World) : Calls Try.prog 68 #[.int .i64 (Dg.hash ((i : Int) :: Nums.bytes ⟨s.toArray⟩)), .int .i64 16] W fun e w' => e = .returned (.int .i64 (ix i s - i * 16)) ∧ W = w' := by
  have hb := Dg.hash_bd ((i : Int) :: Nums.bytes ⟨s.toArray⟩)
  have h := NumDiv.impl_mod (Dg.hash ((i : Int) :: Nums.bytes ⟨s.toArray⟩)) 16 W (Go.WalkArith.wf_i64 ⟨by omega, by omega⟩) (by decide)
  rw [NumDiv.md_in (by omega) (by omega)] at h
  rw [show ix i s - i * 16 = Dg.hash ((i : Int) :: Nums.bytes ⟨s.toArray⟩) % 16 by unfold ix; generalize Dg.hash _ = h'; omega]
  exact h
/-- What the array holds when k of its places are filled. -/
def part (s : List UInt8) (k j : Nat) : Int := if j < k then ix j s else (j : Int)
theorem part_bd (s : List UInt8) (k j : Nat) : part s k j = if j < k then ix j s else (j : Int) := rfl
theorem part_more (s : List UInt8) (k j : Nat) : (if j = k then ix k s else part s k j) = part s (k + 1) j := by
  unfold part
  by_cases e : j = k
  · subst e; simp
  · by_cases e2 : j < k
    · rw [if_neg e, if_pos e2, if_pos (by omega)]
    · rw [if_neg e, if_neg e2, if_neg (by omega)]
def Cells4 (wr : World) (g : Nat) (f : Nat → Int) : Prop := (wr.cell? ⟨g, 0, none⟩ = some (.int .i64 (f 0)) ∧ wr.cell? ⟨g, 1, none⟩ = some (.int .i64 (f 1)) ∧ wr.cell? ⟨g, 2, none⟩ = some (.int .i64 (f 2)) ∧ wr.cell? ⟨g, 3, none⟩ = some (.int .i64 (f 3))) ∧ ∀ j, wr.frozen? ⟨g, j, none⟩ = false
theorem cells4_below {w w' : World} {g : Nat} {f : Nat → Int} (h : Cells4 w g f) (hb : Below w.heap.size w w') : Cells4 w' g f := by
  obtain ⟨⟨h0, h1, h2, h3⟩, hf⟩ := h
  have hg := Rec.lt_of_cell h0
  exact ⟨⟨(hb.cell (p := ⟨g, 0, none⟩) hg).trans h0, (hb.cell (p := ⟨g, 1, none⟩) hg).trans h1, (hb.cell (p := ⟨g, 2, none⟩) hg).trans h2, (hb.cell (p := ⟨g, 3, none⟩) hg).trans h3⟩, fun j => (hb.frozen (p := ⟨g, j, none⟩) hg).trans (hf j)⟩
theorem cells4_set {w : World} {g k : Nat} {f : Nat → Int} {z : Int} (h : Cells4 w g f) (hk : k < 4) : Cells4 (w.setCell ⟨g, k, none⟩ (.int .i64 z)) g (fun j => if j = k then z else f j) := by
  obtain ⟨⟨h0, h1, h2, h3⟩, hf⟩ := h
  have hkc : k = 0 ∨ k = 1 ∨ k = 2 ∨ k = 3 := by omega
  refine ⟨?_, fun j => by rw [World.frozen?_setCell]; exact hf j⟩
  rcases hkc with rfl | rfl | rfl | rfl
  all_goals refine ⟨?_, ?_, ?_, ?_⟩
  all_goals first
    | (rw [World.cell?_setCell_same _ _ _ h0]; rfl)
    | (rw [World.cell?_setCell_same _ _ _ h1]; rfl)
    | (rw [World.cell?_setCell_same _ _ _ h2]; rfl)
    | (rw [World.cell?_setCell_same _ _ _ h3]; rfl)
    | (rw [World.cell?_setCell_other _ _ _ _ (by simp)]; simpa using h0)
    | (rw [World.cell?_setCell_other _ _ _ _ (by simp)]; simpa using h1)
    | (rw [World.cell?_setCell_other _ _ _ _ (by simp)]; simpa using h2)
    | (rw [World.cell?_setCell_other _ _ _ _ (by simp)]; simpa using h3)
theorem cells4_ext {w : World} {g : Nat} {f f' : Nat → Int} (h : Cells4 w g f) (e : ∀ j, j < 4 → f j = f' j) : Cells4 w g f' := by
  unfold Cells4 at h ⊢; rw [← e 0 (by omega), ← e 1 (by omega), ← e 2 (by omega), ← e 3 (by omega)]; exact h
theorem cells4_new {w : World} {T : TypeId} {f : Nat → Int} : Cells4 (w.alloc (.cells #[.int .i64 (f 0), .int .i64 (f 1), .int .i64 (f 2), .int .i64 (f 3)] T)) w.heap.size f :=
  ⟨⟨by rw [World.cell?_alloc_new]; rfl, by rw [World.cell?_alloc_new]; rfl, by rw [World.cell?_alloc_new]; rfl, by rw [World.cell?_alloc_new]; rfl⟩, fun j => by simp [go_sem]⟩

set_option maxHeartbeats 4000000 in
theorem counts (s : List UInt8) (w : World) (hl : s.length ≤ 1048576) :
    Calls Try.prog 39 #[.string ⟨s.toArray⟩] w fun e w' => e = .returned (four (fun j => ix j s)) ∧ Below w.heap.size w w' := by
  have HZ := Lib.hid (((Below.refl w.heap.size w).alloc (Nat.le_refl _) (.cells #[.int .i64 0, .int .i64 0, .int .i64 0, .int .i64 0] 65)).alloc (by simp) (.cells #[.int .i64 0, .int .i64 1, .int .i64 2, .int .i64 3] 65))
  have HN1 : Hid (Cells4 ((w.alloc (.cells #[.int .i64 0, .int .i64 0, .int .i64 0, .int .i64 0] 65)).alloc (.cells #[.int .i64 0, .int .i64 1, .int .i64 2, .int .i64 3] 65)) (w.heap.size + 1) (fun j => (j : Int))) := Lib.hid (by
    have h := cells4_new (w := w.alloc (.cells #[.int .i64 0, .int .i64 0, .int .i64 0, .int .i64 0] 65)) (T := 65) (f := fun j => (j : Int))
    rw [show (w.alloc (.cells #[.int .i64 0, .int .i64 0, .int .i64 0, .int .i64 0] 65)).heap.size = w.heap.size + 1 by simp] at h
    exact h)
  have HN0 : Hid (Cells4 ((w.alloc (.cells #[.int .i64 0, .int .i64 0, .int .i64 0, .int .i64 0] 65)).alloc (.cells #[.int .i64 0, .int .i64 1, .int .i64 2, .int .i64 3] 65)) w.heap.size (fun _ => 0)) := Lib.hid (cells4_below (cells4_new (f := fun _ => 0)) ((Below.refl _ _).alloc (Nat.le_refl _) _))
  have HTX := Lib.hid (fun i hi W => text_hash i hi s W hl)
  have HMX := Lib.hid (fun i W => mod_ix i s W)
  have hix : ∀ k : Nat, k < 4 → ∀ W : World, (Instr.index 65 (.agg #[.int .i64 0, .int .i64 1, .int .i64 2, .int .i64 3]) (.int .i64 (k : Int))).run Try.prog W = .ok (.int .i64 (k : Int)) W := fun k hk W => idx4 (fun j => (j : Int)) k hk W
  have HIX := Lib.hid hix
  clear hix
  unfold Dg.TextI at HTX
  go_enter Try.func39, Try.ntmps39
  go_wp2
  go_loopw [8] (fun i wr => ∃ k : Nat, k ≤ 4 ∧ i = .int .i64 (k : Int) ∧ Hid (Cells4 wr (w.heap.size + 1) (part s k)) ∧ Hid (Cells4 wr w.heap.size (fun _ => 0)) ∧ Hid (Below w.heap.size w wr)) (fun i _ => 4 - (intOf i).toNat)
  case atStart => exact ⟨0, by omega, rfl, Lib.hid (cells4_ext HN1.out (fun j hj => rfl)), HN0, HZ⟩
  case round =>
    obtain ⟨k, hk, rfl, HC, HD, HB⟩ := hrel
    clear HN1 HN0 HZ
    by_cases hlt : k < 4
    · have hii := HIX.out k hlt
      have HM := Lib.hid (HMX.out k)
      have HT := Lib.hid (HTX.out k hlt)
      have hki : (k : Int) < 4 := by omega
      have hk0 : (0 : Int) ≤ (k : Int) := by omega
      have HIB := Lib.hid (ix_bd k s)
      clear HMX HTX HIX
      go_wp2_with (fail)
      go_at_call 69
      refine (HT.out _).mono ?_
      rintro e w1 ⟨rfl, hb1⟩
      have HC1 := Lib.hid (cells4_below HC.out hb1)
      have HD1 := Lib.hid (cells4_below HD.out hb1)
      have HB1 := Lib.hid (Base.then_below HB.out hb1)
      clear hb1 HC HD HB
      go_wp2_with (fail)
      go_at_call 68
      refine (HM.out _).mono ?_
      rintro e w2 ⟨rfl, rfl⟩
      obtain ⟨z, hz⟩ : ∃ z, z = ix k s := ⟨_, rfl⟩
      have HZ1 := Lib.hid hz
      rw [← hz] at HIB ⊢
      have HS := Lib.hid (cells4_set (z := z) HC1.out hlt)
      have HSB : Hid (Below w.heap.size w (w1.setCell ⟨w.heap.size + 1, k, none⟩ (.int .i64 z))) := Lib.hid (HB1.out.setCell (by show w.heap.size ≤ w.heap.size + 1; omega) _)
      have HSD : Hid (Cells4 (w1.setCell ⟨w.heap.size + 1, k, none⟩ (.int .i64 z)) w.heap.size (fun _ => 0)) := Lib.hid (by
        obtain ⟨⟨h0, h1, h2, h3⟩, hf⟩ := HD1.out
        have hne : w.heap.size ≠ w.heap.size + 1 := by omega
        exact ⟨⟨by rw [World.cell?_setCell_other _ _ _ _ (by simp)]; exact h0, by rw [World.cell?_setCell_other _ _ _ _ (by simp)]; exact h1, by rw [World.cell?_setCell_other _ _ _ _ (by simp)]; exact h2, by rw [World.cell?_setCell_other _ _ _ _ (by simp)]; exact h3⟩, fun j => by rw [World.frozen?_setCell]; exact hf j⟩)
      have hfz := HC1.out.2 k
      have hcl : ∃ u, w1.cell? ⟨w.heap.size + 1, k, none⟩ = some u := by
        obtain ⟨⟨h0, h1, h2, h3⟩, _⟩ := HC1.out
        have hkc : k = 0 ∨ k = 1 ∨ k = 2 ∨ k = 3 := by omega
        rcases hkc with rfl | rfl | rfl | rfl
        · exact ⟨_, h0⟩
        · exact ⟨_, h1⟩
        · exact ⟨_, h2⟩
        · exact ⟨_, h3⟩
      obtain ⟨u, hcl⟩ := hcl
      have hib0 := HIB.out.1
      have hib1 := HIB.out.2
      have hw0 : IntKind.i64.wrap ((k : Int) * 16) = (k : Int) * 16 := IntWalk.i64_in _ (by omega)
      have hw1 : IntKind.i64.wrap ((k : Int) * 16 + (z - (k : Int) * 16)) = z := by rw [show (k : Int) * 16 + (z - (k : Int) * 16) = z by omega]; exact IntWalk.i64_in _ (by omega)
      clear hz HC1 HD1 HB1
      go_wp2
      go_roundw
      case rel => exact ⟨k + 1, by omega, by go_num, Lib.hid (cells4_ext HS.out (fun j hj => by rw [HZ1.out]; exact part_more s k j)), HSD, HSB⟩
      case measure => simp [intOf]; omega
    · have HE := Lib.hid (cells4_ext (f' := fun j => ix j s) HC.out (fun j hj => by unfold part; rw [if_pos (by omega)]))
      obtain ⟨⟨h0, h1, h2, h3⟩, hf⟩ := HE.out
      obtain ⟨⟨g0, g1, g2, g3⟩, gf⟩ := HD.out
      have gf0 := gf 0
      have gf1 := gf 1
      have gf2 := gf 2
      have gf3 := gf 3
      generalize hy0 : ix 0 s = y0 at h0
      generalize hy1 : ix 1 s = y1 at h1
      generalize hy2 : ix 2 s = y2 at h2
      generalize hy3 : ix 3 s = y3 at h3
      have HBB := HB
      clear HC HD hf gf HE HMX HTX HIX
      go_wp2
      refine bodyPost_ret (v := .agg #[.int .i64 y0, .int .i64 y1, .int .i64 y2, .int .i64 y3]) (by simp [results, Try.results39, go_sem, g0, g1, g2, g3]) rfl ⟨by subst hy0 hy1 hy2 hy3; rfl, ?_⟩
      exact (((HBB.out.setCell (by show w.heap.size ≤ w.heap.size; omega) _).setCell (by show w.heap.size ≤ w.heap.size; omega) _).setCell (by show w.heap.size ≤ w.heap.size; omega) _).setCell (by show w.heap.size ≤ w.heap.size; omega) _
end Go.Proofs.Ytebkhailknbnhaa.Sk
