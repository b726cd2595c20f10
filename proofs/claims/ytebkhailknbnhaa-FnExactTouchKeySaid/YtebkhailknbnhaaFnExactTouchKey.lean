/-
  PROVED: at any sketch and any key the program's TouchKey returns what its model returns, in memory of its own, and writes into no argument: the exact law of TouchKey returns true and leaves its arguments as they were. CONDITION: none.
-/
import Derived.Test.YtebkhailknbnhaaBase
import Derived.Carry
import Derived.Test.YtebkhailknbnhaaTouI
import Derived.Test.YtebkhailknbnhaaTouS
import Derived.Test.YtebkhailknbnhaaMarkI
import Derived.Test.YtebkhailknbnhaaSkCp
import Derived.Test.YtebkhailknbnhaaMarkIb
import Derived.RegionTactic
import Derived.Deep.RegionWith
namespace Go.Proofs.Ytebkhailknbnhaa.fnExactTouchKey
open Go.ChangeShapes Go.WideShapes Go.ChangeAt Go.RowKit
set_option linter.unusedVariables false
set_option maxRecDepth 1000000

theorem own : ownKnob Try.prog.godebug = none := by kernel_rfl

theorem laidOut : laidOutB Try.prog = true := by kernel_rfl

def TouE (l : List Int) (m : Int) (w : World) (e : Ending) (w' : World) : Prop := ∃ v, e = .returned (.agg #[v, .int .i64 m]) ∧ Nums.OwnI w' w.heap.size v l ∧ Below w.heap.size w w'
theorem tou_of {P : Program} {f : FuncId} {args : Array Value} {zs : List Int} {n : Int} {s : List UInt8} {l : List Int} {m : Int} {w : World} (h : (l, m) = Sk.touched zs n s) (hc : Calls P f args w (Sk.TouEnd zs n s w)) : Calls P f args w (TouE l m w) :=
  hc.mono (fun e w' he => by unfold Sk.TouEnd at he; rw [← h] at he; exact he)
theorem tou_len (zs : List Int) (n : Int) (s : List UInt8) : (Sk.touched zs n s).1.length ≤ zs.length + 64 := by
  have hf : (Sk.full zs).length ≤ zs.length + 64 := by unfold Sk.full; split <;> simp
  unfold Sk.touched
  split
  · split
    · show (Sk.halfs _).length ≤ _
      unfold Sk.halfs
      rw [List.length_map, Sk.tk_len]; exact hf
    · show (Sk.tk s (Sk.full zs) 4).length ≤ _
      rw [Sk.tk_len]; exact hf
  · show zs.length ≤ _; omega
set_option maxHeartbeats 8000000 in
theorem walk (u0 : Value) (z0 : List Int) (n0 : Int) (a1 : ByteArray) (w0 : Sk.Ok z0 n0) (w1 : a1.size ≤ maxLen) (w : World) (y0 : Nums.Holds w u0 z0) :
    Calls Try.prog 3 #[.agg #[u0, .int .i64 n0], .string a1] w fun e w' => e = .returned (.bool true) ∧ Below w.heap.size w w' := by
  obtain ⟨n1, rfl⟩ : ∃ n : List UInt8, a1 = ⟨n.toArray⟩ := ⟨a1.data.toList, rfl⟩
  have hsz1 : (⟨n1.toArray⟩ : ByteArray).size = n1.length := by simp [ByteArray.size]
  by_cases hbig1 : n1.length ≤ 1048576
  case neg =>
    have hbi : (1048576 : Int) < (n1.length : Int) := by omega
    go_enter Try.func3, Try.ntmps3
    go_wp2
    go_ret
    exact ⟨rfl, by first | exact Below.refl _ _ | exact (Below.refl _ _).alloc (Nat.le_refl _) _⟩
  have hbi : ¬ (1048576 : Int) < (n1.length : Int) := by omega
  have HW0 := Lib.hid w0
  have HY0 := Lib.hid (Ib.of_nums y0)
  clear w0 w1 y0
  have HB : Hid (Below w.heap.size w (w.alloc (.cells #[u0, .int .i64 n0] 24))) := Lib.hid ((Below.refl w.heap.size w).alloc (by simp) (.cells #[u0, .int .i64 n0] 24))
  have hz0' : w.heap.size < (w.alloc (.cells #[u0, .int .i64 n0] 24)).heap.size := by simp
  have HX0 : Hid ((w.alloc (.cells #[u0, .int .i64 n0] 24)).cell? ⟨w.heap.size, 0, none⟩ = some (u0) ∧ (w.alloc (.cells #[u0, .int .i64 n0] 24)).cell? ⟨w.heap.size, 1, none⟩ = some (.int .i64 n0)) := Lib.hid ⟨by rw [World.cell?_alloc_new]; rfl, by rw [World.cell?_alloc_new]; rfl⟩
  have HY0 := Lib.hid (Ib.holds_below HY0.out (HB.out.mono (Nat.le_refl _)))
  have hszw := HB.out.size
  go_enter Try.func3, Try.ntmps3
  have HX0o := HX0.out
  obtain ⟨hx0_0, hx0_1⟩ := HX0o
  go_wp2_with (fail)
  go_at_call 7
  refine (Sk.size_sk u0 z0 n0 _ _ (Ib.nums HY0.out) HW0.out (by decide) (by decide)).mono ?_
  rintro e x1 ⟨z_0, rfl, hz0, b1⟩
  have hs1 := b1.size
  clear hx0_0 hx0_1
  have HX0 := Lib.hid (And.intro ((b1.cell (p := ⟨w.heap.size, 0, none⟩) (Rec.lt_of_cell (HX0.out.1))).trans (HX0.out.1)) ((b1.cell (p := ⟨w.heap.size, 1, none⟩) (Rec.lt_of_cell (HX0.out.2))).trans (HX0.out.2)))
  have HY0 := Lib.hid (Ib.holds_below HY0.out (b1.mono (by omega)))
  have HB := Lib.hid (Base.then_below HB.out b1)
  clear b1
  rcases hz0 with hz0 | ⟨hz0, ht0⟩
  · go_wp2
    go_ret
    exact ⟨rfl, HB.out⟩
  have hzn0 : ¬ z_0 < 0 := by omega
  have HL0 : Hid (z0.length ≤ 1048576) := Lib.hid (by omega)
  clear ht0
  obtain ⟨gm, hgm⟩ : ∃ z, z = Sk.touched z0 n0 n1 := ⟨_, rfl⟩
  have hkl := tou_len z0 n0 n1
  rw [← hgm] at hkl
  obtain ⟨g0, m0⟩ := gm
  have HGG := Lib.hid hgm
  have HK : Hid (g0.length ≤ 1048640) := Lib.hid (by have := HL0.out; dsimp only at hkl; omega)
  clear hgm hkl
  have HX0o := HX0.out
  obtain ⟨hx0_0, hx0_1⟩ := HX0o
  go_wp2_with (fail)
  go_at_call 9
  refine (Sk.copy_sk u0 z0 n0 _ (Ib.nums HY0.out) HL0.out).mono ?_
  rintro e x2 ⟨vA, rfl, oA, b2⟩
  have hs2 := b2.size
  obtain ⟨aA, cpA, rfl, _⟩ := Rec.shape_at oA
  clear hx0_0 hx0_1
  have HX0 := Lib.hid (And.intro ((b2.cell (p := ⟨w.heap.size, 0, none⟩) (Rec.lt_of_cell (HX0.out.1))).trans (HX0.out.1)) ((b2.cell (p := ⟨w.heap.size, 1, none⟩) (Rec.lt_of_cell (HX0.out.2))).trans (HX0.out.2)))
  have HY0 := Lib.hid (Ib.holds_below HY0.out (b2.mono (by omega)))
  have HB := Lib.hid (Base.then_below HB.out b2)
  clear b2
  have HA := Lib.hid (Ih.own_holds oA)
  clear oA
  go_wp2_with (fail)
  go_at_call 8
  refine (tou_of HGG.out (Sk.spec_tou (.slice aA z0.length cpA) z0 n0 n1 _ _ (Rec.holds_more HA.out (by omega)) (Nat.le_refl _) HL0.out hbig1)).mono ?_
  rintro e x3 ⟨vW, rfl, oW, b3⟩
  obtain ⟨aW, cpW, rfl, _⟩ := Rec.shape_at oW
  have hs3 := b3.size
  have HX0 := Lib.hid (And.intro ((b3.cell (p := ⟨w.heap.size, 0, none⟩) (Rec.lt_of_cell (HX0.out.1))).trans (HX0.out.1)) ((b3.cell (p := ⟨w.heap.size, 1, none⟩) (Rec.lt_of_cell (HX0.out.2))).trans (HX0.out.2)))
  have HY0 := Lib.hid (Ib.holds_below HY0.out (b3.mono (by omega)))
  have HB := Lib.hid (Base.then_below HB.out b3)
  clear b3
  have HWW := Lib.hid (Ih.own_holds oW)
  clear oW
  have hsa4 : (x3.alloc (.cells #[(.slice aW g0.length cpW), .int .i64 m0] 26)).heap.size = x3.heap.size + 1 := by simp
  have HX0 := Lib.hid (And.intro ((((Below.refl x3.heap.size x3).alloc (Nat.le_refl _) (.cells #[(.slice aW g0.length cpW), .int .i64 m0] 26)).cell (p := ⟨w.heap.size, 0, none⟩) (Rec.lt_of_cell (HX0.out.1))).trans (HX0.out.1)) ((((Below.refl x3.heap.size x3).alloc (Nat.le_refl _) (.cells #[(.slice aW g0.length cpW), .int .i64 m0] 26)).cell (p := ⟨w.heap.size, 1, none⟩) (Rec.lt_of_cell (HX0.out.2))).trans (HX0.out.2)))
  have HY0 := Lib.hid (Ib.holds_below HY0.out (((Below.refl x3.heap.size x3).alloc (Nat.le_refl _) (.cells #[(.slice aW g0.length cpW), .int .i64 m0] 26)).mono (by omega)))
  have HWW := Lib.hid (Ih.holds_below HWW.out (((Below.refl x3.heap.size x3).alloc (Nat.le_refl _) (.cells #[(.slice aW g0.length cpW), .int .i64 m0] 26)).mono (by omega)))
  have HB := Lib.hid (HB.out.alloc HB.out.size (.cells #[(.slice aW g0.length cpW), .int .i64 m0] 26))
  have HZW : Hid ((x3.alloc (.cells #[(.slice aW g0.length cpW), .int .i64 m0] 26)).cell? ⟨x3.heap.size, 0, none⟩ = some ((.slice aW g0.length cpW)) ∧ (x3.alloc (.cells #[(.slice aW g0.length cpW), .int .i64 m0] 26)).cell? ⟨x3.heap.size, 1, none⟩ = some (.int .i64 m0)) := Lib.hid ⟨by rw [World.cell?_alloc_new]; rfl, by rw [World.cell?_alloc_new]; rfl⟩
  have HX0o := HX0.out
  obtain ⟨hx0_0, hx0_1⟩ := HX0o
  go_wp2_with (fail)
  go_at_call 9
  refine (Sk.copy_sk u0 z0 n0 _ (Ib.nums HY0.out) HL0.out).mono ?_
  rintro e x5 ⟨vX, rfl, oX, b5⟩
  have hs5 := b5.size
  obtain ⟨aX, cpX, rfl, _⟩ := Rec.shape_at oX
  clear hx0_0 hx0_1
  have HX0 := Lib.hid (And.intro ((b5.cell (p := ⟨w.heap.size, 0, none⟩) (Rec.lt_of_cell (HX0.out.1))).trans (HX0.out.1)) ((b5.cell (p := ⟨w.heap.size, 1, none⟩) (Rec.lt_of_cell (HX0.out.2))).trans (HX0.out.2)))
  have HY0 := Lib.hid (Ib.holds_below HY0.out (b5.mono (by omega)))
  have HWW := Lib.hid (Ih.holds_below HWW.out (b5.mono (by omega)))
  have HZW := Lib.hid (And.intro ((b5.cell (p := ⟨x3.heap.size, 0, none⟩) (Rec.lt_of_cell (HZW.out.1))).trans (HZW.out.1)) ((b5.cell (p := ⟨x3.heap.size, 1, none⟩) (Rec.lt_of_cell (HZW.out.2))).trans (HZW.out.2)))
  have HB := Lib.hid (Base.then_below HB.out b5)
  clear b5
  have HX := Lib.hid (oX)
  clear oX
  have HRX : Hid (∀ k, Value.ownBlock (.slice aX z0.length cpX) = some k → k < x5.heap.size) := Lib.hid (fun k e => (World.ownsRow.lt HX.out k e).2)
  have hsa6 : (x5.alloc (.cells #[(.slice aX z0.length cpX), .int .i64 n0] 26)).heap.size = x5.heap.size + 1 := by simp
  have HX0 := Lib.hid (And.intro ((((Below.refl x5.heap.size x5).alloc (Nat.le_refl _) (.cells #[(.slice aX z0.length cpX), .int .i64 n0] 26)).cell (p := ⟨w.heap.size, 0, none⟩) (Rec.lt_of_cell (HX0.out.1))).trans (HX0.out.1)) ((((Below.refl x5.heap.size x5).alloc (Nat.le_refl _) (.cells #[(.slice aX z0.length cpX), .int .i64 n0] 26)).cell (p := ⟨w.heap.size, 1, none⟩) (Rec.lt_of_cell (HX0.out.2))).trans (HX0.out.2)))
  have HY0 := Lib.hid (Ib.holds_below HY0.out (((Below.refl x5.heap.size x5).alloc (Nat.le_refl _) (.cells #[(.slice aX z0.length cpX), .int .i64 n0] 26)).mono (by omega)))
  have HWW := Lib.hid (Ih.holds_below HWW.out (((Below.refl x5.heap.size x5).alloc (Nat.le_refl _) (.cells #[(.slice aX z0.length cpX), .int .i64 n0] 26)).mono (by omega)))
  have HZW := Lib.hid (And.intro ((((Below.refl x5.heap.size x5).alloc (Nat.le_refl _) (.cells #[(.slice aX z0.length cpX), .int .i64 n0] 26)).cell (p := ⟨x3.heap.size, 0, none⟩) (Rec.lt_of_cell (HZW.out.1))).trans (HZW.out.1)) ((((Below.refl x5.heap.size x5).alloc (Nat.le_refl _) (.cells #[(.slice aX z0.length cpX), .int .i64 n0] 26)).cell (p := ⟨x3.heap.size, 1, none⟩) (Rec.lt_of_cell (HZW.out.2))).trans (HZW.out.2)))
  have HX := Lib.hid (Ih.row_below HX.out ((Below.refl x5.heap.size x5).alloc (Nat.le_refl _) (.cells #[(.slice aX z0.length cpX), .int .i64 n0] 26)))
  have HB := Lib.hid (HB.out.alloc HB.out.size (.cells #[(.slice aX z0.length cpX), .int .i64 n0] 26))
  have HZX : Hid ((x5.alloc (.cells #[(.slice aX z0.length cpX), .int .i64 n0] 26)).cell? ⟨x5.heap.size, 0, none⟩ = some ((.slice aX z0.length cpX)) ∧ (x5.alloc (.cells #[(.slice aX z0.length cpX), .int .i64 n0] 26)).cell? ⟨x5.heap.size, 1, none⟩ = some (.int .i64 n0)) := Lib.hid ⟨by rw [World.cell?_alloc_new]; rfl, by rw [World.cell?_alloc_new]; rfl⟩
  have HZXo := HZX.out
  obtain ⟨hzx_0, hzx_1⟩ := HZXo
  go_wp2_with (fail)
  go_at_call 10
  refine (tou_of HGG.out (Sk.impl_tou (.slice aX z0.length cpX) z0 n0 n1 _ _ (Ih.own_holds HX.out) (Nat.le_refl _) HL0.out hbig1)).mono ?_
  rintro e x7 ⟨vG, rfl, oG, b7⟩
  obtain ⟨aG, cpG, rfl, _⟩ := Rec.shape_at oG
  have hs7 := b7.size
  have NG_X : Hid (∀ g, Value.ownBlock (.slice aG g0.length cpG) = some g → some g ≠ Value.ownBlock (.slice aX z0.length cpX)) := Lib.hid (fun g hg hx => by have q1 := (World.ownsRow.lt oG g hg).1; have q2 := (World.ownsRow.lt HX.out g hx.symm).2; omega)
  have HX0 := Lib.hid (And.intro ((b7.cell (p := ⟨w.heap.size, 0, none⟩) (Rec.lt_of_cell (HX0.out.1))).trans (HX0.out.1)) ((b7.cell (p := ⟨w.heap.size, 1, none⟩) (Rec.lt_of_cell (HX0.out.2))).trans (HX0.out.2)))
  have HY0 := Lib.hid (Ib.holds_below HY0.out (b7.mono (by omega)))
  have HWW := Lib.hid (Ih.holds_below HWW.out (b7.mono (by omega)))
  have HZW := Lib.hid (And.intro ((b7.cell (p := ⟨x3.heap.size, 0, none⟩) (Rec.lt_of_cell (HZW.out.1))).trans (HZW.out.1)) ((b7.cell (p := ⟨x3.heap.size, 1, none⟩) (Rec.lt_of_cell (HZW.out.2))).trans (HZW.out.2)))
  have HX := Lib.hid (Ih.row_below HX.out b7)
  have HZX := Lib.hid (And.intro ((b7.cell (p := ⟨x5.heap.size, 0, none⟩) (Rec.lt_of_cell (HZX.out.1))).trans (HZX.out.1)) ((b7.cell (p := ⟨x5.heap.size, 1, none⟩) (Rec.lt_of_cell (HZX.out.2))).trans (HZX.out.2)))
  have HB := Lib.hid (Base.then_below HB.out b7)
  clear b7
  clear hzx_0 hzx_1
  have HG := Lib.hid oG
  clear oG
  have HRG : Hid (∀ k, Value.ownBlock (.slice aG g0.length cpG) = some k → k < x7.heap.size) := Lib.hid (fun k e => (World.ownsRow.lt HG.out k e).2)
  have hsa8 : (x7.alloc (.cells #[(.slice aG g0.length cpG), .int .i64 m0] 26)).heap.size = x7.heap.size + 1 := by simp
  have HX0 := Lib.hid (And.intro ((((Below.refl x7.heap.size x7).alloc (Nat.le_refl _) (.cells #[(.slice aG g0.length cpG), .int .i64 m0] 26)).cell (p := ⟨w.heap.size, 0, none⟩) (Rec.lt_of_cell (HX0.out.1))).trans (HX0.out.1)) ((((Below.refl x7.heap.size x7).alloc (Nat.le_refl _) (.cells #[(.slice aG g0.length cpG), .int .i64 m0] 26)).cell (p := ⟨w.heap.size, 1, none⟩) (Rec.lt_of_cell (HX0.out.2))).trans (HX0.out.2)))
  have HY0 := Lib.hid (Ib.holds_below HY0.out (((Below.refl x7.heap.size x7).alloc (Nat.le_refl _) (.cells #[(.slice aG g0.length cpG), .int .i64 m0] 26)).mono (by omega)))
  have HWW := Lib.hid (Ih.holds_below HWW.out (((Below.refl x7.heap.size x7).alloc (Nat.le_refl _) (.cells #[(.slice aG g0.length cpG), .int .i64 m0] 26)).mono (by omega)))
  have HZW := Lib.hid (And.intro ((((Below.refl x7.heap.size x7).alloc (Nat.le_refl _) (.cells #[(.slice aG g0.length cpG), .int .i64 m0] 26)).cell (p := ⟨x3.heap.size, 0, none⟩) (Rec.lt_of_cell (HZW.out.1))).trans (HZW.out.1)) ((((Below.refl x7.heap.size x7).alloc (Nat.le_refl _) (.cells #[(.slice aG g0.length cpG), .int .i64 m0] 26)).cell (p := ⟨x3.heap.size, 1, none⟩) (Rec.lt_of_cell (HZW.out.2))).trans (HZW.out.2)))
  have HX := Lib.hid (Ih.row_below HX.out ((Below.refl x7.heap.size x7).alloc (Nat.le_refl _) (.cells #[(.slice aG g0.length cpG), .int .i64 m0] 26)))
  have HZX := Lib.hid (And.intro ((((Below.refl x7.heap.size x7).alloc (Nat.le_refl _) (.cells #[(.slice aG g0.length cpG), .int .i64 m0] 26)).cell (p := ⟨x5.heap.size, 0, none⟩) (Rec.lt_of_cell (HZX.out.1))).trans (HZX.out.1)) ((((Below.refl x7.heap.size x7).alloc (Nat.le_refl _) (.cells #[(.slice aG g0.length cpG), .int .i64 m0] 26)).cell (p := ⟨x5.heap.size, 1, none⟩) (Rec.lt_of_cell (HZX.out.2))).trans (HZX.out.2)))
  have HG := Lib.hid (Ih.row_below HG.out ((Below.refl x7.heap.size x7).alloc (Nat.le_refl _) (.cells #[(.slice aG g0.length cpG), .int .i64 m0] 26)))
  have HB := Lib.hid (HB.out.alloc HB.out.size (.cells #[(.slice aG g0.length cpG), .int .i64 m0] 26))
  have HZG : Hid ((x7.alloc (.cells #[(.slice aG g0.length cpG), .int .i64 m0] 26)).cell? ⟨x7.heap.size, 0, none⟩ = some ((.slice aG g0.length cpG)) ∧ (x7.alloc (.cells #[(.slice aG g0.length cpG), .int .i64 m0] 26)).cell? ⟨x7.heap.size, 1, none⟩ = some (.int .i64 m0)) := Lib.hid ⟨by rw [World.cell?_alloc_new]; rfl, by rw [World.cell?_alloc_new]; rfl⟩
  have HZGo := HZG.out
  obtain ⟨hzg_0, hzg_1⟩ := HZGo
  have HZWo := HZW.out
  obtain ⟨hzw_0, hzw_1⟩ := HZWo
  go_wp2_with (fail)
  go_at_call 11
  refine (Sk.eq_sk_wide (.slice aG g0.length cpG) (.slice aW g0.length cpW) g0 m0 _ (Sk.rh_nums (Ih.own_holds HG.out)) (Sk.rh_nums HWW.out) (by have := HK.out; omega)).mono ?_
  rintro e x9 ⟨rfl, b9⟩
  have hs9 := b9.size
  clear hzg_0 hzg_1
  clear hzw_0 hzw_1
  have HX0 := Lib.hid (And.intro ((b9.cell (p := ⟨w.heap.size, 0, none⟩) (Rec.lt_of_cell (HX0.out.1))).trans (HX0.out.1)) ((b9.cell (p := ⟨w.heap.size, 1, none⟩) (Rec.lt_of_cell (HX0.out.2))).trans (HX0.out.2)))
  have HY0 := Lib.hid (Ib.holds_below HY0.out (b9.mono (by omega)))
  have HWW := Lib.hid (Ih.holds_below HWW.out (b9.mono (by omega)))
  have HZW := Lib.hid (And.intro ((b9.cell (p := ⟨x3.heap.size, 0, none⟩) (Rec.lt_of_cell (HZW.out.1))).trans (HZW.out.1)) ((b9.cell (p := ⟨x3.heap.size, 1, none⟩) (Rec.lt_of_cell (HZW.out.2))).trans (HZW.out.2)))
  have HX := Lib.hid (Ih.row_below HX.out b9)
  have HZX := Lib.hid (And.intro ((b9.cell (p := ⟨x5.heap.size, 0, none⟩) (Rec.lt_of_cell (HZX.out.1))).trans (HZX.out.1)) ((b9.cell (p := ⟨x5.heap.size, 1, none⟩) (Rec.lt_of_cell (HZX.out.2))).trans (HZX.out.2)))
  have HG := Lib.hid (Ih.row_below HG.out b9)
  have HZG := Lib.hid (And.intro ((b9.cell (p := ⟨x7.heap.size, 0, none⟩) (Rec.lt_of_cell (HZG.out.1))).trans (HZG.out.1)) ((b9.cell (p := ⟨x7.heap.size, 1, none⟩) (Rec.lt_of_cell (HZG.out.2))).trans (HZG.out.2)))
  have HB := Lib.hid (Base.then_below HB.out b9)
  clear b9
  have HX0 : Hid (x9.drew.cell? ⟨w.heap.size, 0, none⟩ = some (u0) ∧ x9.drew.cell? ⟨w.heap.size, 1, none⟩ = some (.int .i64 n0)) := Lib.hid HX0.out
  have HZW : Hid (x9.drew.cell? ⟨x3.heap.size, 0, none⟩ = some ((.slice aW g0.length cpW)) ∧ x9.drew.cell? ⟨x3.heap.size, 1, none⟩ = some (.int .i64 m0)) := Lib.hid HZW.out
  have HX := Lib.hid (World.ownsRow.drew HX.out)
  have HZX : Hid (x9.drew.cell? ⟨x5.heap.size, 0, none⟩ = some ((.slice aX z0.length cpX)) ∧ x9.drew.cell? ⟨x5.heap.size, 1, none⟩ = some (.int .i64 n0)) := Lib.hid HZX.out
  have HG := Lib.hid (World.ownsRow.drew HG.out)
  have HZG : Hid (x9.drew.cell? ⟨x7.heap.size, 0, none⟩ = some ((.slice aG g0.length cpG)) ∧ x9.drew.cell? ⟨x7.heap.size, 1, none⟩ = some (.int .i64 m0)) := Lib.hid HZG.out
  have HY0 : Hid (Ib.Holds x9.drew w.heap.size u0 z0) := Lib.hid HY0.out
  have HWW : Hid (Ih.Holds x9.drew _ (.slice aW g0.length cpW) g0) := Lib.hid HWW.out
  have HB := Lib.hid (Rec.below_drew HB.out)
  have hdz10 : x9.drew.heap.size = x9.heap.size := rfl
  have qhx0_0 := HX0.out.1
  have qhx0_1 := HX0.out.2
  have qhzx_0 := HZX.out.1
  have qhzx_1 := HZX.out.2
  go_wp2
  go_region_with (first | (go_at_call 9; refine (Sk.copy_sk u0 z0 n0 _ (Ib.nums HY0.out) HL0.out).mono ?_; rintro e xq ⟨vC, rfl, oC, bq⟩; clear qhx0_0 qhx0_1 qhzx_0 qhzx_1; have hqz := bq.size; have HX0 := Lib.hid (And.intro ((bq.cell (p := ⟨w.heap.size, 0, none⟩) (Rec.lt_of_cell (HX0.out.1))).trans (HX0.out.1)) ((bq.cell (p := ⟨w.heap.size, 1, none⟩) (Rec.lt_of_cell (HX0.out.2))).trans (HX0.out.2))); have HY0 := Lib.hid (Ib.holds_below HY0.out (bq.mono (by have h9 := HB.out.size; omega))); have HWW := Lib.hid (Ih.holds_below HWW.out (bq.mono (by have h9 := HB.out.size; omega))); have HZW := Lib.hid (And.intro ((bq.cell (p := ⟨x3.heap.size, 0, none⟩) (Rec.lt_of_cell (HZW.out.1))).trans (HZW.out.1)) ((bq.cell (p := ⟨x3.heap.size, 1, none⟩) (Rec.lt_of_cell (HZW.out.2))).trans (HZW.out.2))); have HX := Lib.hid (Ih.row_below HX.out bq); have HZX := Lib.hid (And.intro ((bq.cell (p := ⟨x5.heap.size, 0, none⟩) (Rec.lt_of_cell (HZX.out.1))).trans (HZX.out.1)) ((bq.cell (p := ⟨x5.heap.size, 1, none⟩) (Rec.lt_of_cell (HZX.out.2))).trans (HZX.out.2))); have HG := Lib.hid (Ih.row_below HG.out bq); have HZG := Lib.hid (And.intro ((bq.cell (p := ⟨x7.heap.size, 0, none⟩) (Rec.lt_of_cell (HZG.out.1))).trans (HZG.out.1)) ((bq.cell (p := ⟨x7.heap.size, 1, none⟩) (Rec.lt_of_cell (HZG.out.2))).trans (HZG.out.2))); have HB := Lib.hid (Base.then_below HB.out bq); have HC := Lib.hid (Ih.own_holds oC); have qhx0_0 := HX0.out.1; have qhx0_1 := HX0.out.2; have qhzx_0 := HZX.out.1; have qhzx_1 := HZX.out.2; clear bq oC) | (go_at_call 11; refine (Sk.eq_sk (.slice aX z0.length cpX) vC z0 n0 _ (Sk.rh_nums (Ih.own_holds HX.out)) (Sk.rh_nums HC.out) HL0.out).mono ?_; rintro e xq ⟨rfl, bq⟩; clear qhx0_0 qhx0_1 qhzx_0 qhzx_1; have hqz := bq.size; have HX0 := Lib.hid (And.intro ((bq.cell (p := ⟨w.heap.size, 0, none⟩) (Rec.lt_of_cell (HX0.out.1))).trans (HX0.out.1)) ((bq.cell (p := ⟨w.heap.size, 1, none⟩) (Rec.lt_of_cell (HX0.out.2))).trans (HX0.out.2))); have HY0 := Lib.hid (Ib.holds_below HY0.out (bq.mono (by have h9 := HB.out.size; omega))); have HWW := Lib.hid (Ih.holds_below HWW.out (bq.mono (by have h9 := HB.out.size; omega))); have HZW := Lib.hid (And.intro ((bq.cell (p := ⟨x3.heap.size, 0, none⟩) (Rec.lt_of_cell (HZW.out.1))).trans (HZW.out.1)) ((bq.cell (p := ⟨x3.heap.size, 1, none⟩) (Rec.lt_of_cell (HZW.out.2))).trans (HZW.out.2))); have HX := Lib.hid (Ih.row_below HX.out bq); have HZX := Lib.hid (And.intro ((bq.cell (p := ⟨x5.heap.size, 0, none⟩) (Rec.lt_of_cell (HZX.out.1))).trans (HZX.out.1)) ((bq.cell (p := ⟨x5.heap.size, 1, none⟩) (Rec.lt_of_cell (HZX.out.2))).trans (HZX.out.2))); have HG := Lib.hid (Ih.row_below HG.out bq); have HZG := Lib.hid (And.intro ((bq.cell (p := ⟨x7.heap.size, 0, none⟩) (Rec.lt_of_cell (HZG.out.1))).trans (HZG.out.1)) ((bq.cell (p := ⟨x7.heap.size, 1, none⟩) (Rec.lt_of_cell (HZG.out.2))).trans (HZG.out.2))); have HB := Lib.hid (Base.then_below HB.out bq); clear bq HC))
  all_goals have hsr10 := HB.out.size
  all_goals (
    have HZXo := HZX.out
    obtain ⟨hzx_0, hzx_1⟩ := HZXo
    go_wp2_with (fail)
    go_at_call 12
    refine (Sk.mark_sk _ (.slice aX z0.length cpX) z0 n0 1 _ HX.out (by have := HL0.out; omega)).mono ?_
    rintro e x11 ⟨rfl, oM, gM⟩
    have hs11 := gM.size
    have HR : Hid (∀ k, Value.ownBlock (.slice aX z0.length cpX) = some k → (x3.alloc (.cells #[(.slice aW g0.length cpW), .int .i64 m0] 26)).heap.size ≤ k) := Lib.hid (fun k e => (World.ownsRow.lt HX.out k e).1)
    have HX0 := Lib.hid (And.intro (gM.cell (HX0.out.1) (fun e => by have h9 : (x3.alloc (.cells #[(.slice aW g0.length cpW), .int .i64 m0] 26)).heap.size ≤ w.heap.size := HR.out _ e.symm; omega)) (gM.cell (HX0.out.2) (fun e => by have h9 : (x3.alloc (.cells #[(.slice aW g0.length cpW), .int .i64 m0] 26)).heap.size ≤ w.heap.size := HR.out _ e.symm; omega)))
    have HY0 := Lib.hid (Ib.holds_grown HY0.out gM (fun k e => by have := HR.out k e; omega))
    have HWW := Lib.hid (Ih.holds_grown HWW.out gM (fun k e => by have := HR.out k e; omega))
    have HZW := Lib.hid (And.intro (gM.cell (HZW.out.1) (fun e => by have h9 : (x3.alloc (.cells #[(.slice aW g0.length cpW), .int .i64 m0] 26)).heap.size ≤ x3.heap.size := HR.out _ e.symm; omega)) (gM.cell (HZW.out.2) (fun e => by have h9 : (x3.alloc (.cells #[(.slice aW g0.length cpW), .int .i64 m0] 26)).heap.size ≤ x3.heap.size := HR.out _ e.symm; omega)))
    have HG := Lib.hid (Ih.row_grown HG.out gM NG_X.out)
    have HZG := Lib.hid (And.intro (gM.cell (HZG.out.1) (fun e => by have h9 : x7.heap.size < _ := HRX.out _ e.symm; omega)) (gM.cell (HZG.out.2) (fun e => by have h9 : x7.heap.size < _ := HRX.out _ e.symm; omega)))
    have HB := Lib.hid (HB.out.grown gM HB.out.size (fun k e => by have := HR.out k e; omega))
    have HX := Lib.hid oM
    clear oM gM HR
    clear hzx_0 hzx_1
    have hk1 : ¬ ((1 + z0.length : Nat) : Int) < 0 := by omega
    have HZGo := HZG.out
    obtain ⟨hzg_0, hzg_1⟩ := HZGo
    have HZWo := HZW.out
    obtain ⟨hzw_0, hzw_1⟩ := HZWo
    go_wp2_with (fail)
    go_at_call 11
    refine (Sk.eq_sk_wide (.slice aG g0.length cpG) (.slice aW g0.length cpW) g0 m0 _ (Sk.rh_nums (Ih.own_holds HG.out)) (Sk.rh_nums HWW.out) (by have := HK.out; omega)).mono ?_
    rintro e x12 ⟨rfl, b12⟩
    have hs12 := b12.size
    clear hzg_0 hzg_1
    clear hzw_0 hzw_1
    have HX0 := Lib.hid (And.intro ((b12.cell (p := ⟨w.heap.size, 0, none⟩) (Rec.lt_of_cell (HX0.out.1))).trans (HX0.out.1)) ((b12.cell (p := ⟨w.heap.size, 1, none⟩) (Rec.lt_of_cell (HX0.out.2))).trans (HX0.out.2)))
    have HY0 := Lib.hid (Ib.holds_below HY0.out (b12.mono (by omega)))
    have HWW := Lib.hid (Ih.holds_below HWW.out (b12.mono (by omega)))
    have HZW := Lib.hid (And.intro ((b12.cell (p := ⟨x3.heap.size, 0, none⟩) (Rec.lt_of_cell (HZW.out.1))).trans (HZW.out.1)) ((b12.cell (p := ⟨x3.heap.size, 1, none⟩) (Rec.lt_of_cell (HZW.out.2))).trans (HZW.out.2)))
    have HG := Lib.hid (Ih.row_below HG.out b12)
    have HZG := Lib.hid (And.intro ((b12.cell (p := ⟨x7.heap.size, 0, none⟩) (Rec.lt_of_cell (HZG.out.1))).trans (HZG.out.1)) ((b12.cell (p := ⟨x7.heap.size, 1, none⟩) (Rec.lt_of_cell (HZG.out.2))).trans (HZG.out.2)))
    have HB := Lib.hid (Base.then_below HB.out b12)
    clear b12
    have HZGo := HZG.out
    obtain ⟨hzg_0, hzg_1⟩ := HZGo
    go_wp2_with (fail)
    go_at_call 12
    refine (Sk.mark_sk _ (.slice aG g0.length cpG) g0 m0 1 _ HG.out (by have := HK.out; omega)).mono ?_
    rintro e x13 ⟨rfl, oM, gM⟩
    have hs13 := gM.size
    have HR : Hid (∀ k, Value.ownBlock (.slice aG g0.length cpG) = some k → (x5.alloc (.cells #[(.slice aX z0.length cpX), .int .i64 n0] 26)).heap.size ≤ k) := Lib.hid (fun k e => (World.ownsRow.lt HG.out k e).1)
    have HX0 := Lib.hid (And.intro (gM.cell (HX0.out.1) (fun e => by have h9 : (x5.alloc (.cells #[(.slice aX z0.length cpX), .int .i64 n0] 26)).heap.size ≤ w.heap.size := HR.out _ e.symm; omega)) (gM.cell (HX0.out.2) (fun e => by have h9 : (x5.alloc (.cells #[(.slice aX z0.length cpX), .int .i64 n0] 26)).heap.size ≤ w.heap.size := HR.out _ e.symm; omega)))
    have HY0 := Lib.hid (Ib.holds_grown HY0.out gM (fun k e => by have := HR.out k e; omega))
    have HWW := Lib.hid (Ih.holds_grown HWW.out gM (fun k e => by have := HR.out k e; omega))
    have HZW := Lib.hid (And.intro (gM.cell (HZW.out.1) (fun e => by have h9 : (x5.alloc (.cells #[(.slice aX z0.length cpX), .int .i64 n0] 26)).heap.size ≤ x3.heap.size := HR.out _ e.symm; omega)) (gM.cell (HZW.out.2) (fun e => by have h9 : (x5.alloc (.cells #[(.slice aX z0.length cpX), .int .i64 n0] 26)).heap.size ≤ x3.heap.size := HR.out _ e.symm; omega)))
    have HZG := Lib.hid (And.intro (gM.cell (HZG.out.1) (fun e => by have h9 : x7.heap.size < _ := HRG.out _ e.symm; omega)) (gM.cell (HZG.out.2) (fun e => by have h9 : x7.heap.size < _ := HRG.out _ e.symm; omega)))
    have HB := Lib.hid (HB.out.grown gM HB.out.size (fun k e => by have := HR.out k e; omega))
    have HG := Lib.hid oM
    clear oM gM HR
    clear hzg_0 hzg_1
    have hk2 : ¬ ((1 + g0.length : Nat) : Int) < 0 := by omega
    have HZGo := HZG.out
    obtain ⟨hzg_0, hzg_1⟩ := HZGo
    go_wp2_with (fail)
    go_at_call 13
    refine (Sk.held_sk (.slice aG g0.length cpG) m0 1 g0.length _ (Sk.rh_nums (Ih.own_holds HG.out)) (by have := HK.out; omega)).mono ?_
    rintro e x14 ⟨rfl, b14⟩
    have hs14 := b14.size
    clear hzg_0 hzg_1
    have HX0 := Lib.hid (And.intro ((b14.cell (p := ⟨w.heap.size, 0, none⟩) (Rec.lt_of_cell (HX0.out.1))).trans (HX0.out.1)) ((b14.cell (p := ⟨w.heap.size, 1, none⟩) (Rec.lt_of_cell (HX0.out.2))).trans (HX0.out.2)))
    have HY0 := Lib.hid (Ib.holds_below HY0.out (b14.mono (by omega)))
    have HWW := Lib.hid (Ih.holds_below HWW.out (b14.mono (by omega)))
    have HZW := Lib.hid (And.intro ((b14.cell (p := ⟨x3.heap.size, 0, none⟩) (Rec.lt_of_cell (HZW.out.1))).trans (HZW.out.1)) ((b14.cell (p := ⟨x3.heap.size, 1, none⟩) (Rec.lt_of_cell (HZW.out.2))).trans (HZW.out.2)))
    have HZG := Lib.hid (And.intro ((b14.cell (p := ⟨x7.heap.size, 0, none⟩) (Rec.lt_of_cell (HZG.out.1))).trans (HZG.out.1)) ((b14.cell (p := ⟨x7.heap.size, 1, none⟩) (Rec.lt_of_cell (HZG.out.2))).trans (HZG.out.2)))
    have HG := Lib.hid (Ih.row_below HG.out b14)
    have HB := Lib.hid (Base.then_below HB.out b14)
    clear b14
    have HX0o := HX0.out
    obtain ⟨hx0_0, hx0_1⟩ := HX0o
    go_wp2_with (fail)
    go_at_call 9
    refine (Sk.copy_sk u0 z0 n0 _ (Ib.nums HY0.out) HL0.out).mono ?_
    rintro e x15 ⟨vP, rfl, oP, b15⟩
    have hs15 := b15.size
    obtain ⟨aP, cpP, rfl, _⟩ := Rec.shape_at oP
    clear hx0_0 hx0_1
    have HX0 := Lib.hid (And.intro ((b15.cell (p := ⟨w.heap.size, 0, none⟩) (Rec.lt_of_cell (HX0.out.1))).trans (HX0.out.1)) ((b15.cell (p := ⟨w.heap.size, 1, none⟩) (Rec.lt_of_cell (HX0.out.2))).trans (HX0.out.2)))
    have HY0 := Lib.hid (Ib.holds_below HY0.out (b15.mono (by omega)))
    have HWW := Lib.hid (Ih.holds_below HWW.out (b15.mono (by omega)))
    have HZW := Lib.hid (And.intro ((b15.cell (p := ⟨x3.heap.size, 0, none⟩) (Rec.lt_of_cell (HZW.out.1))).trans (HZW.out.1)) ((b15.cell (p := ⟨x3.heap.size, 1, none⟩) (Rec.lt_of_cell (HZW.out.2))).trans (HZW.out.2)))
    have HZG := Lib.hid (And.intro ((b15.cell (p := ⟨x7.heap.size, 0, none⟩) (Rec.lt_of_cell (HZG.out.1))).trans (HZG.out.1)) ((b15.cell (p := ⟨x7.heap.size, 1, none⟩) (Rec.lt_of_cell (HZG.out.2))).trans (HZG.out.2)))
    have HG := Lib.hid (Ih.row_below HG.out b15)
    have HB := Lib.hid (Base.then_below HB.out b15)
    clear b15
    have HP := Lib.hid (Ih.own_holds oP)
    clear oP
    go_wp2_with (fail)
    go_at_call 10
    refine (tou_of HGG.out (Sk.impl_tou (.slice aP z0.length cpP) z0 n0 n1 _ _ (Rec.holds_more HP.out (by omega)) (Nat.le_refl _) HL0.out hbig1)).mono ?_
    rintro e x16 ⟨vH, rfl, oH, b16⟩
    obtain ⟨aH, cpH, rfl, _⟩ := Rec.shape_at oH
    have hs16 := b16.size
    have HWW := Lib.hid (Ih.holds_below HWW.out (b16.mono (by omega)))
    have HZW := Lib.hid (And.intro ((b16.cell (p := ⟨x3.heap.size, 0, none⟩) (Rec.lt_of_cell (HZW.out.1))).trans (HZW.out.1)) ((b16.cell (p := ⟨x3.heap.size, 1, none⟩) (Rec.lt_of_cell (HZW.out.2))).trans (HZW.out.2)))
    have HZG := Lib.hid (And.intro ((b16.cell (p := ⟨x7.heap.size, 0, none⟩) (Rec.lt_of_cell (HZG.out.1))).trans (HZG.out.1)) ((b16.cell (p := ⟨x7.heap.size, 1, none⟩) (Rec.lt_of_cell (HZG.out.2))).trans (HZG.out.2)))
    have HG := Lib.hid (Ih.row_below HG.out b16)
    have HB := Lib.hid (Base.then_below HB.out b16)
    clear b16
    have HH := Lib.hid (Ih.own_holds oH)
    clear oH
    have hsa17 : (x16.alloc (.cells #[(.slice aH g0.length cpH), .int .i64 m0] 26)).heap.size = x16.heap.size + 1 := by simp
    have HWW := Lib.hid (Ih.holds_below HWW.out (((Below.refl x16.heap.size x16).alloc (Nat.le_refl _) (.cells #[(.slice aH g0.length cpH), .int .i64 m0] 26)).mono (by omega)))
    have HZW := Lib.hid (And.intro ((((Below.refl x16.heap.size x16).alloc (Nat.le_refl _) (.cells #[(.slice aH g0.length cpH), .int .i64 m0] 26)).cell (p := ⟨x3.heap.size, 0, none⟩) (Rec.lt_of_cell (HZW.out.1))).trans (HZW.out.1)) ((((Below.refl x16.heap.size x16).alloc (Nat.le_refl _) (.cells #[(.slice aH g0.length cpH), .int .i64 m0] 26)).cell (p := ⟨x3.heap.size, 1, none⟩) (Rec.lt_of_cell (HZW.out.2))).trans (HZW.out.2)))
    have HZG := Lib.hid (And.intro ((((Below.refl x16.heap.size x16).alloc (Nat.le_refl _) (.cells #[(.slice aH g0.length cpH), .int .i64 m0] 26)).cell (p := ⟨x7.heap.size, 0, none⟩) (Rec.lt_of_cell (HZG.out.1))).trans (HZG.out.1)) ((((Below.refl x16.heap.size x16).alloc (Nat.le_refl _) (.cells #[(.slice aH g0.length cpH), .int .i64 m0] 26)).cell (p := ⟨x7.heap.size, 1, none⟩) (Rec.lt_of_cell (HZG.out.2))).trans (HZG.out.2)))
    have HG := Lib.hid (Ih.row_below HG.out ((Below.refl x16.heap.size x16).alloc (Nat.le_refl _) (.cells #[(.slice aH g0.length cpH), .int .i64 m0] 26)))
    have HH := Lib.hid (Ih.holds_below HH.out (((Below.refl x16.heap.size x16).alloc (Nat.le_refl _) (.cells #[(.slice aH g0.length cpH), .int .i64 m0] 26)).mono (by omega)))
    have HB := Lib.hid (HB.out.alloc HB.out.size (.cells #[(.slice aH g0.length cpH), .int .i64 m0] 26))
    have HZH : Hid ((x16.alloc (.cells #[(.slice aH g0.length cpH), .int .i64 m0] 26)).cell? ⟨x16.heap.size, 0, none⟩ = some ((.slice aH g0.length cpH)) ∧ (x16.alloc (.cells #[(.slice aH g0.length cpH), .int .i64 m0] 26)).cell? ⟨x16.heap.size, 1, none⟩ = some (.int .i64 m0)) := Lib.hid ⟨by rw [World.cell?_alloc_new]; rfl, by rw [World.cell?_alloc_new]; rfl⟩
    have HZHo := HZH.out
    obtain ⟨hzh_0, hzh_1⟩ := HZHo
    have HZWo := HZW.out
    obtain ⟨hzw_0, hzw_1⟩ := HZWo
    go_wp2_with (fail)
    go_at_call 11
    refine (Sk.eq_sk_wide (.slice aH g0.length cpH) (.slice aW g0.length cpW) g0 m0 _ (Sk.rh_nums HH.out) (Sk.rh_nums HWW.out) (by have := HK.out; omega)).mono ?_
    rintro e x18 ⟨rfl, b18⟩
    have hs18 := b18.size
    clear hzh_0 hzh_1
    clear hzw_0 hzw_1
    have HWW := Lib.hid (Ih.holds_below HWW.out (b18.mono (by omega)))
    have HZW := Lib.hid (And.intro ((b18.cell (p := ⟨x3.heap.size, 0, none⟩) (Rec.lt_of_cell (HZW.out.1))).trans (HZW.out.1)) ((b18.cell (p := ⟨x3.heap.size, 1, none⟩) (Rec.lt_of_cell (HZW.out.2))).trans (HZW.out.2)))
    have HZG := Lib.hid (And.intro ((b18.cell (p := ⟨x7.heap.size, 0, none⟩) (Rec.lt_of_cell (HZG.out.1))).trans (HZG.out.1)) ((b18.cell (p := ⟨x7.heap.size, 1, none⟩) (Rec.lt_of_cell (HZG.out.2))).trans (HZG.out.2)))
    have HG := Lib.hid (Ih.row_below HG.out b18)
    have HH := Lib.hid (Ih.holds_below HH.out (b18.mono (by omega)))
    have HZH := Lib.hid (And.intro ((b18.cell (p := ⟨x16.heap.size, 0, none⟩) (Rec.lt_of_cell (HZH.out.1))).trans (HZH.out.1)) ((b18.cell (p := ⟨x16.heap.size, 1, none⟩) (Rec.lt_of_cell (HZH.out.2))).trans (HZH.out.2)))
    have HB := Lib.hid (Base.then_below HB.out b18)
    clear b18
    have HZGo := HZG.out
    obtain ⟨hzg_0, hzg_1⟩ := HZGo
    go_wp2_with (fail)
    go_at_call 13
    refine (Sk.held_sk (.slice aG g0.length cpG) m0 1 g0.length _ (Sk.rh_nums (Ih.own_holds HG.out)) (by have := HK.out; omega)).mono ?_
    rintro e x19 ⟨rfl, b19⟩
    have hs19 := b19.size
    clear hzg_0 hzg_1
    have HZG := Lib.hid (And.intro ((b19.cell (p := ⟨x7.heap.size, 0, none⟩) (Rec.lt_of_cell (HZG.out.1))).trans (HZG.out.1)) ((b19.cell (p := ⟨x7.heap.size, 1, none⟩) (Rec.lt_of_cell (HZG.out.2))).trans (HZG.out.2)))
    have HG := Lib.hid (Ih.row_below HG.out b19)
    have HB := Lib.hid (Base.then_below HB.out b19)
    clear b19
    go_wp2
    go_ret
    exact ⟨rfl, HB.out⟩)

set_option maxRecDepth 1000000 in
theorem lifted (os : Os) (started : os.Started) (H : Type) (enc : TypeId × Value → H) :
    ReturnsInHanded {} Try.checked os 3 .any (Rows.fnExactTouchKeySpec.pre6 enc Try.prog Try.f3 Rows.fnExactTouchKeyRow.domain false) (Rows.fnExactTouchKeySpec.post enc Try.prog Try.f3 false true false false) := by
  refine returnsInHanded_of_change (C := Try.checked) own started (by kernel_rfl) Try.func3
    (ChangeSpec.witness6 (enc := enc) (C := Try.checked) false ⟨#[], #[.agg #[.slice none 0 0, .int .i64 0], .string ⟨#[]⟩], []⟩ 8 (by kernel_rfl) (by kernel_rfl) (by kernel_rfl) (by kernel_rfl)) ?_
  intro W base args ds gs before hval0 hW hcnd _
  have hval : ∀ (j : Nat) t v, Try.f3.params[j]? = some t → args[j]? = some v → Value.okWide Try.prog W .any base t v := hval0
  have hW' := hW
  obtain ⟨p, q, hA0, hV, rfl, hfz, hnd⟩ := hW
  have hA : DataW.TrodAll enc Try.prog W 0 (fun _ => true) true Try.f3.params.toList args.toList ds p := hA0
  rw [Try.params3] at hA hval
  obtain ⟨v0, vs0, d0, ds0, p0, q0, hargs, rfl, rfl, h0, r0⟩ := trodAll_cons hA
  obtain ⟨v1, vs1, d1, ds1, p1, q1, rfl, rfl, rfl, h1, r1⟩ := trodAll_cons r0
  obtain ⟨rfl, rfl, rfl⟩ := trodAll_nil r1
  obtain rfl : args = #[v0, v1] := by cases args; simp_all
  obtain ⟨rfl, rfl⟩ := trodVars_none hV
  have k0 := h0
  obtain ⟨u0, z0, n0, rfl, y0_0, w0⟩ := Sk.open_sk (hval 0 24 v0 rfl rfl) h0
  have y0 := y0_0
  have k1 := h1
  obtain ⟨a1, rfl, rfl, rfl, w1⟩ := Go.ChangeMaps.open_string Try.underlying9 (hval 1 9 v1 rfl rfl) h1
  clear hA0 hval0
  simp only [List.append_nil] at hW'
  refine (walk u0 z0 n0 a1 w0 w1 W y0).mono fun e W' ⟨he, hb⟩ => ?_
  subst he
  exact ⟨_, rfl, ⟨_, _, _, [], _, [], hW', (trodAll_cons_mk (shut_bool Try.underlying4 _) trodAll_mk0), (trodAll_cons_mk (Below.trod laidOut (by kernel_rfl) (of_decide_eq_true (by kernel_rfl)) k0 hb (fun x hx => hW'.lt x (by simp [hx]))) (trodAll_cons_mk (Go.ChangeMaps.shut_string Try.underlying9 w1) trodAll_mk0)), rfl, hb.frame _, fun h => by cases h⟩⟩

theorem over : Rows.fnExactTouchKeyRow.holds Try.pinned (OpenSpec.ofChange Rows.fnExactTouchKeySpec) :=
  OpenClaim.holds_of_wide 3 Try.f3 rfl rfl rfl rfl rfl rfl rfl ⟨rfl, rfl, rfl, rfl, rfl⟩ rfl rfl rfl rfl rfl (by kernel_rfl) Try.func3 (by kernel_rfl)
    (of_decide_eq_true (by kernel_rfl)) (by unfold Func.isWrapper; first | (rw [if_pos (by decide +kernel)]; kernel_rfl) | (rw [if_neg (by decide +kernel)]; exact ⟨rfl, rfl⟩))
    (fun os started H enc _ => lifted os started H enc)

/-- The given statement. -/
theorem proved : Rows.FnExactTouchKeySaid :=
  over
#print axioms proved
end Go.Proofs.Ytebkhailknbnhaa.fnExactTouchKey
