/-
  CONTRACT of the program's partsOf: the parts of a time as the forms write them; nothing that was there before is changed.
-/
import Derived.Test.YtgclilgahalgaaaDoorLaidNm
import Derived.Test.YtgclilgahalgaaaDoorCivI
import Derived.Test.YtgclilgahalgaaaDoorWeekI
import Derived.Test.YtgclilgahalgaaaDoorDigImpl
import Derived.Test.YtgclilgahalgaaaDoorJoinM
import Derived.Test.YtgclilgahalgaaaDoorRec
import Derived.RegionTactic
import Derived.Deep.RegionWith
import Derived.IntWalk
namespace Go.Proofs.YtgclilgahalgaaaDoor.Dt
open Go Go.RowKit
set_option linter.unusedVariables false

def pv (t y m d : Int) : Value := .agg #[.string ⟨(dnm (wkd (t / 86400))).toArray⟩, .int .i64 d, .string ⟨(mnm (m - 1).toNat).toArray⟩, .int .i64 y, .string ⟨(clk (t % 86400)).toArray⟩]
def Parts (t : Int) (w : World) (e : Ending) (w' : World) : Prop := ∃ y m d : Int, CV (t / 86400) y m d ∧ e = .returned (pv t y m d) ∧ Below w.heap.size w w'
theorem kept5 {w w1 : World} {T : TypeId} {a b c d e : Value} (hb : Below (w.alloc (.cells #[a, b, c, d, e] T)).heap.size (w.alloc (.cells #[a, b, c, d, e] T)) w1) :
    (w1.cell? ⟨w.heap.size, 0, none⟩ = some a ∧ w1.cell? ⟨w.heap.size, 1, none⟩ = some b ∧ w1.cell? ⟨w.heap.size, 2, none⟩ = some c ∧ w1.cell? ⟨w.heap.size, 3, none⟩ = some d ∧ w1.cell? ⟨w.heap.size, 4, none⟩ = some e) ∧ ∀ j, w1.frozen? ⟨w.heap.size, j, none⟩ = false := by
  refine ⟨⟨?_, ?_, ?_, ?_, ?_⟩, fun j => ?_⟩
  · rw [hb.cell (p := ⟨w.heap.size, 0, none⟩) (by simp), World.cell?_alloc_new]; rfl
  · rw [hb.cell (p := ⟨w.heap.size, 1, none⟩) (by simp), World.cell?_alloc_new]; rfl
  · rw [hb.cell (p := ⟨w.heap.size, 2, none⟩) (by simp), World.cell?_alloc_new]; rfl
  · rw [hb.cell (p := ⟨w.heap.size, 3, none⟩) (by simp), World.cell?_alloc_new]; rfl
  · rw [hb.cell (p := ⟨w.heap.size, 4, none⟩) (by simp), World.cell?_alloc_new]; rfl
  · rw [hb.frozen (p := ⟨w.heap.size, j, none⟩) (by simp)]; simp [go_sem]

set_option maxRecDepth 100000 in
set_option maxHeartbeats 4000000 in
theorem impl_parts (t : Int) (w : World) (h0 : 0 ≤ t) (h1 : t ≤ 4102444799) (ht : Mds w) (hn : Names w) (hten : Fmt.Tens w) :
    Calls Tryd.prog 33 #[.int .i64 t] w (Parts t w) := by
  have hd0 : 0 ≤ t / 86400 := by omega
  have hd1 : t / 86400 ≤ 47481 := by omega
  have hs0 : 0 ≤ t % 86400 := by omega
  have hs1 : t % 86400 ≤ 86399 := by omega
  have HZ : Hid (Below w.heap.size w (w.alloc (.cells #[.string ⟨#[]⟩, .int .i64 0, .string ⟨#[]⟩, .int .i64 0, .string ⟨#[]⟩] 43))) := Lib.hid ((Below.refl _ _).alloc (Nat.le_refl _) _)
  have HCV := Lib.hid (fun W (h : Mds W) => impl_civ (t / 86400) W hd0 hd1 h)
  have HM := Lib.hid ht
  have HN := Lib.hid hn
  have HT := Lib.hid hten
  have HWK := Lib.hid (fun W => impl_week (t / 86400) W (Go.WalkArith.wf_i64 ⟨by omega, by omega⟩))
  have HWC := Lib.hid (wkd_cast (t / 86400))
  have HWL := Lib.hid (wkd_lt (t / 86400))
  unfold Parts pv
  have hq1 : (t % 86400) / 3600 ≤ 23 := by omega
  have hq2 : t % 86400 % 3600 / 60 ≤ 59 := by omega
  have hq3 : t % 86400 % 60 ≤ 59 := by omega
  have HG := Lib.hid (fun (n : Int) (h : n ≤ 9223372036854775807) W (h' : Fmt.Tens W) => Dig.impl_digits n 2 W h h')
  have HCK : Hid (clk (t % 86400) = Dig.digs (t % 86400 / 3600) 2 ++ [58] ++ Dig.digs (t % 3600 / 60) 2 ++ [58] ++ Dig.digs (t % 60) 2) := Lib.hid (by unfold clk; rw [show t % 86400 % 3600 / 60 = t % 3600 / 60 by omega, show t % 86400 % 60 = t % 60 by omega])
  have l1 := dg2 (n := t % 86400 / 3600) (by omega) 2
  have l2 := dg2 (n := t % 3600 / 60) (by omega) 2
  have l3 := dg2 (n := t % 60) (by omega) 2
  rw [HCK.out]
  clear ht hn hten
  have HG1 := Lib.hid (HG.out (t % 86400 / 3600) (by omega))
  have HG2 := Lib.hid (HG.out (t % 3600 / 60) (by omega))
  have HG3 := Lib.hid (HG.out (t % 60) (by omega))
  generalize Dig.digs (t % 86400 / 3600) 2 = x1 at HG1 l1 ⊢
  generalize Dig.digs (t % 3600 / 60) 2 = x2 at HG2 l2 ⊢
  generalize Dig.digs (t % 60) 2 = x3 at HG3 l3 ⊢
  have a1 := Tx.addtwo x1 [58] (by simp only [List.length_cons, List.length_nil]; omega)
  have a2 := Tx.addtwo (x1 ++ [58]) x2 (by simp only [List.length_append, List.length_cons, List.length_nil]; omega)
  have a3 := Tx.addtwo (x1 ++ [58] ++ x2) [58] (by simp only [List.length_append, List.length_cons, List.length_nil]; omega)
  have a4 := Tx.addtwo (x1 ++ [58] ++ x2 ++ [58]) x3 (by simp only [List.length_append, List.length_cons, List.length_nil]; omega)
  generalize x1 ++ [58] = y1 at a1 a2 a3 a4 ⊢
  generalize y1 ++ x2 = y2 at a2 a3 a4 ⊢
  generalize y2 ++ [58] = y3 at a3 a4 ⊢
  generalize y3 ++ x3 = y4 at a4 ⊢
  clear l1 l2 l3 HCK HG
  generalize wkd (t / 86400) = k at HWC HWL ⊢
  go_enter Tryd.func33, Tryd.ntmps33
  go_wp2_with (fail)
  go_at_call 39
  refine (HCV.out _ (mds_below HM.out HZ.out)).mono ?_
  rintro e w1 ⟨y, m, d, hcv, rfl, hb1⟩
  have HB := Lib.hid hb1
  have HT1 := Lib.hid (Fmt.tens_below HT.out (HZ.out.trans (hb1.mono (by simp))))
  have HCVV := Lib.hid hcv
  clear hb1 hcv
  go_wp2_with (fail)
  go_at_call 34
  refine (HG1.out _ HT1.out).mono ?_
  rintro e w2 ⟨rfl, hb2⟩
  have HB := Lib.hid (HB.out.trans (hb2.mono HB.out.size))
  have HT2 := Lib.hid (Fmt.tens_below HT1.out hb2)
  clear hb2
  go_wp2_with (fail)
  go_at_call 34
  refine (HG2.out _ HT2.out).mono ?_
  rintro e w3 ⟨rfl, hb3⟩
  have HB := Lib.hid (HB.out.trans (hb3.mono HB.out.size))
  have HT3 := Lib.hid (Fmt.tens_below HT2.out hb3)
  clear hb3
  go_wp2_with (fail)
  go_at_call 34
  refine (HG3.out _ HT3.out).mono ?_
  rintro e w4 ⟨rfl, hb4⟩
  have HB := Lib.hid (HB.out.trans (hb4.mono HB.out.size))
  clear hb4
  have HBW := Lib.hid (HZ.out.trans (HB.out.mono (by simp)))
  have HNN := Lib.hid (names_below HN.out HBW.out)
  obtain ⟨⟨q0, q1, q2, q3, q4⟩, qf⟩ := kept5 HB.out
  have f0 := qf 0
  have f1 := qf 1
  have f2 := qf 2
  have f3 := qf 3
  have f4 := qf 4
  have hmm : 1 ≤ m ∧ m ≤ 12 := ⟨HCVV.out.2.2.1, HCVV.out.2.2.2.1⟩
  obtain ⟨hm1, hm2⟩ := hmm
  obtain ⟨j, rfl⟩ : ∃ j : Nat, m = (j : Int) + 1 := ⟨(m - 1).toNat, by omega⟩
  have hj : (j : Int) < 12 := by omega
  have hw1 : IntKind.i64.wrap (j : Int) = (j : Int) := IntWalk.i64_in _ (by omega)
  have n0 : w4.drew.cell? ⟨1, k, none⟩ = some (.string ⟨(dnm k).toArray⟩) := day_cell HNN.out HWL.out
  have n1 : w4.drew.cell? ⟨0, j, none⟩ = some (.string ⟨(mnm j).toArray⟩) := mon_cell HNN.out (by omega)
  have hk0 : (k : Int) < 7 := by have := HWL.out; omega
  have hkt : ((t / 86400) % 7 + 4) % 7 = (k : Int) := HWC.out.symm
  have HWK2 := Lib.hid HWK.out
  rw [hkt] at HWK2
  clear hkt qf
  generalize hdn : dnm k = dn at n0
  have HDN := Lib.hid hdn
  clear hdn
  generalize hmn : mnm j = mn at n1
  have HMN := Lib.hid hmn
  clear hmn
  go_wp2
  go_region_with (go_at_call 40; refine (HWK2.out _).mono ?_; rintro e w5 ⟨rfl, rfl⟩)
  all_goals go_wp2
  all_goals refine bodyPost_ret (v := .agg #[.string ⟨dn.toArray⟩, .int .i64 d, .string ⟨mn.toArray⟩, .int .i64 y, .string ⟨y4.toArray⟩]) (by simp [results, Tryd.results33, go_sem, q0, q1, q2, q3, q4]) rfl ?_
  all_goals refine ⟨y, (j : Int) + 1, d, HCVV.out, ?_, Rec.below_drew (((((HBW.out.setCell (Nat.le_refl _) _).setCell (Nat.le_refl _) _).setCell (Nat.le_refl _) _).setCell (Nat.le_refl _) _).setCell (Nat.le_refl _) _)⟩
  all_goals rw [HDN.out, show ((j : Int) + 1 - 1).toNat = j by omega, HMN.out]
end Go.Proofs.YtgclilgahalgaaaDoor.Dt
