/-
  CONTRACTS of the program's longDate and plainDate; nothing that was there before is changed.
-/
import Derived.Test.YtgclilgahalgaaaDoorPdB
namespace Go.Proofs.YtgclilgahalgaaaDoor.Dt
open Go Go.RowKit
set_option linter.unusedVariables false

def Dated2 (t : Int) (w : World) (e : Ending) (w' : World) : Prop := ∃ y m d : Int, CV (t / 86400) y m d ∧ e = .returned (.string ⟨(form2 t y m d).toArray⟩) ∧ Below w.heap.size w w'
def Dated3 (t : Int) (w : World) (e : Ending) (w' : World) : Prop := ∃ y m d : Int, CV (t / 86400) y m d ∧ e = .returned (.string ⟨(form3 t y m d).toArray⟩) ∧ Below w.heap.size w w'

set_option maxRecDepth 100000 in
set_option maxHeartbeats 4000000 in
theorem impl_long (t : Int) (w : World) (h0 : 0 ≤ t) (h1 : t ≤ 4102444799) (ht : Mds w) (hn : Names w) (hten : Fmt.Tens w) :
    Calls Tryd.prog 27 #[.int .i64 t] w (Dated2 t w) := by
  have HP := Lib.hid (impl_parts t w h0 h1 ht hn hten)
  have HT := Lib.hid hten
  have hwl := dnm_len (wkd_lt (t / 86400))
  have hcl := clk_len (s := t % 86400) (by omega) (by omega)
  have HF : Hid (∀ y m d, form2 t y m d = dnm (wkd (t / 86400)) ++ [44, 32] ++ Dig.digs d 2 ++ [45] ++ mnm (m - 1).toNat ++ [45] ++ Dig.digs (y % 100) 2 ++ [32] ++ clk (t % 86400) ++ [32, 71, 77, 84]) := Lib.hid (fun _ _ _ => rfl)
  unfold Parts pv at HP
  generalize dnm (wkd (t / 86400)) = dn at hwl HP HF
  generalize clk (t % 86400) = ck at hcl HP HF
  have HWL := Lib.hid hwl
  have HCL := Lib.hid hcl
  clear ht hn hten hwl hcl
  go_enter Tryd.func27, Tryd.ntmps27
  go_wp2_with (fail)
  go_at_call 33
  refine HP.out.mono ?_
  rintro e w1 ⟨y, m, d, hcv, rfl, hb1⟩
  have HB := Lib.hid hb1
  have HCV := Lib.hid hcv
  have hml := mnm_len (k := (m - 1).toNat) (by have := hcv.2.2.1; have := hcv.2.2.2.1; omega)
  have hyb : y ≤ 2099 := hcv.2.1
  have hyb0 : 1970 ≤ y := hcv.1
  have hdb : d ≤ 9223372036854775807 := by have := hcv.2.2.2.2.2.1; have := dim_bd y m hcv.2.2.1 hcv.2.2.2.1; omega
  have HFF := Lib.hid (HF.out y m d)
  generalize mnm (m - 1).toNat = mn at hml HFF
  have HSD := Lib.hid (dates_start (a := dn) (c := mn) (e := ck) (b := d) (d := y) hb1)
  have SK : Hid (∀ w0 w1' : World, DateS w w1 dn mn ck d y w0 → Below w0.heap.size w0 w1' → DateS w w1 dn mn ck d y w1') := Lib.hid (fun _ _ h hb => dates_call h hb)
  have HG2 : Hid (∀ u : RegS.In (DateS w w1 dn mn ck d y), Calls Tryd.prog 34 #[.int .i64 d, .int .i64 2] u.w fun e w' => e = .returned (.string ⟨(Dig.digs d 2).toArray⟩) ∧ Below u.w.heap.size u.w w') := Lib.hid (fun u => Dig.impl_digits d 2 u.w hdb (Fmt.tens_below HT.out u.h.2))
  have HG4 : Hid (∀ u : RegS.In (DateS w w1 dn mn ck d y), Calls Tryd.prog 34 #[.int .i64 (y % 100), .int .i64 2] u.w fun e w' => e = .returned (.string ⟨(Dig.digs (y % 100) 2).toArray⟩) ∧ Below u.w.heap.size u.w w') := Lib.hid (fun u => Dig.impl_digits (y % 100) 2 u.w (by omega) (Fmt.tens_below HT.out u.h.2))
  have HMD : Hid (∀ u : RegS.In (DateS w w1 dn mn ck d y), Calls Tryd.prog 35 #[.int .i64 y, .int .i64 100] u.w fun e w' => e = .returned (.int .i64 (y % 100)) ∧ u.w = w') := Lib.hid (fun u => by
    have hmd : NumDiv.md y 100 = y % 100 := by unfold NumDiv.md; rw [if_pos (by decide)]
    have := NumDiv.impl_mod y 100 u.w (Go.WalkArith.wf_i64 ⟨by omega, by omega⟩) (by decide)
    rw [hmd] at this; exact this)
  have l2 := dg2 (n := d) hdb 2
  have l4 := dg2 (n := y % 100) (by omega) 2
  generalize Dig.digs d 2 = g2 at HG2 l2 HFF
  generalize Dig.digs (y % 100) 2 = g4 at HG4 l4 HFF
  generalize y % 100 = ym at HMD HG4
  have lc := HCL.out
  have ln := HWL.out
  have a1 := Tx.addtwo dn [44, 32] (by simp only [List.length_cons, List.length_nil]; omega)
  have a2 := Tx.addtwo (dn ++ [44, 32]) g2 (by simp only [List.length_append, List.length_cons, List.length_nil]; omega)
  have a3 := Tx.addtwo (dn ++ [44, 32] ++ g2) [45] (by simp only [List.length_append, List.length_cons, List.length_nil]; omega)
  have a4 := Tx.addtwo (dn ++ [44, 32] ++ g2 ++ [45]) mn (by simp only [List.length_append, List.length_cons, List.length_nil]; omega)
  have a5 := Tx.addtwo (dn ++ [44, 32] ++ g2 ++ [45] ++ mn) [45] (by simp only [List.length_append, List.length_cons, List.length_nil]; omega)
  have a6 := Tx.addtwo (dn ++ [44, 32] ++ g2 ++ [45] ++ mn ++ [45]) g4 (by simp only [List.length_append, List.length_cons, List.length_nil]; omega)
  have a7 := Tx.addtwo (dn ++ [44, 32] ++ g2 ++ [45] ++ mn ++ [45] ++ g4) [32] (by simp only [List.length_append, List.length_cons, List.length_nil]; omega)
  have a8 := Tx.addtwo (dn ++ [44, 32] ++ g2 ++ [45] ++ mn ++ [45] ++ g4 ++ [32]) ck (by simp only [List.length_append, List.length_cons, List.length_nil]; omega)
  have a9 := Tx.addtwo (dn ++ [44, 32] ++ g2 ++ [45] ++ mn ++ [45] ++ g4 ++ [32] ++ ck) [32, 71, 77, 84] (by simp only [List.length_append, List.length_cons, List.length_nil]; omega)
  generalize dn ++ [44, 32] = y1 at a1 a2 a3 a4 a5 a6 a7 a8 a9 HFF
  generalize y1 ++ g2 = y2 at a2 a3 a4 a5 a6 a7 a8 a9 HFF
  generalize y2 ++ [45] = y3 at a3 a4 a5 a6 a7 a8 a9 HFF
  generalize y3 ++ mn = y4 at a4 a5 a6 a7 a8 a9 HFF
  generalize y4 ++ [45] = y5 at a5 a6 a7 a8 a9 HFF
  generalize y5 ++ g4 = y6 at a6 a7 a8 a9 HFF
  generalize y6 ++ [32] = y7 at a7 a8 a9 HFF
  generalize y7 ++ ck = y8 at a8 a9 HFF
  generalize y8 ++ [32, 71, 77, 84] = y9 at a9 HFF
  have f0 : ∀ u : RegS.In (DateS w w1 dn mn ck d y), u.w.cell? ⟨w1.heap.size, 0, none⟩ = some (.string ⟨dn.toArray⟩) := fun u => u.h.1.1
  have f1 : ∀ u : RegS.In (DateS w w1 dn mn ck d y), u.w.cell? ⟨w1.heap.size, 1, none⟩ = some (.int .i64 d) := fun u => u.h.1.2.1
  have f2 : ∀ u : RegS.In (DateS w w1 dn mn ck d y), u.w.cell? ⟨w1.heap.size, 2, none⟩ = some (.string ⟨mn.toArray⟩) := fun u => u.h.1.2.2.1
  have f3 : ∀ u : RegS.In (DateS w w1 dn mn ck d y), u.w.cell? ⟨w1.heap.size, 3, none⟩ = some (.int .i64 y) := fun u => u.h.1.2.2.2.1
  have f4 : ∀ u : RegS.In (DateS w w1 dn mn ck d y), u.w.cell? ⟨w1.heap.size, 4, none⟩ = some (.string ⟨ck.toArray⟩) := fun u => u.h.1.2.2.2.2
  clear hb1 hcv l2 l4 lc ln hml hyb hyb0 hdb
  go_wp2
  refine RegS.region (DateS w w1 dn mn ck d y) (by kernel_rfl) (by kernel_rfl) HSD.out ?_
  haveI : Nonempty (RegS.In (DateS w w1 dn mn ck d y)) := ⟨⟨_, HSD.out⟩⟩
  repeat (first | go_big_quiet_step ((first | (go_at_call 34; with_reducible exact RegS.call (HG2.out _) (fun e w' he => ⟨he.1, SK.out _ _ (RegS.In.h _) he.2⟩)) | (go_at_call 34; with_reducible exact RegS.call (HG4.out _) (fun e w' he => ⟨he.1, SK.out _ _ (RegS.In.h _) he.2⟩)) | (go_at_call 35; with_reducible exact RegS.call (HMD.out _) (fun e w' he => ⟨he.1, he.2 ▸ RegS.In.h _⟩)))) | quiet_step (fail))
  refine wpQuiet_nil ?_
  intro _ hw'
  obtain ⟨⟨wz, hS⟩, hw''⟩ := hw'
  subst hw''
  have HBB := Lib.hid hS.2
  clear hS
  go_wp2
  go_ret
  exact ⟨y, m, d, HCV.out, congrArg (fun z : List UInt8 => Ending.returned (.string ⟨z.toArray⟩)) HFF.out.symm, HBB.out⟩
end Go.Proofs.YtgclilgahalgaaaDoor.Dt
