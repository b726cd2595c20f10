/-
  CONTRACT of the program's plainDate; nothing that was there before is changed.
-/
import Derived.Test.YtgclilgahalgaaaDoorPdC
namespace Go.Proofs.YtgclilgahalgaaaDoor.Dt
open Go Go.RowKit
set_option linter.unusedVariables false

theorem dates_start0 {w wr : World} {a c e : List UInt8} {b d : Int} (hb : Below w.heap.size w wr) : DateS w wr a c e b d (wr.alloc (.cells #[.string ⟨a.toArray⟩, .int .i64 b, .string ⟨c.toArray⟩, .int .i64 d, .string ⟨e.toArray⟩] 43)) := by
  refine ⟨⟨?_, ?_, ?_, ?_, ?_⟩, hb.alloc hb.size _⟩
  all_goals (rw [World.cell?_alloc_new]; rfl)
theorem dates_drew {w wr w0 : World} {a c e : List UInt8} {b d : Int} (h : DateS w wr a c e b d w0) : DateS w wr a c e b d w0.drew := ⟨h.1, Rec.below_drew h.2⟩
theorem dtx_len {d : Int} (h0 : 1 ≤ d) (h1 : d ≤ 31) : (dtx d).length = 2 := by obtain ⟨a, b, e, _⟩ := dtx2 h0 h1; rw [e]; rfl
theorem digs_itoa {d : Int} (h0 : 10 ≤ d) (h1 : d ≤ 31) : Dig.digs d 2 = Lib.itoa d := by
  have : ∀ k : Fin 22, Dig.digs (10 + (k.1 : Int)) 2 = Lib.itoa (10 + (k.1 : Int)) := by decide +kernel
  have h := this ⟨(d - 10).toNat, by omega⟩
  rw [show 10 + (((d - 10).toNat : Nat) : Int) = d by omega] at h
  exact h

set_option maxRecDepth 100000 in
set_option maxHeartbeats 4000000 in
theorem impl_plain (t : Int) (w : World) (h0 : 0 ≤ t) (h1 : t ≤ 4102444799) (ht : Mds w) (hn : Names w) (hten : Fmt.Tens w) :
    Calls Tryd.prog 28 #[.int .i64 t] w (Dated3 t w) := by
  have HP := Lib.hid (impl_parts t w h0 h1 ht hn hten)
  have HT := Lib.hid hten
  have hwl := dnm_len (wkd_lt (t / 86400))
  have hcl := clk_len (s := t % 86400) (by omega) (by omega)
  have HF : Hid (∀ y m d, form3 t y m d = (dnm (wkd (t / 86400))).take 3 ++ [32] ++ mnm (m - 1).toNat ++ [32] ++ dtx d ++ [32] ++ clk (t % 86400) ++ [32] ++ Dig.digs y 4) := Lib.hid (fun _ _ _ => rfl)
  unfold Parts pv at HP
  generalize dnm (wkd (t / 86400)) = dn at hwl HP HF
  generalize clk (t % 86400) = ck at hcl HP HF
  have HWL := Lib.hid hwl
  have HCL := Lib.hid hcl
  clear ht hn hten hwl hcl
  go_enter Tryd.func28, Tryd.ntmps28
  go_wp2_with (fail)
  go_at_call 33
  refine HP.out.mono ?_
  rintro e w1 ⟨y, m, d, hcv, rfl, hb1⟩
  have HB := Lib.hid hb1
  have HCV := Lib.hid hcv
  have hml := mnm_len (k := (m - 1).toNat) (by have := hcv.2.2.1; have := hcv.2.2.2.1; omega)
  have hyb : y ≤ 2099 := hcv.2.1
  have hyb0 : 1970 ≤ y := hcv.1
  have hd1 : 1 ≤ d := hcv.2.2.2.2.1
  have hd31 : d ≤ 31 := by have := hcv.2.2.2.2.2.1; have := dim_bd y m hcv.2.2.1 hcv.2.2.2.1; omega
  have HFF := Lib.hid (HF.out y m d)
  generalize mnm (m - 1).toNat = mn at hml HFF
  have HS0 := Lib.hid (dates_start0 (a := dn) (c := mn) (e := ck) (b := d) (d := y) hb1)
  have HIT := Lib.hid (Fmt.impl_fmt d (by omega) (by omega) _ (Fmt.tens_below HT.out HS0.out.2))
  have SK : Hid (∀ w0 w1' : World, DateS w w1 dn mn ck d y w0 → Below w0.heap.size w0 w1' → DateS w w1 dn mn ck d y w1') := Lib.hid (fun _ _ h hb => dates_call h hb)
  have HG4 : Hid (∀ u : RegS.In (DateS w w1 dn mn ck d y), Calls Tryd.prog 34 #[.int .i64 y, .int .i64 4] u.w fun e w' => e = .returned (.string ⟨(Dig.digs y 4).toArray⟩) ∧ Below u.w.heap.size u.w w') := Lib.hid (fun u => Dig.impl_digits y 4 u.w (by omega) (Fmt.tens_below HT.out u.h.2))
  have l4 := dg2 (n := y) (by omega) 4
  have l3 : (dn.take 3).length ≤ 3 := List.length_take_le _ _
  have lx := dtx_len hd1 hd31
  have HDT : Hid (d < 10 → dtx d = [32] ++ Lib.itoa d) := Lib.hid (fun h => by unfold dtx; rw [if_pos h])
  have HDT2 : Hid (¬ d < 10 → dtx d = Lib.itoa d) := Lib.hid (fun h => by unfold dtx; rw [if_neg h]; exact digs_itoa (by omega) hd31)
  have li := (Fmt.itoa_len (n := d) (by omega) (by omega)).2
  generalize dtx d = dx at HDT HDT2 HFF lx
  generalize Lib.itoa d = it at HDT HDT2 HIT li
  generalize Dig.digs y 4 = g4 at HG4 l4 HFF
  have lc := HCL.out
  have hx3 := cut3 dn
  have hsz3 : (3 : Int) ≤ (dn.length : Int) := by have := HWL.out; omega
  generalize dn.take 3 = d3 at l3 HFF hx3
  have a0 := Tx.addtwo [32] it (by simp only [List.length_cons, List.length_nil]; omega)
  have a1 := Tx.addtwo d3 [32] (by simp only [List.length_cons, List.length_nil]; omega)
  have a2 := Tx.addtwo (d3 ++ [32]) mn (by simp only [List.length_append, List.length_cons, List.length_nil]; omega)
  have a3 := Tx.addtwo (d3 ++ [32] ++ mn) [32] (by simp only [List.length_append, List.length_cons, List.length_nil]; omega)
  have a4 := Tx.addtwo (d3 ++ [32] ++ mn ++ [32]) dx (by simp only [List.length_append, List.length_cons, List.length_nil]; omega)
  have a5 := Tx.addtwo (d3 ++ [32] ++ mn ++ [32] ++ dx) [32] (by simp only [List.length_append, List.length_cons, List.length_nil]; omega)
  have a6 := Tx.addtwo (d3 ++ [32] ++ mn ++ [32] ++ dx ++ [32]) ck (by simp only [List.length_append, List.length_cons, List.length_nil]; omega)
  have a7 := Tx.addtwo (d3 ++ [32] ++ mn ++ [32] ++ dx ++ [32] ++ ck) [32] (by simp only [List.length_append, List.length_cons, List.length_nil]; omega)
  have a8 := Tx.addtwo (d3 ++ [32] ++ mn ++ [32] ++ dx ++ [32] ++ ck ++ [32]) g4 (by simp only [List.length_append, List.length_cons, List.length_nil]; omega)
  generalize d3 ++ [32] = y1 at a1 a2 a3 a4 a5 a6 a7 a8 HFF
  generalize y1 ++ mn = y2 at a2 a3 a4 a5 a6 a7 a8 HFF
  generalize y2 ++ [32] = y3 at a3 a4 a5 a6 a7 a8 HFF
  generalize y3 ++ dx = y4 at a4 a5 a6 a7 a8 HFF
  generalize y4 ++ [32] = y5 at a5 a6 a7 a8 HFF
  generalize y5 ++ ck = y6 at a6 a7 a8 HFF
  generalize y6 ++ [32] = y7 at a7 a8 HFF
  generalize y7 ++ g4 = y8 at a8 HFF
  have HDX : Hid (d < 10 → [32] ++ it = dx) := Lib.hid (fun h => (HDT.out h).symm)
  generalize [32] ++ it = sit at a0 HDX
  clear hb1 hcv l4 lc hml hyb hyb0 hd1 hd31 li lx l3 HDT
  go_wp2_with (fail)
  go_at_call 36
  refine HIT.out.mono ?_
  rintro e w2 ⟨rfl, hb2⟩
  have HS2 := Lib.hid (SK.out _ _ HS0.out hb2)
  have HSD := Lib.hid (dates_drew HS2.out)
  obtain ⟨⟨k0, k1, k2, k3, k4⟩, _⟩ := HS2.out
  clear hb2
  have f0 : ∀ u : RegS.In (DateS w w1 dn mn ck d y), u.w.cell? ⟨w1.heap.size, 0, none⟩ = some (.string ⟨dn.toArray⟩) := fun u => u.h.1.1
  have f1 : ∀ u : RegS.In (DateS w w1 dn mn ck d y), u.w.cell? ⟨w1.heap.size, 1, none⟩ = some (.int .i64 d) := fun u => u.h.1.2.1
  have f2 : ∀ u : RegS.In (DateS w w1 dn mn ck d y), u.w.cell? ⟨w1.heap.size, 2, none⟩ = some (.string ⟨mn.toArray⟩) := fun u => u.h.1.2.2.1
  have f3 : ∀ u : RegS.In (DateS w w1 dn mn ck d y), u.w.cell? ⟨w1.heap.size, 3, none⟩ = some (.int .i64 y) := fun u => u.h.1.2.2.2.1
  have f4 : ∀ u : RegS.In (DateS w w1 dn mn ck d y), u.w.cell? ⟨w1.heap.size, 4, none⟩ = some (.string ⟨ck.toArray⟩) := fun u => u.h.1.2.2.2.2
  by_cases h10 : d < 10
  · obtain rfl := HDX.out (by omega)
    go_wp2
    refine RegS.region (DateS w w1 dn mn ck d y) (by kernel_rfl) (by kernel_rfl) HSD.out ?_
    haveI : Nonempty (RegS.In (DateS w w1 dn mn ck d y)) := ⟨⟨_, HSD.out⟩⟩
    repeat (first | go_big_quiet_step ((go_at_call 34; with_reducible exact RegS.call (HG4.out _) (fun e w' he => ⟨he.1, SK.out _ _ (RegS.In.h _) he.2⟩))) | quiet_step (fail))
    refine wpQuiet_nil ?_
    intro _ hw'
    obtain ⟨⟨wz, hS⟩, hw''⟩ := hw'
    subst hw''
    have HBB := Lib.hid hS.2
    clear hS
    go_wp2
    go_ret
    exact ⟨y, m, d, HCV.out, congrArg (fun z : List UInt8 => Ending.returned (.string ⟨z.toArray⟩)) HFF.out.symm, HBB.out⟩
  · obtain rfl := HDT2.out (by omega)
    go_wp2
    refine RegS.region (DateS w w1 dn mn ck d y) (by kernel_rfl) (by kernel_rfl) HSD.out ?_
    haveI : Nonempty (RegS.In (DateS w w1 dn mn ck d y)) := ⟨⟨_, HSD.out⟩⟩
    repeat (first | go_big_quiet_step ((go_at_call 34; with_reducible exact RegS.call (HG4.out _) (fun e w' he => ⟨he.1, SK.out _ _ (RegS.In.h _) he.2⟩))) | quiet_step (fail))
    refine wpQuiet_nil ?_
    intro _ hw'
    obtain ⟨⟨wz, hS⟩, hw''⟩ := hw'
    subst hw''
    have HBB := Lib.hid hS.2
    clear hS
    go_wp2
    go_ret
    exact ⟨y, m, d, HCV.out, congrArg (fun z : List UInt8 => Ending.returned (.string ⟨z.toArray⟩)) HFF.out.symm, HBB.out⟩
end Go.Proofs.YtgclilgahalgaaaDoor.Dt
