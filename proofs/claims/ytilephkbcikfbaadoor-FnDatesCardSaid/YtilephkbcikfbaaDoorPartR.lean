/-
  CONTRACTS AND PLAIN FACTS, several texts in one; each says in its own words what it proves.
-/
import Derived.Test.YtilephkbcikfbaaDoorPartL
import Derived.Test.YtilephkbcikfbaaDoorPartG
import Derived.Test.YtilephkbcikfbaaDoorPartB
import Derived.Test.YtilephkbcikfbaaDoorPartQ
set_option linter.unusedSimpArgs false
set_option linter.unusedVariables false

/-
  CONTRACT of the model's l3Forms and FormatDate: the three forms of a time; nothing that was there before is changed.
-/
namespace Go.Proofs.YtilephkbcikfbaaDoor.Dt
open Go Go.RowKit
set_option linter.unusedVariables false
set_option maxRecDepth 1000000

def Forms (t : Int) (w : World) (e : Ending) (w' : World) : Prop := ∃ (y m d : Int) (g : Nat), CV (t / 86400) y m d ∧ e = .returned (.slice (some ⟨g, 0, none⟩) 3 3) ∧ (w'.cell? ⟨g, 0, none⟩ = some (.string ⟨(form1 t y m d).toArray⟩) ∧ w'.cell? ⟨g, 1, none⟩ = some (.string ⟨(form2 t y m d).toArray⟩) ∧ w'.cell? ⟨g, 2, none⟩ = some (.string ⟨(form3 t y m d).toArray⟩)) ∧ Below w.heap.size w w'
def BelowS (w w' : World) : Prop := Below w.heap.size w w'
theorem belows_call {w w0 w1 : World} (h : BelowS w w0) (hb : Below w0.heap.size w0 w1) : BelowS w w1 := Base.then_below h hb
theorem itoa_len2 {d : Int} (h0 : 0 ≤ d) (h1 : d ≤ 31) : (Lib.itoa d).length ≤ 20 := by
  have h := dg2 (n := d) (by omega) 0
  have e : Dig.digs d 0 = Lib.itoa d := by unfold Dig.digs Dig.mx Dig.mn; rw [if_neg (by omega)]; exact Dig.zpad_done (by simp)
  rw [e] at h; exact h

set_option maxRecDepth 1000000 in
set_option maxHeartbeats 8000000 in
theorem spec_forms (t : Int) (w : World) (h0 : 0 ≤ t) (h1 : t ≤ 4102444799) : Calls Tryd.prog 29 #[.int .i64 t] w (Forms t w) := by
  have hd0 : 0 ≤ t / 86400 := by omega
  have hd1 : t / 86400 ≤ 47481 := by omega
  have HCV := Lib.hid (spec_civ (t / 86400) w hd0 hd1)
  have HWK := Lib.hid (fun W => spec_week (t / 86400) W (Go.WalkArith.wf_i64 ⟨by omega, by omega⟩))
  have hkt := (wkd_cast (t / 86400)).symm
  rw [hkt] at HWK
  have HWL := Lib.hid (wkd_lt (t / 86400))
  have HCK := Lib.hid (fun W => spec_clock t W h0 h1)
  have hcl := clk_len (s := t % 86400) (by omega) (by omega)
  have HDL := Lib.hid (dnm_len (wkd_lt (t / 86400)))
  unfold Forms form1 form2 form3
  clear hkt
  generalize clk (t % 86400) = ck at hcl HCK ⊢
  generalize wkd (t / 86400) = k at HWK HWL HDL ⊢
  have HCL := Lib.hid hcl
  clear hcl
  go_enter Tryd.func29, Tryd.ntmps29
  go_wp2_with (fail)
  go_at_call 41
  refine HCV.out.mono ?_
  rintro e w1 ⟨y, m, d, hcv, rfl, hb1⟩
  have HB := Lib.hid hb1
  have HCVV := Lib.hid hcv
  have hm1 := hcv.2.2.1
  have hm2 := hcv.2.2.2.1
  have hy1 := hcv.1
  have hy2 := hcv.2.1
  have hdd1 := hcv.2.2.2.2.1
  have hdd2 : d ≤ 31 := by have := hcv.2.2.2.2.2.1; have := dim_bd y m hm1 hm2; omega
  obtain ⟨j, rfl⟩ : ∃ j : Nat, m = (j : Int) + 1 := ⟨(m - 1).toNat, by omega⟩
  have hj : (j : Int) < 12 := by omega
  have hjn : j < 12 := by omega
  have hkn : (k : Int) < 7 := by have := HWL.out; omega
  clear hb1 hcv hm1 hm2
  go_wp2_with (fail)
  go_at_call 42
  refine (days_tab _).mono ?_
  rintro e w2 ⟨gd, rfl, hcd, hb2⟩
  have c0 := hcd k HWL.out
  have HB := Lib.hid (Base.then_below HB.out hb2)
  clear hb2 hcd
  go_wp2_with (fail)
  go_at_call 43
  with_reducible refine (HWK.out _).mono ?_
  rintro e w3 ⟨rfl, rfl⟩
  go_wp2_with (fail)
  go_at_call 44
  refine (mons_tab _).mono ?_
  rintro e w4 ⟨gm, rfl, hcm, hb4⟩
  have c1 := hcm j hjn
  have HB := Lib.hid (Base.then_below HB.out hb4)
  clear hb4 hcm
  have hml := mnm_len hjn
  have ldn := HDL.out
  have HMJ : Hid (mnm ((j : Int) + 1 - 1).toNat = mnm j) := Lib.hid (by rw [show ((j : Int) + 1 - 1).toNat = j by omega])
  have HG2 := Lib.hid (fun W => Dig.spec_digits d 2 W (by omega))
  have HG4 := Lib.hid (fun W => Dig.spec_digits y 4 W (by omega))
  have HGY := Lib.hid (fun W => Dig.spec_digits (y % 100) 2 W (by omega))
  have HIT := Lib.hid (fun W => Fmt.spec_fmt d (by omega) (by omega) W)
  have l2 := dg2 (n := d) (by omega) 2
  have l4 := dg2 (n := y) (by omega) 4
  have ly := dg2 (n := y % 100) (by omega) 2
  have li := itoa_len2 (d := d) (by omega) hdd2
  have hx3 := cut3s (dnm k)
  have l3 : ((dnm k).take 3).length ≤ 3 := List.length_take_le _ _
  have lc := HCL.out
  have hsz3 : (3 : Int) ≤ ((dnm k).length : Int) := by omega
  obtain ⟨f1, hf1⟩ : ∃ z, z = (dnm k).take 3 ++ [44, 32] ++ Dig.digs d 2 ++ [32] ++ mnm j ++ [32] ++ Dig.digs y 4 ++ [32] ++ ck ++ [32, 71, 77, 84] := ⟨_, rfl⟩
  obtain ⟨f2, hf2⟩ : ∃ z, z = dnm k ++ [44, 32] ++ Dig.digs d 2 ++ [45] ++ mnm j ++ [45] ++ Dig.digs (y % 100) 2 ++ [32] ++ ck ++ [32, 71, 77, 84] := ⟨_, rfl⟩
  obtain ⟨dx, hdx⟩ : ∃ z, z = dtx d := ⟨_, rfl⟩
  obtain ⟨f3, hf3⟩ : ∃ z, z = (dnm k).take 3 ++ [32] ++ mnm j ++ [32] ++ dx ++ [32] ++ ck ++ [32] ++ Dig.digs y 4 := ⟨_, rfl⟩
  have ldx : dx.length ≤ 21 := by rw [hdx]; unfold dtx; split <;> (try simp only [List.length_append, List.length_cons, List.length_nil]) <;> omega
  have HF1 : Hid (f1 = (dnm k).take 3 ++ [44, 32] ++ Dig.digs d 2 ++ [32] ++ mnm ((j : Int) + 1 - 1).toNat ++ [32] ++ Dig.digs y 4 ++ [32] ++ ck ++ [32, 71, 77, 84]) := Lib.hid (by rw [HMJ.out]; exact hf1)
  have HF2 : Hid (f2 = dnm k ++ [44, 32] ++ Dig.digs d 2 ++ [45] ++ mnm ((j : Int) + 1 - 1).toNat ++ [45] ++ Dig.digs (y % 100) 2 ++ [32] ++ ck ++ [32, 71, 77, 84]) := Lib.hid (by rw [HMJ.out]; exact hf2)
  have HF3 : Hid (f3 = (dnm k).take 3 ++ [32] ++ mnm ((j : Int) + 1 - 1).toNat ++ [32] ++ dtx d ++ [32] ++ ck ++ [32] ++ Dig.digs y 4) := Lib.hid (by rw [HMJ.out, ← hdx]; exact hf3)
  have HDX := Lib.hid hdx
  clear hdx
  generalize hg2 : Dig.digs d 2 = g2 at HG2 l2 hf1 hf2
  generalize Dig.digs y 4 = g4 at HG4 l4 hf1 hf3
  generalize Dig.digs (y % 100) 2 = gy at HGY ly hf2
  generalize hit : Lib.itoa d = it at HIT li
  generalize (dnm k).take 3 = d3 at hx3 l3 hf1 hf3
  generalize dnm k = dn at c0 hx3 hf2 ldn hsz3
  have HDT : Hid (d < 10 → dx = [32] ++ it) := Lib.hid (fun h => by rw [HDX.out]; unfold dtx; rw [if_pos h, hit])
  have HDT2 : Hid (¬ d < 10 → dx = g2) := Lib.hid (fun h => by rw [HDX.out]; unfold dtx; rw [if_neg h, hg2])
  clear hit hg2
  generalize mnm j = mn at c1 hml hf1 hf2 hf3
  have p1 := Tx.addtwo (d3) [44, 32] (by simp only [List.length_append, List.length_cons, List.length_nil]; omega)
  have p2 := Tx.addtwo (d3 ++ [44, 32]) g2 (by simp only [List.length_append, List.length_cons, List.length_nil]; omega)
  have p3 := Tx.addtwo (d3 ++ [44, 32] ++ g2) [32] (by simp only [List.length_append, List.length_cons, List.length_nil]; omega)
  have p4 := Tx.addtwo (d3 ++ [44, 32] ++ g2 ++ [32]) mn (by simp only [List.length_append, List.length_cons, List.length_nil]; omega)
  have p5 := Tx.addtwo (d3 ++ [44, 32] ++ g2 ++ [32] ++ mn) [32] (by simp only [List.length_append, List.length_cons, List.length_nil]; omega)
  have p6 := Tx.addtwo (d3 ++ [44, 32] ++ g2 ++ [32] ++ mn ++ [32]) g4 (by simp only [List.length_append, List.length_cons, List.length_nil]; omega)
  have p7 := Tx.addtwo (d3 ++ [44, 32] ++ g2 ++ [32] ++ mn ++ [32] ++ g4) [32] (by simp only [List.length_append, List.length_cons, List.length_nil]; omega)
  have p8 := Tx.addtwo (d3 ++ [44, 32] ++ g2 ++ [32] ++ mn ++ [32] ++ g4 ++ [32]) ck (by simp only [List.length_append, List.length_cons, List.length_nil]; omega)
  have p9 := Tx.addtwo (d3 ++ [44, 32] ++ g2 ++ [32] ++ mn ++ [32] ++ g4 ++ [32] ++ ck) [32, 71, 77, 84] (by simp only [List.length_append, List.length_cons, List.length_nil]; omega)
  generalize d3 ++ [44, 32] = pv1 at p1 p2 p3 p4 p5 p6 p7 p8 p9 hf1
  generalize pv1 ++ g2 = pv2 at p2 p3 p4 p5 p6 p7 p8 p9 hf1
  generalize pv2 ++ [32] = pv3 at p3 p4 p5 p6 p7 p8 p9 hf1
  generalize pv3 ++ mn = pv4 at p4 p5 p6 p7 p8 p9 hf1
  generalize pv4 ++ [32] = pv5 at p5 p6 p7 p8 p9 hf1
  generalize pv5 ++ g4 = pv6 at p6 p7 p8 p9 hf1
  generalize pv6 ++ [32] = pv7 at p7 p8 p9 hf1
  generalize pv7 ++ ck = pv8 at p8 p9 hf1
  generalize pv8 ++ [32, 71, 77, 84] = pv9 at p9 hf1
  obtain rfl : f1 = pv9 := hf1
  have r1 := Tx.addtwo (dn) [44, 32] (by simp only [List.length_append, List.length_cons, List.length_nil]; omega)
  have r2 := Tx.addtwo (dn ++ [44, 32]) g2 (by simp only [List.length_append, List.length_cons, List.length_nil]; omega)
  have r3 := Tx.addtwo (dn ++ [44, 32] ++ g2) [45] (by simp only [List.length_append, List.length_cons, List.length_nil]; omega)
  have r4 := Tx.addtwo (dn ++ [44, 32] ++ g2 ++ [45]) mn (by simp only [List.length_append, List.length_cons, List.length_nil]; omega)
  have r5 := Tx.addtwo (dn ++ [44, 32] ++ g2 ++ [45] ++ mn) [45] (by simp only [List.length_append, List.length_cons, List.length_nil]; omega)
  have r6 := Tx.addtwo (dn ++ [44, 32] ++ g2 ++ [45] ++ mn ++ [45]) gy (by simp only [List.length_append, List.length_cons, List.length_nil]; omega)
  have r7 := Tx.addtwo (dn ++ [44, 32] ++ g2 ++ [45] ++ mn ++ [45] ++ gy) [32] (by simp only [List.length_append, List.length_cons, List.length_nil]; omega)
  have r8 := Tx.addtwo (dn ++ [44, 32] ++ g2 ++ [45] ++ mn ++ [45] ++ gy ++ [32]) ck (by simp only [List.length_append, List.length_cons, List.length_nil]; omega)
  have r9 := Tx.addtwo (dn ++ [44, 32] ++ g2 ++ [45] ++ mn ++ [45] ++ gy ++ [32] ++ ck) [32, 71, 77, 84] (by simp only [List.length_append, List.length_cons, List.length_nil]; omega)
  generalize dn ++ [44, 32] = rv1 at r1 r2 r3 r4 r5 r6 r7 r8 r9 hf2
  generalize rv1 ++ g2 = rv2 at r2 r3 r4 r5 r6 r7 r8 r9 hf2
  generalize rv2 ++ [45] = rv3 at r3 r4 r5 r6 r7 r8 r9 hf2
  generalize rv3 ++ mn = rv4 at r4 r5 r6 r7 r8 r9 hf2
  generalize rv4 ++ [45] = rv5 at r5 r6 r7 r8 r9 hf2
  generalize rv5 ++ gy = rv6 at r6 r7 r8 r9 hf2
  generalize rv6 ++ [32] = rv7 at r7 r8 r9 hf2
  generalize rv7 ++ ck = rv8 at r8 r9 hf2
  generalize rv8 ++ [32, 71, 77, 84] = rv9 at r9 hf2
  obtain rfl : f2 = rv9 := hf2
  have s1 := Tx.addtwo (d3) [32] (by simp only [List.length_append, List.length_cons, List.length_nil]; omega)
  have s2 := Tx.addtwo (d3 ++ [32]) mn (by simp only [List.length_append, List.length_cons, List.length_nil]; omega)
  have s3 := Tx.addtwo (d3 ++ [32] ++ mn) [32] (by simp only [List.length_append, List.length_cons, List.length_nil]; omega)
  have s4 := Tx.addtwo (d3 ++ [32] ++ mn ++ [32]) dx (by simp only [List.length_append, List.length_cons, List.length_nil]; omega)
  have s5 := Tx.addtwo (d3 ++ [32] ++ mn ++ [32] ++ dx) [32] (by simp only [List.length_append, List.length_cons, List.length_nil]; omega)
  have s6 := Tx.addtwo (d3 ++ [32] ++ mn ++ [32] ++ dx ++ [32]) ck (by simp only [List.length_append, List.length_cons, List.length_nil]; omega)
  have s7 := Tx.addtwo (d3 ++ [32] ++ mn ++ [32] ++ dx ++ [32] ++ ck) [32] (by simp only [List.length_append, List.length_cons, List.length_nil]; omega)
  have s8 := Tx.addtwo (d3 ++ [32] ++ mn ++ [32] ++ dx ++ [32] ++ ck ++ [32]) g4 (by simp only [List.length_append, List.length_cons, List.length_nil]; omega)
  generalize d3 ++ [32] = sv1 at s1 s2 s3 s4 s5 s6 s7 s8 hf3
  generalize sv1 ++ mn = sv2 at s2 s3 s4 s5 s6 s7 s8 hf3
  generalize sv2 ++ [32] = sv3 at s3 s4 s5 s6 s7 s8 hf3
  generalize sv3 ++ dx = sv4 at s4 s5 s6 s7 s8 hf3
  generalize sv4 ++ [32] = sv5 at s5 s6 s7 s8 hf3
  generalize sv5 ++ ck = sv6 at s6 s7 s8 hf3
  generalize sv6 ++ [32] = sv7 at s7 s8 hf3
  generalize sv7 ++ g4 = sv8 at s8 hf3
  obtain rfl : f3 = sv8 := hf3
  have ad := Tx.addtwo [32] it (by simp only [List.length_cons, List.length_nil]; omega)
  clear l2 l4 ly li l3 lc hml ldn ldx
  by_cases hlt : d < 10
  · have hdx : dx = [32] ++ it := HDT.out hlt
    rw [← hdx] at ad
    clear hdx
    go_wp2
    refine RegS.region (BelowS w) (by kernel_rfl) (by kernel_rfl) (Rec.below_drew HB.out) ?_
    haveI : Nonempty (RegS.In (BelowS w)) := ⟨⟨_, HB.out⟩⟩
    repeat (first | go_big_quiet_step ((first | (go_at_call 45; with_reducible exact RegS.call (HG2.out _) (fun e w' he => ⟨he.1, belows_call (RegS.In.h _) he.2⟩)) | (go_at_call 45; with_reducible exact RegS.call (HG4.out _) (fun e w' he => ⟨he.1, belows_call (RegS.In.h _) he.2⟩)) | (go_at_call 46; with_reducible exact RegS.call (HCK.out _) (fun e w' he => ⟨he.1, belows_call (RegS.In.h _) he.2⟩)))) | quiet_step (fail))
    refine wpQuiet_nil ?_
    intro _ hw'
    obtain ⟨⟨wz, hS⟩, hw''⟩ := hw'
    subst hw''
    have HB : Hid (Below w.heap.size w _) := Lib.hid hS
    clear hS this
    go_wp2_with (fail)
    go_at_call 45
    with_reducible refine (HG2.out _).mono ?_
    rintro e z1 ⟨rfl, hb1⟩
    have HB := Lib.hid (Base.then_below HB.out hb1)
    clear hb1
    go_wp2_with (fail)
    go_at_call 45
    with_reducible refine (HGY.out _).mono ?_
    rintro e z2 ⟨rfl, hb2⟩
    have HB := Lib.hid (Base.then_below HB.out hb2)
    clear hb2
    go_wp2_with (fail)
    go_at_call 46
    with_reducible refine (HCK.out _).mono ?_
    rintro e z3 ⟨rfl, hb3⟩
    have HB := Lib.hid (Base.then_below HB.out hb3)
    clear hb3
    go_wp2_with (fail)
    go_at_call 45
    with_reducible refine (HG2.out _).mono ?_
    rintro e z4 ⟨rfl, hb4⟩
    have HB := Lib.hid (Base.then_below HB.out hb4)
    clear hb4
    go_wp2_with (fail)
    go_at_call 47
    with_reducible refine (HIT.out _).mono ?_
    rintro e z5 ⟨rfl, hb5⟩
    have HB := Lib.hid (Base.then_below HB.out hb5)
    clear hb5
    go_wp2
    refine RegS.region (BelowS w) (by kernel_rfl) (by kernel_rfl) (Rec.below_drew HB.out) ?_
    haveI : Nonempty (RegS.In (BelowS w)) := ⟨⟨_, HB.out⟩⟩
    repeat (first | go_big_quiet_step ((first | (go_at_call 46; with_reducible exact RegS.call (HCK.out _) (fun e w' he => ⟨he.1, belows_call (RegS.In.h _) he.2⟩)) | (go_at_call 45; with_reducible exact RegS.call (HG4.out _) (fun e w' he => ⟨he.1, belows_call (RegS.In.h _) he.2⟩)))) | quiet_step (fail))
    refine wpQuiet_nil ?_
    intro _ hw'
    obtain ⟨⟨wz, hS⟩, hw''⟩ := hw'
    subst hw''
    have HB : Hid (Below w.heap.size w _) := Lib.hid hS
    clear hS this
    go_wp2
    go_ret
    refine ⟨y, (j : Int) + 1, d, _, HCVV.out, rfl, ⟨?_, ?_, ?_⟩, HB.out.alloc HB.out.size _⟩
    · rw [World.cell?_alloc_new]; exact congrArg (fun z : List UInt8 => some (Value.string ⟨z.toArray⟩)) HF1.out
    · rw [World.cell?_alloc_new]; exact congrArg (fun z : List UInt8 => some (Value.string ⟨z.toArray⟩)) HF2.out
    · rw [World.cell?_alloc_new]; exact congrArg (fun z : List UInt8 => some (Value.string ⟨z.toArray⟩)) HF3.out
  · have hdx : dx = g2 := HDT2.out hlt
    rw [hdx] at s4
    clear hdx
    go_wp2
    refine RegS.region (BelowS w) (by kernel_rfl) (by kernel_rfl) (Rec.below_drew HB.out) ?_
    haveI : Nonempty (RegS.In (BelowS w)) := ⟨⟨_, HB.out⟩⟩
    repeat (first | go_big_quiet_step ((first | (go_at_call 45; with_reducible exact RegS.call (HG2.out _) (fun e w' he => ⟨he.1, belows_call (RegS.In.h _) he.2⟩)) | (go_at_call 45; with_reducible exact RegS.call (HG4.out _) (fun e w' he => ⟨he.1, belows_call (RegS.In.h _) he.2⟩)) | (go_at_call 46; with_reducible exact RegS.call (HCK.out _) (fun e w' he => ⟨he.1, belows_call (RegS.In.h _) he.2⟩)))) | quiet_step (fail))
    refine wpQuiet_nil ?_
    intro _ hw'
    obtain ⟨⟨wz, hS⟩, hw''⟩ := hw'
    subst hw''
    have HB : Hid (Below w.heap.size w _) := Lib.hid hS
    clear hS this
    go_wp2_with (fail)
    go_at_call 45
    with_reducible refine (HG2.out _).mono ?_
    rintro e z1 ⟨rfl, hb1⟩
    have HB := Lib.hid (Base.then_below HB.out hb1)
    clear hb1
    go_wp2_with (fail)
    go_at_call 45
    with_reducible refine (HGY.out _).mono ?_
    rintro e z2 ⟨rfl, hb2⟩
    have HB := Lib.hid (Base.then_below HB.out hb2)
    clear hb2
    go_wp2_with (fail)
    go_at_call 46
    with_reducible refine (HCK.out _).mono ?_
    rintro e z3 ⟨rfl, hb3⟩
    have HB := Lib.hid (Base.then_below HB.out hb3)
    clear hb3
    go_wp2_with (fail)
    go_at_call 45
    with_reducible refine (HG2.out _).mono ?_
    rintro e z4 ⟨rfl, hb4⟩
    have HB := Lib.hid (Base.then_below HB.out hb4)
    clear hb4
    go_wp2
    refine RegS.region (BelowS w) (by kernel_rfl) (by kernel_rfl) (Rec.below_drew HB.out) ?_
    haveI : Nonempty (RegS.In (BelowS w)) := ⟨⟨_, HB.out⟩⟩
    repeat (first | go_big_quiet_step ((first | (go_at_call 46; with_reducible exact RegS.call (HCK.out _) (fun e w' he => ⟨he.1, belows_call (RegS.In.h _) he.2⟩)) | (go_at_call 45; with_reducible exact RegS.call (HG4.out _) (fun e w' he => ⟨he.1, belows_call (RegS.In.h _) he.2⟩)))) | quiet_step (fail))
    refine wpQuiet_nil ?_
    intro _ hw'
    obtain ⟨⟨wz, hS⟩, hw''⟩ := hw'
    subst hw''
    have HB : Hid (Below w.heap.size w _) := Lib.hid hS
    clear hS this
    go_wp2
    go_ret
    refine ⟨y, (j : Int) + 1, d, _, HCVV.out, rfl, ⟨?_, ?_, ?_⟩, HB.out.alloc HB.out.size _⟩
    · rw [World.cell?_alloc_new]; exact congrArg (fun z : List UInt8 => some (Value.string ⟨z.toArray⟩)) HF1.out
    · rw [World.cell?_alloc_new]; exact congrArg (fun z : List UInt8 => some (Value.string ⟨z.toArray⟩)) HF2.out
    · rw [World.cell?_alloc_new]; exact congrArg (fun z : List UInt8 => some (Value.string ⟨z.toArray⟩)) HF3.out

def DatedS (t : Int) (w : World) (e : Ending) (w' : World) : Prop := ∃ y m d : Int, CV (t / 86400) y m d ∧ e = .returned (.string ⟨(form1 t y m d).toArray⟩) ∧ Below w.heap.size w w'
end Go.Proofs.YtilephkbcikfbaaDoor.Dt

/-
  CONTRACT of the model's ParseDate; nothing that was there before is changed.
-/
namespace Go.Proofs.YtilephkbcikfbaaDoor.Dt
open Go Go.RowKit
set_option linter.unusedVariables false
set_option maxRecDepth 1000000

theorem fa1 {l : List UInt8} {t : Int} (hl : l.length = 29) (h : FA l t) : ¬ dof (100 * tw l 12 + tw l 14) (monOf ((l.drop 8).take 3)) (tw l 5) < 0 ∧ t = 86400 * dof (100 * tw l 12 + tw l 14) (monOf ((l.drop 8).take 3)) (tw l 5) + 3600 * tw l 17 + 60 * tw l 20 + tw l 23 := by
  rcases h with h | h | h
  · obtain ⟨ht, y, m, d, hcv, e⟩ := h
    obtain ⟨a, b, c, f, g, i⟩ := cv_bd hcv
    obtain ⟨_, ⟨_, q2, _, _⟩, r1, r3, r4⟩ := read1 ht a b c f g i e
    rw [r1, q2, r3, dof_cv hcv]
    unfold clt at r4
    have h0 := ht.1
    exact ⟨by omega, by have r4' : 3600 * tw l 17 + 60 * tw l 20 + tw l 23 = t % 86400 := r4; omega⟩
  · have := (f2_read h).1.1; omega
  · have := (f3_read h).1; omega
theorem fa3 {l : List UInt8} {t : Int} (hl : l.length = 24) (h : FA l t) : ¬ dof (100 * tw l 20 + tw l 22) (monOf ((l.drop 4).take 3)) (dtw l) < 0 ∧ t = 86400 * dof (100 * tw l 20 + tw l 22) (monOf ((l.drop 4).take 3)) (dtw l) + 3600 * tw l 11 + 60 * tw l 14 + tw l 17 := by
  rcases h with h | h | h
  · have := (f1_read h).1; omega
  · have := (f2_read h).1.1; omega
  · obtain ⟨ht, y, m, d, hcv, e⟩ := h
    obtain ⟨a, b, c, f, g, i⟩ := cv_bd hcv
    obtain ⟨_, ⟨_, q2, _, _⟩, r1, r3, r4⟩ := read3 ht a b c f g i e
    rw [r1, q2, r3, dof_cv hcv]
    unfold clt at r4
    have h0 := ht.1
    exact ⟨by omega, by have r4' : 3600 * tw l 11 + 60 * tw l 14 + tw l 17 = t % 86400 := r4; omega⟩
def yr2 (q : Int) : Int := if 1900 + q < 1970 then 1900 + q + 100 else 1900 + q
theorem yr2_full (q : Int) : yr2 q = full q := by unfold yr2 full; split <;> split <;> omega
theorem yr2_bd {q : Int} (h0 : -1 ≤ q) (h1 : q ≤ 99) : 1970 ≤ yr2 q ∧ yr2 q ≤ 2069 := by unfold yr2; split <;> omega
theorem fa2 {l : List UInt8} {t : Int} {k : Nat} (hl : l.length = k + 24) (hl2 : 30 ≤ l.length ∧ l.length ≤ 33) (h : FA l t) : ¬ dof (yr2 (tw l (k + 9))) (monOf ((l.drop (k + 5)).take 3)) (tw l (k + 2)) < 0 ∧ t = 86400 * dof (yr2 (tw l (k + 9))) (monOf ((l.drop (k + 5)).take 3)) (tw l (k + 2)) + 3600 * tw l (k + 12) + 60 * tw l (k + 15) + tw l (k + 18) := by
  rcases h with h | h | h
  · have := (f1_read h).1; omega
  · obtain ⟨ht, y, m, d, hcv, hy, e⟩ := h
    obtain ⟨a, b, c, f, g, i⟩ := cv_bd hcv
    obtain ⟨_, ⟨_, q2, _, _⟩, r1, r3, r4⟩ := read2 ht a b c f g i e
    rw [show l.length - 24 = k by omega, List.drop_drop] at q2
    rw [show l.length - 15 = k + 9 by omega] at r1
    rw [show l.length - 22 = k + 2 by omega] at r3
    rw [show l.length - 12 = k + 12 by omega] at r4
    rw [r1, q2, r3, yr2_full, full_mod a hy, dof_cv hcv]
    unfold clt at r4
    have h0 := ht.1
    exact ⟨by omega, by have r4' : 3600 * tw l (k + 12) + 60 * tw l (k + 15) + tw l (k + 18) = t % 86400 := r4; omega⟩
  · have := (f3_read h).1; omega
theorem hit1 {l : List UInt8} {t y m d : Int} (hl : l.length = 29) (ht : InT t) (hcv : CV (t / 86400) y m d) (h : l = form1 t y m d ∨ l = form2 t y m d ∨ l = form3 t y m d) : FA l t := by
  obtain ⟨a, b, c, f, g, i⟩ := cv_bd hcv
  rcases h with e | e | e
  · exact Or.inl ⟨ht, y, m, d, hcv, e⟩
  · have := (read2 ht a b c f g i e).1; omega
  · have := (read3 ht a b c f g i e).1; omega
theorem hit3 {l : List UInt8} {t y m d : Int} (hl : l.length = 24) (ht : InT t) (hcv : CV (t / 86400) y m d) (h : l = form1 t y m d ∨ l = form2 t y m d ∨ l = form3 t y m d) : FA l t := by
  obtain ⟨a, b, c, f, g, i⟩ := cv_bd hcv
  rcases h with e | e | e
  · have := (read1 ht a b c f g i e).1; omega
  · have := (read2 ht a b c f g i e).1; omega
  · exact Or.inr (Or.inr ⟨ht, y, m, d, hcv, e⟩)
theorem hit2 {l : List UInt8} {t y m d : Int} {k : Nat} (hl : l.length = k + 24) (hl2 : 30 ≤ l.length ∧ l.length ≤ 33) (ht : InT t) (hcv : CV (t / 86400) y m d) (hne : ¬ dof (yr2 (tw l (k + 9))) (monOf ((l.drop (k + 5)).take 3)) (tw l (k + 2)) < 0)
    (hd : t = 86400 * dof (yr2 (tw l (k + 9))) (monOf ((l.drop (k + 5)).take 3)) (tw l (k + 2)) + 3600 * tw l (k + 12) + 60 * tw l (k + 15) + tw l (k + 18)) (h : l = form1 t y m d ∨ l = form2 t y m d ∨ l = form3 t y m d) : FA l t := by
  obtain ⟨a, b, c, f, g, i⟩ := cv_bd hcv
  rcases h with e | e | e
  · have := (read1 ht a b c f g i e).1; omega
  · refine Or.inr (Or.inl ⟨ht, y, m, d, hcv, ?_, e⟩)
    obtain ⟨_, ⟨_, q2, _, _⟩, r1, r3, r4⟩ := read2 ht a b c f g i e
    rw [show l.length - 24 = k by omega, List.drop_drop] at q2
    rw [show l.length - 15 = k + 9 by omega] at r1
    rw [show l.length - 22 = k + 2 by omega] at r3
    rw [show l.length - 12 = k + 12 by omega] at r4
    unfold clt at r4
    rw [r1, q2, r3] at hne hd
    have r4' : 3600 * tw l (k + 12) + 60 * tw l (k + 15) + tw l (k + 18) = t % 86400 := r4
    have hcv2 := dof_pos hne
    have hyb := yr2_bd (q := y % 100) (by omega) (by omega)
    have h86 : dof (yr2 (y % 100)) m d = t / 86400 := by omega
    rw [h86] at hcv2
    have := (cv_uniq hcv hcv2).1
    omega
  · have := (read3 ht a b c f g i e).1; omega
def fm (t y m d : Int) : Nat → List UInt8
  | 0 => form1 t y m d
  | 1 => form2 t y m d
  | _ => form3 t y m d
theorem fm_three {l : List UInt8} {t y m d : Int} {k : Nat} (h : fm t y m d k = l) : l = form1 t y m d ∨ l = form2 t y m d ∨ l = form3 t y m d := by
  match k, h with
  | 0, h => exact Or.inl h.symm
  | 1, h => exact Or.inr (Or.inl h.symm)
  | k + 2, h => exact Or.inr (Or.inr h.symm)
theorem fm_all {l : List UInt8} {t y m d : Int} (h : ∀ j, j < 3 → fm t y m d j ≠ l) : ¬ (l = form1 t y m d ∨ l = form2 t y m d ∨ l = form3 t y m d) := by
  rintro (e | e | e)
  · exact h 0 (by omega) e.symm
  · exact h 1 (by omega) e.symm
  · exact h 2 (by omega) e.symm
/-- Who has one of the forms at the only time that is read has the one of that time. -/
theorem fa_forms {l : List UInt8} {t y m d : Int} (hcv : CV (t / 86400) y m d) (h : FA l t) : l = form1 t y m d ∨ l = form2 t y m d ∨ l = form3 t y m d := by
  rcases h with ⟨_, y', m', d', hc', e⟩ | ⟨_, y', m', d', hc', _, e⟩ | ⟨_, y', m', d', hc', e⟩
  all_goals obtain ⟨rfl, rfl, rfl⟩ := cv_uniq hcv hc'
  · exact Or.inl e
  · exact Or.inr (Or.inl e)
  · exact Or.inr (Or.inr e)

theorem fa_in {l : List UInt8} {t : Int} (h : FA l t) : InT t := by
  rcases h with h | h | h
  · exact h.1
  · exact h.1
  · exact h.1
end Go.Proofs.YtilephkbcikfbaaDoor.Dt
