/-
  CONTRACT of the program's FormatDate; nothing that was there before is changed.
-/
import Derived.Test.YtgclilgahalgaaaDoorDateP
import Derived.Test.YtgclilgahalgaaaDoorRegS
import Derived.Test.YtgclilgahalgaaaDoorCutOne
namespace Go.Proofs.YtgclilgahalgaaaDoor.Dt
open Go Go.RowKit
set_option linter.unusedVariables false

def Dated (t : Int) (w : World) (e : Ending) (w' : World) : Prop := ∃ y m d : Int, CV (t / 86400) y m d ∧ e = .returned (.string ⟨(form1 t y m d).toArray⟩) ∧ Below w.heap.size w w'
/-- The class of worlds in which the text is put together. -/
def DateS (w wr : World) (a c e : List UInt8) (b d : Int) (w' : World) : Prop := (w'.cell? ⟨wr.heap.size, 0, none⟩ = some (.string ⟨a.toArray⟩) ∧ w'.cell? ⟨wr.heap.size, 1, none⟩ = some (.int .i64 b) ∧ w'.cell? ⟨wr.heap.size, 2, none⟩ = some (.string ⟨c.toArray⟩) ∧ w'.cell? ⟨wr.heap.size, 3, none⟩ = some (.int .i64 d) ∧ w'.cell? ⟨wr.heap.size, 4, none⟩ = some (.string ⟨e.toArray⟩)) ∧ Below w.heap.size w w'
theorem dates_start {w wr : World} {a c e : List UInt8} {b d : Int} (hb : Below w.heap.size w wr) : DateS w wr a c e b d (wr.alloc (.cells #[.string ⟨a.toArray⟩, .int .i64 b, .string ⟨c.toArray⟩, .int .i64 d, .string ⟨e.toArray⟩] 43)).drew := by
  refine ⟨⟨?_, ?_, ?_, ?_, ?_⟩, Rec.below_drew (hb.alloc hb.size _)⟩
  all_goals
    show (wr.alloc _).cell? _ = _
    rw [World.cell?_alloc_new]; rfl
theorem dates_call {w wr w0 w1 : World} {a c e : List UInt8} {b d : Int} (h : DateS w wr a c e b d w0) (hb : Below w0.heap.size w0 w1) : DateS w wr a c e b d w1 := by
  obtain ⟨⟨h0, h1, h2, h3, h4⟩, hB⟩ := h
  have hl := Rec.lt_of_cell h0
  exact ⟨⟨(hb.cell (p := ⟨wr.heap.size, 0, none⟩) hl).trans h0, (hb.cell (p := ⟨wr.heap.size, 1, none⟩) hl).trans h1, (hb.cell (p := ⟨wr.heap.size, 2, none⟩) hl).trans h2, (hb.cell (p := ⟨wr.heap.size, 3, none⟩) hl).trans h3, (hb.cell (p := ⟨wr.heap.size, 4, none⟩) hl).trans h4⟩, Base.then_below hB hb⟩
theorem cut3 (l : List UInt8) : (⟨l.toArray⟩ : ByteArray).extract 0 3 = ⟨(l.take 3).toArray⟩ := by rw [Tx.ext_eq]; simp

theorem impl_date_out (t : Int) (w : World) (h : t < 0 ∨ 4102444799 < t) : Calls Tryd.prog 25 #[.int .i64 t] w fun e w' => e = .returned (.string ⟨#[]⟩) ∧ Below w.heap.size w w' := by
  by_cases h0 : t < 0
  · go_enter Tryd.func25, Tryd.ntmps25
    go_wp2
    go_ret
    exact ⟨rfl, Below.refl _ _⟩
  · have h1 : 4102444799 < t := by omega
    go_enter Tryd.func25, Tryd.ntmps25
    go_wp2
    go_ret
    exact ⟨rfl, Below.refl _ _⟩

set_option maxRecDepth 100000 in
set_option maxHeartbeats 4000000 in
theorem impl_date (t : Int) (w : World) (h0 : 0 ≤ t) (h1 : t ≤ 4102444799) (ht : Mds w) (hn : Names w) (hten : Fmt.Tens w) :
    Calls Tryd.prog 25 #[.int .i64 t] w (Dated t w) := by
  have HP := Lib.hid (impl_parts t w h0 h1 ht hn hten)
  have HT := Lib.hid hten
  have hwl := dnm_len (wkd_lt (t / 86400))
  have hcl := clk_len (s := t % 86400) (by omega) (by omega)
  have HF : Hid (∀ y m d, form1 t y m d = (dnm (wkd (t / 86400))).take 3 ++ [44, 32] ++ Dig.digs d 2 ++ [32] ++ mnm (m - 1).toNat ++ [32] ++ Dig.digs y 4 ++ [32] ++ clk (t % 86400) ++ [32, 71, 77, 84]) := Lib.hid (fun _ _ _ => rfl)
  unfold Parts pv at HP
  generalize dnm (wkd (t / 86400)) = dn at hwl HP HF
  generalize clk (t % 86400) = ck at hcl HP HF
  have HWL := Lib.hid hwl
  have HCL := Lib.hid hcl
  clear ht hn hten hwl hcl
  go_enter Tryd.func25, Tryd.ntmps25
  go_wp2_with (fail)
  go_at_call 33
  refine HP.out.mono ?_
  rintro e w1 ⟨y, m, d, hcv, rfl, hb1⟩
  have HB := Lib.hid hb1
  have HCV := Lib.hid hcv
  have hml := mnm_len (k := (m - 1).toNat) (by have := hcv.2.2.1; have := hcv.2.2.2.1; omega)
  have hyb : y ≤ 2099 := hcv.2.1
  have hdb : d ≤ 9223372036854775807 := by have := hcv.2.2.2.2.2.1; have := dim_bd y m hcv.2.2.1 hcv.2.2.2.1; omega
  have HFF := Lib.hid (HF.out y m d)
  generalize mnm (m - 1).toNat = mn at hml HFF
  have HSD := Lib.hid (dates_start (a := dn) (c := mn) (e := ck) (b := d) (d := y) hb1)
  have SK : Hid (∀ w0 w1' : World, DateS w w1 dn mn ck d y w0 → Below w0.heap.size w0 w1' → DateS w w1 dn mn ck d y w1') := Lib.hid (fun _ _ h hb => dates_call h hb)
  have HG2 : Hid (∀ u : RegS.In (DateS w w1 dn mn ck d y), Calls Tryd.prog 34 #[.int .i64 d, .int .i64 2] u.w fun e w' => e = .returned (.string ⟨(Dig.digs d 2).toArray⟩) ∧ Below u.w.heap.size u.w w') := Lib.hid (fun u => Dig.impl_digits d 2 u.w hdb (Fmt.tens_below HT.out u.h.2))
  have HG4 : Hid (∀ u : RegS.In (DateS w w1 dn mn ck d y), Calls Tryd.prog 34 #[.int .i64 y, .int .i64 4] u.w fun e w' => e = .returned (.string ⟨(Dig.digs y 4).toArray⟩) ∧ Below u.w.heap.size u.w w') := Lib.hid (fun u => Dig.impl_digits y 4 u.w (by omega) (Fmt.tens_below HT.out u.h.2))
  have l2 := dg2 (n := d) hdb 2
  have l4 := dg2 (n := y) (by omega) 4
  generalize Dig.digs d 2 = g2 at HG2 l2 HFF
  generalize Dig.digs y 4 = g4 at HG4 l4 HFF
  have l3 : (dn.take 3).length ≤ 3 := List.length_take_le _ _
  have lc := HCL.out
  have hx3 := cut3 dn
  have hsz3 : (3 : Int) ≤ (dn.length : Int) := by have := HWL.out; omega
  generalize dn.take 3 = d3 at l3 HFF hx3
  have a1 := Tx.addtwo d3 [44, 32] (by simp only [List.length_cons, List.length_nil]; omega)
  have a2 := Tx.addtwo (d3 ++ [44, 32]) g2 (by simp only [List.length_append, List.length_cons, List.length_nil]; omega)
  have a3 := Tx.addtwo (d3 ++ [44, 32] ++ g2) [32] (by simp only [List.length_append, List.length_cons, List.length_nil]; omega)
  have a4 := Tx.addtwo (d3 ++ [44, 32] ++ g2 ++ [32]) mn (by simp only [List.length_append, List.length_cons, List.length_nil]; omega)
  have a5 := Tx.addtwo (d3 ++ [44, 32] ++ g2 ++ [32] ++ mn) [32] (by simp only [List.length_append, List.length_cons, List.length_nil]; omega)
  have a6 := Tx.addtwo (d3 ++ [44, 32] ++ g2 ++ [32] ++ mn ++ [32]) g4 (by simp only [List.length_append, List.length_cons, List.length_nil]; omega)
  have a7 := Tx.addtwo (d3 ++ [44, 32] ++ g2 ++ [32] ++ mn ++ [32] ++ g4) [32] (by simp only [List.length_append, List.length_cons, List.length_nil]; omega)
  have a8 := Tx.addtwo (d3 ++ [44, 32] ++ g2 ++ [32] ++ mn ++ [32] ++ g4 ++ [32]) ck (by simp only [List.length_append, List.length_cons, List.length_nil]; omega)
  have a9 := Tx.addtwo (d3 ++ [44, 32] ++ g2 ++ [32] ++ mn ++ [32] ++ g4 ++ [32] ++ ck) [32, 71, 77, 84] (by simp only [List.length_append, List.length_cons, List.length_nil]; omega)
  generalize d3 ++ [44, 32] = y1 at *
  generalize y1 ++ g2 = y2 at *
  generalize y2 ++ [32] = y3 at *
  generalize y3 ++ mn = y4 at *
  generalize y4 ++ [32] = y5 at *
  generalize y5 ++ g4 = y6 at *
  generalize y6 ++ [32] = y7 at *
  generalize y7 ++ ck = y8 at *
  generalize y8 ++ [32, 71, 77, 84] = y9 at *
  have f0 : ∀ u : RegS.In (DateS w w1 dn mn ck d y), u.w.cell? ⟨w1.heap.size, 0, none⟩ = some (.string ⟨dn.toArray⟩) := fun u => u.h.1.1
  have f1 : ∀ u : RegS.In (DateS w w1 dn mn ck d y), u.w.cell? ⟨w1.heap.size, 1, none⟩ = some (.int .i64 d) := fun u => u.h.1.2.1
  have f2 : ∀ u : RegS.In (DateS w w1 dn mn ck d y), u.w.cell? ⟨w1.heap.size, 2, none⟩ = some (.string ⟨mn.toArray⟩) := fun u => u.h.1.2.2.1
  have f3 : ∀ u : RegS.In (DateS w w1 dn mn ck d y), u.w.cell? ⟨w1.heap.size, 3, none⟩ = some (.int .i64 y) := fun u => u.h.1.2.2.2.1
  have f4 : ∀ u : RegS.In (DateS w w1 dn mn ck d y), u.w.cell? ⟨w1.heap.size, 4, none⟩ = some (.string ⟨ck.toArray⟩) := fun u => u.h.1.2.2.2.2
  clear hb1 hcv l2 l4 l3 lc hml hyb hdb
  go_wp2
  refine RegS.region (DateS w w1 dn mn ck d y) (by kernel_rfl) (by kernel_rfl) HSD.out ?_
  haveI : Nonempty (RegS.In (DateS w w1 dn mn ck d y)) := ⟨⟨_, HSD.out⟩⟩
  repeat (first | go_big_quiet_step ((first | (go_at_call 34; with_reducible exact RegS.call (HG2.out _) (fun e w' he => ⟨he.1, SK.out _ _ (RegS.In.h _) he.2⟩)) | (go_at_call 34; with_reducible exact RegS.call (HG4.out _) (fun e w' he => ⟨he.1, SK.out _ _ (RegS.In.h _) he.2⟩)))) | quiet_step (fail))
  refine wpQuiet_nil ?_
  intro _ hw'
  obtain ⟨⟨wz, hS⟩, hw''⟩ := hw'
  subst hw''
  have HBB := Lib.hid hS.2
  clear hS
  go_wp2
  go_ret
  exact ⟨y, m, d, HCV.out, congrArg (fun z : List UInt8 => Ending.returned (.string ⟨z.toArray⟩)) HFF.out.symm, HBB.out⟩
end Go.Proofs.YtgclilgahalgaaaDoor.Dt
