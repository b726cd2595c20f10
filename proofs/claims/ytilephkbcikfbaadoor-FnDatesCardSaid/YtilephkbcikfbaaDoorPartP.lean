/-
  CONTRACTS AND PLAIN FACTS, several texts in one; each says in its own words what it proves.
-/
import Derived.Test.YtilephkbcikfbaaDoorPartO
set_option linter.unusedSimpArgs false
set_option linter.unusedVariables false

/-
  CONTRACT of the program's plainDate; nothing that was there before is changed.
-/
namespace Go.Proofs.YtilephkbcikfbaaDoor.Dt
open Go Go.RowKit
set_option linter.unusedVariables false
set_option maxRecDepth 1000000

theorem dates_start0 {w wr : World} {a c e : List UInt8} {b d : Int} (hb : Below w.heap.size w wr) : DateS w wr a c e b d (wr.alloc (.cells #[.string ⟨a.toArray⟩, .int .i64 b, .string ⟨c.toArray⟩, .int .i64 d, .string ⟨e.toArray⟩] 39)) := by
  refine ⟨⟨?_, ?_, ?_, ?_, ?_⟩, hb.alloc hb.size _⟩
  all_goals (rw [World.cell?_alloc_new]; rfl)
theorem dates_drew {w wr w0 : World} {a c e : List UInt8} {b d : Int} (h : DateS w wr a c e b d w0) : DateS w wr a c e b d w0.drew := ⟨h.1, Rec.below_drew h.2⟩
theorem dtx_len {d : Int} (h0 : 1 ≤ d) (h1 : d ≤ 31) : (dtx d).length = 2 := by obtain ⟨a, b, e, _⟩ := dtx2 h0 h1; rw [e]; rfl
theorem digs_itoa {d : Int} (h0 : 10 ≤ d) (h1 : d ≤ 31) : Dig.digs d 2 = Lib.itoa d := by
  have : ∀ k : Fin 22, Dig.digs (10 + (k.1 : Int)) 2 = Lib.itoa (10 + (k.1 : Int)) := by decide +kernel
  have h := this ⟨(d - 10).toNat, by omega⟩
  rw [show 10 + (((d - 10).toNat : Nat) : Int) = d by omega] at h
  exact h

set_option maxRecDepth 1000000 in
set_option maxHeartbeats 4000000 in
theorem impl_plain (t : Int) (w : World) (h0 : 0 ≤ t) (h1 : t ≤ 4102444799) (ht : Mds w) (hn : Names w) (hten : Fmt.Tens w) :
    Calls Tryd.prog 39 #[.int .i64 t] w (Dated3 t w) := by
  have HP := Lib.hid (impl_parts t w h0 h1 ht hn hten)
  have HT := Lib.hid hten
  have hwl := dnm_len (wkd_lt (t / 86400))
  have hcl := clk_len (s := t % 86400) (by omega) (by omega)
  have HF : Hid (∀ y m d, form3 t y m d = (dnm (wkd (t / 86400))).take 3 ++ [32] ++ mnm (m - 1).toNat ++ [32] ++ dtx d ++ [32] ++ clk (t % 86400) ++ [32] ++ Dig.digs y 4) := Lib.hid (fun _ _ _ => rfl)
  unfold Parts pv at HP
  generalize dnm (wkd (t / 86400)) = dn at hwl HP HF
  generalize clk (t % 86400) = ck at hcl HP HF
  have HWL := Lib.hid hwl
  have HCL := Lib.hid hcl
  clear ht hn hten hwl hcl
  go_enter Tryd.func39, Tryd.ntmps39
  go_wp2_with (fail)
  go_at_call 17
  refine HP.out.mono ?_
  rintro e w1 ⟨y, m, d, hcv, rfl, hb1⟩
  have HB := Lib.hid hb1
  have HCV := Lib.hid hcv
  have hml := mnm_len (k := (m - 1).toNat) (by have := hcv.2.2.1; have := hcv.2.2.2.1; omega)
  have hyb : y ≤ 2099 := hcv.2.1
  have hyb0 : 1970 ≤ y := hcv.1
  have hd1 : 1 ≤ d := hcv.2.2.2.2.1
  have hd31 : d ≤ 31 := by have := hcv.2.2.2.2.2.1; have := dim_bd y m hcv.2.2.1 hcv.2.2.2.1; omega
  have HFF := Lib.hid (HF.out y m d)
  generalize mnm (m - 1).toNat = mn at hml HFF
  have HS0 := Lib.hid (dates_start0 (a := dn) (c := mn) (e := ck) (b := d) (d := y) hb1)
  have HIT := Lib.hid (Fmt.impl_fmt d (by omega) (by omega) _ (Fmt.tens_below HT.out HS0.out.2))
  have SK : Hid (∀ w0 w1' : World, DateS w w1 dn mn ck d y w0 → Below w0.heap.size w0 w1' → DateS w w1 dn mn ck d y w1') := Lib.hid (fun _ _ h hb => dates_call h hb)
  have HG4 : Hid (∀ u : RegS.In (DateS w w1 dn mn ck d y), Calls Tryd.prog 18 #[.int .i64 y, .int .i64 4] u.w fun e w' => e = .returned (.string ⟨(Dig.digs y 4).toArray⟩) ∧ Below u.w.heap.size u.w w') := Lib.hid (fun u => Dig.impl_digits y 4 u.w (by omega) (Fmt.tens_below HT.out u.h.2))
  have l4 := dg2 (n := y) (by omega) 4
  have l3 : (dn.take 3).length ≤ 3 := List.length_take_le _ _
  have lx := dtx_len hd1 hd31
  have HDT : Hid (d < 10 → dtx d = [32] ++ Lib.itoa d) := Lib.hid (fun h => by unfold dtx; rw [if_pos h])
  have HDT2 : Hid (¬ d < 10 → dtx d = Lib.itoa d) := Lib.hid (fun h => by unfold dtx; rw [if_neg h]; exact digs_itoa (by omega) hd31)
  have li := (Fmt.itoa_len (n := d) (by omega) (by omega)).2
  generalize dtx d = dx at HDT HDT2 HFF lx
  generalize Lib.itoa d = it at HDT HDT2 HIT li
  generalize Dig.digs y 4 = g4 at HG4 l4 HFF
  have lc := HCL.out
  have hx3 := cut3 dn
  have hsz3 : (3 : Int) ≤ (dn.length : Int) := by have := HWL.out; omega
  generalize dn.take 3 = d3 at l3 HFF hx3
  have a0 := Tx.addtwo [32] it (by simp only [List.length_cons, List.length_nil]; omega)
  have a1 := Tx.addtwo d3 [32] (by simp only [List.length_cons, List.length_nil]; omega)
  have a2 := Tx.addtwo (d3 ++ [32]) mn (by simp only [List.length_append, List.length_cons, List.length_nil]; omega)
  have a3 := Tx.addtwo (d3 ++ [32] ++ mn) [32] (by simp only [List.length_append, List.length_cons, List.length_nil]; omega)
  have a4 := Tx.addtwo (d3 ++ [32] ++ mn ++ [32]) dx (by simp only [List.length_append, List.length_cons, List.length_nil]; omega)
  have a5 := Tx.addtwo (d3 ++ [32] ++ mn ++ [32] ++ dx) [32] (by simp only [List.length_append, List.length_cons, List.length_nil]; omega)
  have a6 := Tx.addtwo (d3 ++ [32] ++ mn ++ [32] ++ dx ++ [32]) ck (by simp only [List.length_append, List.length_cons, List.length_nil]; omega)
  have a7 := Tx.addtwo (d3 ++ [32] ++ mn ++ [32] ++ dx ++ [32] ++ ck) [32] (by simp only [List.length_append, List.length_cons, List.length_nil]; omega)
  have a8 := Tx.addtwo (d3 ++ [32] ++ mn ++ [32] ++ dx ++ [32] ++ ck ++ [32]) g4 (by simp only [List.length_append, List.length_cons, List.length_nil]; omega)
  generalize d3 ++ [32] = y1 at a1 a2 a3 a4 a5 a6 a7 a8 HFF
  generalize y1 ++ mn = y2 at a2 a3 a4 a5 a6 a7 a8 HFF
  generalize y2 ++ [32] = y3 at a3 a4 a5 a6 a7 a8 HFF
  generalize y3 ++ dx = y4 at a4 a5 a6 a7 a8 HFF
  generalize y4 ++ [32] = y5 at a5 a6 a7 a8 HFF
  generalize y5 ++ ck = y6 at a6 a7 a8 HFF
  generalize y6 ++ [32] = y7 at a7 a8 HFF
  generalize y7 ++ g4 = y8 at a8 HFF
  have HDX : Hid (d < 10 → [32] ++ it = dx) := Lib.hid (fun h => (HDT.out h).symm)
  generalize [32] ++ it = sit at a0 HDX
  clear hb1 hcv l4 lc hml hyb hyb0 hd1 hd31 li lx l3 HDT
  go_wp2_with (fail)
  go_at_call 32
  refine HIT.out.mono ?_
  rintro e w2 ⟨rfl, hb2⟩
  have HS2 := Lib.hid (SK.out _ _ HS0.out hb2)
  have HSD := Lib.hid (dates_drew HS2.out)
  obtain ⟨⟨k0, k1, k2, k3, k4⟩, _⟩ := HS2.out
  clear hb2
  have f0 : ∀ u : RegS.In (DateS w w1 dn mn ck d y), u.w.cell? ⟨w1.heap.size, 0, none⟩ = some (.string ⟨dn.toArray⟩) := fun u => u.h.1.1
  have f1 : ∀ u : RegS.In (DateS w w1 dn mn ck d y), u.w.cell? ⟨w1.heap.size, 1, none⟩ = some (.int .i64 d) := fun u => u.h.1.2.1
  have f2 : ∀ u : RegS.In (DateS w w1 dn mn ck d y), u.w.cell? ⟨w1.heap.size, 2, none⟩ = some (.string ⟨mn.toArray⟩) := fun u => u.h.1.2.2.1
  have f3 : ∀ u : RegS.In (DateS w w1 dn mn ck d y), u.w.cell? ⟨w1.heap.size, 3, none⟩ = some (.int .i64 y) := fun u => u.h.1.2.2.2.1
  have f4 : ∀ u : RegS.In (DateS w w1 dn mn ck d y), u.w.cell? ⟨w1.heap.size, 4, none⟩ = some (.string ⟨ck.toArray⟩) := fun u => u.h.1.2.2.2.2
  by_cases h10 : d < 10
  · obtain rfl := HDX.out (by omega)
    go_wp2
    refine RegS.region (DateS w w1 dn mn ck d y) (by kernel_rfl) (by kernel_rfl) HSD.out ?_
    haveI : Nonempty (RegS.In (DateS w w1 dn mn ck d y)) := ⟨⟨_, HSD.out⟩⟩
    repeat (first | go_big_quiet_step ((go_at_call 18; with_reducible exact RegS.call (HG4.out _) (fun e w' he => ⟨he.1, SK.out _ _ (RegS.In.h _) he.2⟩))) | quiet_step (fail))
    refine wpQuiet_nil ?_
    intro _ hw'
    obtain ⟨⟨wz, hS⟩, hw''⟩ := hw'
    subst hw''
    have HBB := Lib.hid hS.2
    clear hS
    go_wp2
    go_ret
    exact ⟨y, m, d, HCV.out, congrArg (fun z : List UInt8 => Ending.returned (.string ⟨z.toArray⟩)) HFF.out.symm, HBB.out⟩
  · obtain rfl := HDT2.out (by omega)
    go_wp2
    refine RegS.region (DateS w w1 dn mn ck d y) (by kernel_rfl) (by kernel_rfl) HSD.out ?_
    haveI : Nonempty (RegS.In (DateS w w1 dn mn ck d y)) := ⟨⟨_, HSD.out⟩⟩
    repeat (first | go_big_quiet_step ((go_at_call 18; with_reducible exact RegS.call (HG4.out _) (fun e w' he => ⟨he.1, SK.out _ _ (RegS.In.h _) he.2⟩))) | quiet_step (fail))
    refine wpQuiet_nil ?_
    intro _ hw'
    obtain ⟨⟨wz, hS⟩, hw''⟩ := hw'
    subst hw''
    have HBB := Lib.hid hS.2
    clear hS
    go_wp2
    go_ret
    exact ⟨y, m, d, HCV.out, congrArg (fun z : List UInt8 => Ending.returned (.string ⟨z.toArray⟩)) HFF.out.symm, HBB.out⟩
end Go.Proofs.YtilephkbcikfbaaDoor.Dt

/-
  CONTRACTS of the program's readFirstForm, readLongForm, readPlainForm and ParseDate; nothing that was there before is changed.
-/
namespace Go.Proofs.YtilephkbcikfbaaDoor.Dt
open Go Go.RowKit
set_option linter.unusedVariables false
set_option maxRecDepth 1000000

def F1 (l : List UInt8) (t : Int) : Prop := InT t ∧ ∃ y m d, CV (t / 86400) y m d ∧ l = form1 t y m d
def F2 (l : List UInt8) (t : Int) : Prop := InT t ∧ ∃ y m d, CV (t / 86400) y m d ∧ y ≤ 2069 ∧ l = form2 t y m d
def F3 (l : List UInt8) (t : Int) : Prop := InT t ∧ ∃ y m d, CV (t / 86400) y m d ∧ l = form3 t y m d
/-- What a reader answers: the time of which the text is the form, or nothing. -/
def Reads (F : Int → Prop) (w : World) (e : Ending) (w' : World) : Prop := ((∃ t, F t ∧ e = .returned (.tuple #[.int .i64 t, .bool true])) ∨ ((∀ t, ¬ F t) ∧ e = .returned (.tuple #[.int .i64 0, .bool false]))) ∧ Below w.heap.size w w'
theorem day_of {t s : Int} {day : Int} (h1 : day = t / 86400) (h2 : s = t % 86400) : day * 86400 + s = t := by omega
/-- Whoever has the first form is read from its places. -/
theorem f1_read {l : List UInt8} {t : Int} (h : F1 l t) : l.length = 29 ∧ tof (loose ((l.drop 12).take 4)) ((l.drop 8).take 3) (loose ((l.drop 5).take 2)) ((l.drop 17).take 8) = (t, true) := by
  obtain ⟨ht, y, m, d, hcv, e⟩ := h
  obtain ⟨a, b, c, f, g, i⟩ := cv_bd hcv
  obtain ⟨hl, ⟨q1, q2, q3, q4⟩, _⟩ := read1 ht a b c f g i e
  refine ⟨hl, ?_⟩
  unfold tof
  rw [q1, q2, q3, q4, dof_cv hcv]
  have h0 := ht.1
  have h1 := ht.2
  rw [if_neg (by omega), day_of rfl rfl]
  exact Prod.ext rfl (by simpa using h1)
theorem f3_read {l : List UInt8} {t : Int} (h : F3 l t) : l.length = 24 ∧ tof (loose ((l.drop 20).take 4)) ((l.drop 4).take 3) (loose ((l.drop 8).take 2)) ((l.drop 11).take 8) = (t, true) := by
  obtain ⟨ht, y, m, d, hcv, e⟩ := h
  obtain ⟨a, b, c, f, g, i⟩ := cv_bd hcv
  obtain ⟨hl, ⟨q1, q2, q3, q4⟩, _⟩ := read3 ht a b c f g i e
  refine ⟨hl, ?_⟩
  unfold tof
  rw [q1, q2, q3, q4, dof_cv hcv]
  have h0 := ht.1
  have h1 := ht.2
  rw [if_neg (by omega), day_of rfl rfl]
  exact Prod.ext rfl (by simpa using h1)
def full (y : Int) : Int := if y < 70 then 2000 + y else 1900 + y
theorem full_mod {y : Int} (h0 : 1970 ≤ y) (h1 : y ≤ 2069) : full (y % 100) = y := by unfold full; split <;> omega
theorem full_bd {y : Int} (h0 : 0 ≤ y) (h1 : y ≤ 99) : 1970 ≤ full y ∧ full y ≤ 2069 := by unfold full; split <;> omega
theorem f2_read {l : List UInt8} {t : Int} (h : F2 l t) : (30 ≤ l.length ∧ l.length ≤ 33) ∧ tof (full (loose (((l.drop (l.length - 24)).drop 9).take 2))) (((l.drop (l.length - 24)).drop 5).take 3) (loose (((l.drop (l.length - 24)).drop 2).take 2)) (((l.drop (l.length - 24)).drop 12).take 8) = (t, true) := by
  obtain ⟨ht, y, m, d, hcv, hy, e⟩ := h
  obtain ⟨a, b, c, f, g, i⟩ := cv_bd hcv
  obtain ⟨hl, ⟨q1, q2, q3, q4⟩, _⟩ := read2 ht a b c f g i e
  refine ⟨hl, ?_⟩
  unfold tof
  rw [q1, q2, q3, q4, full_mod a hy, dof_cv hcv]
  have h0 := ht.1
  have h1 := ht.2
  rw [if_neg (by omega), day_of rfl rfl]
  exact Prod.ext rfl (by simpa using h1)
/-- A time that was read lies in the range. -/
theorem tof_in {y d : Int} {mo ck : List UInt8} (hck : ck.length = 8) (h : (tof y mo d ck).2 = true) : InT (tof y mo d ck).1 ∧ (tof y mo d ck).1 = dof y (monOf mo) d * 86400 + clo ck ∧ ¬ dof y (monOf mo) d < 0 := by
  unfold tof at h ⊢
  split at h
  · simp at h
  · rename_i hn
    rw [if_neg hn]
    have hb := clo_bd hck
    refine ⟨⟨by simp only; omega, by simpa using h⟩, rfl, hn⟩

set_option maxRecDepth 1000000 in
set_option maxHeartbeats 4000000 in
theorem impl_first (l : List UInt8) (w : World) (hl : l.length ≤ 67108864) (ht : Mds w) (hn : Names w) (hten : Fmt.Tens w) :
    Calls Tryd.prog 19 #[.string ⟨l.toArray⟩] w (Reads (F1 l) w) := by
  have hsz : (⟨l.toArray⟩ : ByteArray).size = l.length := by simp [ByteArray.size]
  by_cases h29 : l.length = 29
  case neg =>
    have HNO : Hid (∀ t, ¬ F1 l t) := Lib.hid (fun t h => h29 (f1_read h).1)
    have hq : ((l.length : Int) == 29) = false := by rw [beq_eq_false_iff_ne]; omega
    go_enter Tryd.func19, Tryd.ntmps19
    go_wp2
    go_ret2
    exact ⟨Or.inr ⟨HNO.out, rfl⟩, Below.refl _ _⟩
  have HRD := Lib.hid (fun t (h : F1 l t) => (f1_read h).2)
  have hck : ((l.drop 17).take 8).length = 8 := by simp; omega
  have b1 := loose_bd ((l.drop 12).take 4)
  rw [show ((l.drop 12).take 4).length = 4 by simp; omega] at b1
  have HIN := Lib.hid (fun h => tof_in (y := loose ((l.drop 12).take 4)) (d := loose ((l.drop 5).take 2)) (mo := (l.drop 8).take 3) hck h)
  have HL1 := Lib.hid (fun W => loose_l ((l.drop 12).take 4) W (by simp; omega))
  have HL2 := Lib.hid (fun W => loose_l ((l.drop 5).take 2) W (by simp; omega))
  have HTO := Lib.hid (fun W (hb : Below w.heap.size w W) => impl_tof (loose ((l.drop 12).take 4)) ((l.drop 8).take 3) (loose ((l.drop 5).take 2)) ((l.drop 17).take 8) W (Go.WalkArith.wf_i64 ⟨by omega, by omega⟩) hck (mds_below ht hb) (names_below hn hb))
  have HFD := Lib.hid (fun t W (h : InT t) (hb : Below w.heap.size w W) => impl_date t W h.1 h.2 (mds_below ht hb) (names_below hn hb) (Fmt.tens_below hten hb))
  have e1 : (⟨l.toArray⟩ : ByteArray).extract 12 16 = ⟨((l.drop 12).take 4).toArray⟩ := by rw [ext_l]
  have e2 : (⟨l.toArray⟩ : ByteArray).extract 8 11 = ⟨((l.drop 8).take 3).toArray⟩ := by rw [ext_l]
  have e3 : (⟨l.toArray⟩ : ByteArray).extract 5 7 = ⟨((l.drop 5).take 2).toArray⟩ := by rw [ext_l]
  have e4 : (⟨l.toArray⟩ : ByteArray).extract 17 25 = ⟨((l.drop 17).take 8).toArray⟩ := by rw [ext_l]
  rw [h29] at hsz
  unfold TofEnd at HTO
  unfold Dated at HFD
  have HF := Lib.hid (fun t (h : InT t) y m d (hc : CV (t / 86400) y m d) (e : l = form1 t y m d) => (⟨h, y, m, d, hc, e⟩ : F1 l t))
  have HFN := Lib.hid (fun t (h : ¬ F1 l t) y m d (hc : CV (t / 86400) y m d) (hi : InT t) (e : l = form1 t y m d) => h ⟨hi, y, m, d, hc, e⟩)
  have HFX : Hid (∀ t y m d, F1 l t → CV (t / 86400) y m d → l = form1 t y m d) := Lib.hid (fun t y m d ⟨_, y', m', d', hc', e⟩ hc => by obtain ⟨rfl, rfl, rfl⟩ := cv_uniq hc hc'; exact e)
  generalize (l.drop 12).take 4 = x1 at HL1 e1 b1 HTO HIN HRD
  generalize (l.drop 8).take 3 = x2 at e2 HTO HIN HRD
  generalize (l.drop 5).take 2 = x3 at HL2 e3 HTO HIN HRD
  generalize (l.drop 17).take 8 = x4 at e4 HTO HIN HRD
  generalize loose x1 = n1 at HL1 HTO HIN HRD
  generalize loose x3 = n3 at HL2 HTO HIN HRD
  generalize tof n1 x2 n3 x4 = p at HTO HIN HRD
  obtain ⟨t, ok⟩ := p
  simp only at HTO HIN
  have hl29 : (l.length : Int) = 29 := by omega
  have HSD : Hid (BelS w w.drew) := Lib.hid (Rec.below_drew (Below.refl _ _))
  have G1 : Hid (∀ u : RegS.In (BelS w), Calls Tryd.prog 36 #[.string ⟨x1.toArray⟩] u.w fun e w' => e = .returned (.int .i64 n1) ∧ u.w = w') := Lib.hid (fun u => HL1.out u.w)
  have G2 : Hid (∀ u : RegS.In (BelS w), Calls Tryd.prog 36 #[.string ⟨x3.toArray⟩] u.w fun e w' => e = .returned (.int .i64 n3) ∧ u.w = w') := Lib.hid (fun u => HL2.out u.w)
  have SK : Hid (∀ w0 w1' : World, BelS w w0 → Below w0.heap.size w0 w1' → BelS w w1') := Lib.hid (fun _ _ h hb => bels_call h hb)
  clear ht hn hten hck b1 HL1 HL2 h29
  unfold Reads
  go_enter Tryd.func19, Tryd.ntmps19
  go_wp2
  refine RegS.region (BelS w) (by kernel_rfl) (by kernel_rfl) HSD.out ?_
  haveI : Nonempty (RegS.In (BelS w)) := ⟨⟨_, HSD.out⟩⟩
  repeat (first | go_big_quiet_step ((first | (go_at_call 36; with_reducible exact RegS.call (G1.out _) (fun e w' he => ⟨he.1, he.2 ▸ RegS.In.h _⟩)) | (go_at_call 36; with_reducible exact RegS.call (G2.out _) (fun e w' he => ⟨he.1, he.2 ▸ RegS.In.h _⟩)) | (go_at_call 35; with_reducible exact RegS.call (HTO.out _ (RegS.In.h _)) (fun e w' he => ⟨he.1, SK.out _ _ (RegS.In.h _) he.2⟩)))) | quiet_step (fail))
  refine wpQuiet_nil ?_
  intro wz hw'
  obtain ⟨⟨wq, hS⟩, hw''⟩ := hw'
  subst hw''
  have HB : Hid (Below w.heap.size w wz) := Lib.hid hS
  clear hS
  cases ok with
  | false =>
    have HNO : Hid (∀ t, ¬ F1 l t) := Lib.hid (fun t' h => by have := HRD.out t' h; simp at this)
    go_wp2
    go_ret2
    exact ⟨Or.inr ⟨HNO.out, rfl⟩, HB.out⟩
  | true =>
    have HI := Lib.hid (HIN.out rfl).1
    have HDD := Lib.hid (HFD.out t wz HI.out HB.out)
    go_wp2_with (fail)
    go_at_call 6
    refine HDD.out.mono ?_
    rintro e w2 ⟨y, m, d, hcv, rfl, hb2⟩
    have HB2 := Lib.hid (Base.then_below HB.out hb2)
    have HCV := Lib.hid hcv
    clear hb2 hcv
    by_cases he : form1 t y m d = l
    · have HY := Lib.hid (HF.out t HI.out y m d HCV.out he.symm)
      subst he
      go_wp2
      go_ret2
      exact ⟨Or.inl ⟨t, HY.out, rfl⟩, HB2.out⟩
    · have HNO : Hid (∀ t, ¬ F1 l t) := Lib.hid (fun t' h => by
        have := HRD.out t' h
        have e2 : t = t' := by simpa using this
        subst e2
        exact he (HFX.out _ y m d h HCV.out).symm)
      have hq : (form1 t y m d == l) = false := by simpa using he
      generalize form1 t y m d = fz at hq
      clear he
      go_wp2
      go_ret2
      exact ⟨Or.inr ⟨HNO.out, rfl⟩, HB2.out⟩
end Go.Proofs.YtilephkbcikfbaaDoor.Dt
