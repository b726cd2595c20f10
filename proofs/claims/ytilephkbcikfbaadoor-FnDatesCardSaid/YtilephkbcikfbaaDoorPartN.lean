/-
  CONTRACTS AND PLAIN FACTS, several texts in one; each says in its own words what it proves.
-/
import Derived.Test.YtilephkbcikfbaaDoorPartA
import Derived.Test.YtilephkbcikfbaaDoorPartK
import Derived.Test.YtilephkbcikfbaaDoorPartF
import Derived.Test.YtilephkbcikfbaaDoorPartH
import Derived.Test.YtilephkbcikfbaaDoorPartM
import Derived.Test.YtilephkbcikfbaaDoorPartG
import Derived.Test.YtilephkbcikfbaaDoorPartJ
import Derived.Test.YtilephkbcikfbaaDoorPartC
import Derived.RegionTactic
import Derived.Deep.RegionWith
import Derived.IntWalk
import Derived.Test.YtilephkbcikfbaaDoorPartL
set_option linter.unusedSimpArgs false
set_option linter.unusedVariables false

/-
  CONTRACT of the program's FormatInt: at every integer of 64 bits, where the library's table of powers of ten reads as it is written, it returns the decimal numeral; nothing that was there before is changed.
-/
namespace Go.Proofs.YtilephkbcikfbaaDoor.Fmt
open Go Go.RowKit
set_option linter.unusedVariables false
set_option maxRecDepth 1000000

/-- The library's table of powers of ten, as it is written. -/
def Tens (w : World) : Prop := Lib.TabIs Tryd.prog w "internal/strconv.uint64pow10" .u64 Lib.pow10Tab
theorem tens_below {W w1 : World} (h : Tens W) (hb : Below W.heap.size W w1) : Tens w1 := Base.var_below h hb

theorem impl_fmt (n : Int) (h0 : -9223372036854775808 ≤ n) (h1 : n ≤ 9223372036854775807) (w : World) (ht : Tens w) :
    Calls Tryd.prog 32 #[.int .i64 n] w fun e w' => e = .returned (.string ⟨(Lib.itoa n).toArray⟩) ∧ Below w.heap.size w w' := by
  go_enter Tryd.func32, Tryd.ntmps32
  go_wp2_with (go_at_call 48; refine (Tryd.strconv_Itoa n h0 h1 _ ht).mono ?_; rintro e w' ⟨rfl, k, os, rfl⟩)
  go_ret
  exact ⟨rfl, Base.below_grow_drewN _ _ _⟩
end Go.Proofs.YtilephkbcikfbaaDoor.Fmt

/-
  CONTRACT of the program's Digits: at every two integers of 64 bits, where the library's table of powers of ten reads as it is written, it returns the digits that are asked for; nothing that was there before is changed.
-/
namespace Go.Proofs.YtilephkbcikfbaaDoor.Dig
open Go Go.RowKit
set_option linter.unusedVariables false
set_option maxRecDepth 1000000

theorem ret_int {k : IntKind} {a b : Int} (h : a = b) : Ending.returned (.int k a) = .returned (.int k b) := by rw [h]
theorem impl_max0 (n : Int) (w : World) :
    Calls Tryd.prog 33 #[.int .i64 0, .int .i64 n] w fun e w' => e = .returned (.int .i64 (mx n)) ∧ w = w' := by
  go_enter Tryd.func33, Tryd.ntmps33
  go_wp2
  go_ret
  refine ⟨ret_int (b := mx n) (a := max 0 n) ?_, rfl⟩
  unfold mx; split <;> omega
theorem impl_min20 (n : Int) (w : World) :
    Calls Tryd.prog 34 #[.int .i64 n, .int .i64 20] w fun e w' => e = .returned (.int .i64 (mn n)) ∧ w = w' := by
  go_enter Tryd.func34, Tryd.ntmps34
  go_wp2
  go_ret
  refine ⟨ret_int (b := mn n) (a := min n 20) ?_, rfl⟩
  unfold mn; split <;> omega

set_option maxHeartbeats 400000 in
theorem impl_digits (n width : Int) (w : World) (h1 : n ≤ 9223372036854775807) (ht : Fmt.Tens w) :
    Calls Tryd.prog 18 #[.int .i64 n, .int .i64 width] w fun e w' => e = .returned (.string ⟨(digs n width).toArray⟩) ∧ Below w.heap.size w w' := by
  obtain ⟨b0, b1⟩ := mx_bd h1
  have hl := Fmt.itoa_len (n := mx n) (by omega) b1
  obtain ⟨hm1, hm2, hm3⟩ := mn_bd width
  have HL := Lib.hid hl.2
  have HM := Lib.hid hm3
  clear hl hm3
  go_enter Tryd.func18, Tryd.ntmps18
  go_wp2_with (first | (go_at_call 33; refine (impl_max0 n _).mono ?_; rintro e w' ⟨rfl, rfl⟩) | (go_at_call 34; refine (impl_min20 width _).mono ?_; rintro e w' ⟨rfl, rfl⟩) | (go_at_call 32; refine (Fmt.impl_fmt (mx n) (by omega) b1 _ ht).mono ?_; rintro e w1 ⟨rfl, hb1⟩))
  go_loop [5] (fun s => ∃ l : List UInt8, s = .string ⟨l.toArray⟩ ∧ l.length ≤ 20 ∧ zpad l (mn width).toNat = digs n width) (fun s => 20 - strLen s)
  case atStart => exact ⟨_, rfl, HL.out, rfl⟩
  case round =>
    obtain ⟨l, rfl, hll, hz⟩ := hrel
    have HZ := Lib.hid hz
    clear hz
    have hadd := Fmt.addone 48 l (by omega)
    by_cases ha : (l.length : Int) < mn width
    · have HS := Lib.hid ((zpad_step (l := l) (k := (mn width).toNat) (by omega)).trans HZ.out)
      go_wp2
      go_round
      case rel => exact ⟨48 :: l, rfl, by simp; omega, HS.out⟩
      case measure => simp [strLen, ByteArray.size]; omega
    · have HE := Lib.hid ((zpad_done (l := l) (k := (mn width).toNat) (by omega)).symm.trans HZ.out)
      go_wp2
      go_ret
      exact ⟨Fmt.ret_str HE.out, hb1⟩
end Go.Proofs.YtilephkbcikfbaaDoor.Dig

/-
  CONTRACT of the program's partsOf: the parts of a time as the forms write them; nothing that was there before is changed.
-/
namespace Go.Proofs.YtilephkbcikfbaaDoor.Dt
open Go Go.RowKit
set_option linter.unusedVariables false
set_option maxRecDepth 1000000

def pv (t y m d : Int) : Value := .agg #[.string ⟨(dnm (wkd (t / 86400))).toArray⟩, .int .i64 d, .string ⟨(mnm (m - 1).toNat).toArray⟩, .int .i64 y, .string ⟨(clk (t % 86400)).toArray⟩]
def Parts (t : Int) (w : World) (e : Ending) (w' : World) : Prop := ∃ y m d : Int, CV (t / 86400) y m d ∧ e = .returned (pv t y m d) ∧ Below w.heap.size w w'
theorem kept5 {w w1 : World} {T : TypeId} {a b c d e : Value} (hb : Below (w.alloc (.cells #[a, b, c, d, e] T)).heap.size (w.alloc (.cells #[a, b, c, d, e] T)) w1) :
    (w1.cell? ⟨w.heap.size, 0, none⟩ = some a ∧ w1.cell? ⟨w.heap.size, 1, none⟩ = some b ∧ w1.cell? ⟨w.heap.size, 2, none⟩ = some c ∧ w1.cell? ⟨w.heap.size, 3, none⟩ = some d ∧ w1.cell? ⟨w.heap.size, 4, none⟩ = some e) ∧ ∀ j, w1.frozen? ⟨w.heap.size, j, none⟩ = false := by
  refine ⟨⟨?_, ?_, ?_, ?_, ?_⟩, fun j => ?_⟩
  · rw [hb.cell (p := ⟨w.heap.size, 0, none⟩) (by simp), World.cell?_alloc_new]; rfl
  · rw [hb.cell (p := ⟨w.heap.size, 1, none⟩) (by simp), World.cell?_alloc_new]; rfl
  · rw [hb.cell (p := ⟨w.heap.size, 2, none⟩) (by simp), World.cell?_alloc_new]; rfl
  · rw [hb.cell (p := ⟨w.heap.size, 3, none⟩) (by simp), World.cell?_alloc_new]; rfl
  · rw [hb.cell (p := ⟨w.heap.size, 4, none⟩) (by simp), World.cell?_alloc_new]; rfl
  · rw [hb.frozen (p := ⟨w.heap.size, j, none⟩) (by simp)]; simp [go_sem]

set_option maxRecDepth 1000000 in
set_option maxHeartbeats 4000000 in
theorem impl_parts (t : Int) (w : World) (h0 : 0 ≤ t) (h1 : t ≤ 4102444799) (ht : Mds w) (hn : Names w) (hten : Fmt.Tens w) :
    Calls Tryd.prog 17 #[.int .i64 t] w (Parts t w) := by
  have hd0 : 0 ≤ t / 86400 := by omega
  have hd1 : t / 86400 ≤ 47481 := by omega
  have hs0 : 0 ≤ t % 86400 := by omega
  have hs1 : t % 86400 ≤ 86399 := by omega
  have HZ : Hid (Below w.heap.size w (w.alloc (.cells #[.string ⟨#[]⟩, .int .i64 0, .string ⟨#[]⟩, .int .i64 0, .string ⟨#[]⟩] 39))) := Lib.hid ((Below.refl _ _).alloc (Nat.le_refl _) _)
  have HCV := Lib.hid (fun W (h : Mds W) => impl_civ (t / 86400) W hd0 hd1 h)
  have HM := Lib.hid ht
  have HN := Lib.hid hn
  have HT := Lib.hid hten
  have HWK := Lib.hid (fun W => impl_week (t / 86400) W (Go.WalkArith.wf_i64 ⟨by omega, by omega⟩))
  have HWC := Lib.hid (wkd_cast (t / 86400))
  have HWL := Lib.hid (wkd_lt (t / 86400))
  unfold Parts pv
  have hq1 : (t % 86400) / 3600 ≤ 23 := by omega
  have hq2 : t % 86400 % 3600 / 60 ≤ 59 := by omega
  have hq3 : t % 86400 % 60 ≤ 59 := by omega
  have HG := Lib.hid (fun (n : Int) (h : n ≤ 9223372036854775807) W (h' : Fmt.Tens W) => Dig.impl_digits n 2 W h h')
  have HCK : Hid (clk (t % 86400) = Dig.digs (t % 86400 / 3600) 2 ++ [58] ++ Dig.digs (t % 3600 / 60) 2 ++ [58] ++ Dig.digs (t % 60) 2) := Lib.hid (by unfold clk; rw [show t % 86400 % 3600 / 60 = t % 3600 / 60 by omega, show t % 86400 % 60 = t % 60 by omega])
  have l1 := dg2 (n := t % 86400 / 3600) (by omega) 2
  have l2 := dg2 (n := t % 3600 / 60) (by omega) 2
  have l3 := dg2 (n := t % 60) (by omega) 2
  rw [HCK.out]
  clear ht hn hten
  have HG1 := Lib.hid (HG.out (t % 86400 / 3600) (by omega))
  have HG2 := Lib.hid (HG.out (t % 3600 / 60) (by omega))
  have HG3 := Lib.hid (HG.out (t % 60) (by omega))
  generalize Dig.digs (t % 86400 / 3600) 2 = x1 at HG1 l1 ⊢
  generalize Dig.digs (t % 3600 / 60) 2 = x2 at HG2 l2 ⊢
  generalize Dig.digs (t % 60) 2 = x3 at HG3 l3 ⊢
  have a1 := Tx.addtwo x1 [58] (by simp only [List.length_cons, List.length_nil]; omega)
  have a2 := Tx.addtwo (x1 ++ [58]) x2 (by simp only [List.length_append, List.length_cons, List.length_nil]; omega)
  have a3 := Tx.addtwo (x1 ++ [58] ++ x2) [58] (by simp only [List.length_append, List.length_cons, List.length_nil]; omega)
  have a4 := Tx.addtwo (x1 ++ [58] ++ x2 ++ [58]) x3 (by simp only [List.length_append, List.length_cons, List.length_nil]; omega)
  generalize x1 ++ [58] = y1 at a1 a2 a3 a4 ⊢
  generalize y1 ++ x2 = y2 at a2 a3 a4 ⊢
  generalize y2 ++ [58] = y3 at a3 a4 ⊢
  generalize y3 ++ x3 = y4 at a4 ⊢
  clear l1 l2 l3 HCK HG
  generalize wkd (t / 86400) = k at HWC HWL ⊢
  go_enter Tryd.func17, Tryd.ntmps17
  go_wp2_with (fail)
  go_at_call 9
  refine (HCV.out _ (mds_below HM.out HZ.out)).mono ?_
  rintro e w1 ⟨y, m, d, hcv, rfl, hb1⟩
  have HB := Lib.hid hb1
  have HT1 := Lib.hid (Fmt.tens_below HT.out (HZ.out.trans (hb1.mono (by simp))))
  have HCVV := Lib.hid hcv
  clear hb1 hcv
  go_wp2_with (fail)
  go_at_call 18
  refine (HG1.out _ HT1.out).mono ?_
  rintro e w2 ⟨rfl, hb2⟩
  have HB := Lib.hid (HB.out.trans (hb2.mono HB.out.size))
  have HT2 := Lib.hid (Fmt.tens_below HT1.out hb2)
  clear hb2
  go_wp2_with (fail)
  go_at_call 18
  refine (HG2.out _ HT2.out).mono ?_
  rintro e w3 ⟨rfl, hb3⟩
  have HB := Lib.hid (HB.out.trans (hb3.mono HB.out.size))
  have HT3 := Lib.hid (Fmt.tens_below HT2.out hb3)
  clear hb3
  go_wp2_with (fail)
  go_at_call 18
  refine (HG3.out _ HT3.out).mono ?_
  rintro e w4 ⟨rfl, hb4⟩
  have HB := Lib.hid (HB.out.trans (hb4.mono HB.out.size))
  clear hb4
  have HBW := Lib.hid (HZ.out.trans (HB.out.mono (by simp)))
  have HNN := Lib.hid (names_below HN.out HBW.out)
  obtain ⟨⟨q0, q1, q2, q3, q4⟩, qf⟩ := kept5 HB.out
  have f0 := qf 0
  have f1 := qf 1
  have f2 := qf 2
  have f3 := qf 3
  have f4 := qf 4
  have hmm : 1 ≤ m ∧ m ≤ 12 := ⟨HCVV.out.2.2.1, HCVV.out.2.2.2.1⟩
  obtain ⟨hm1, hm2⟩ := hmm
  obtain ⟨j, rfl⟩ : ∃ j : Nat, m = (j : Int) + 1 := ⟨(m - 1).toNat, by omega⟩
  have hj : (j : Int) < 12 := by omega
  have hw1 : IntKind.i64.wrap (j : Int) = (j : Int) := IntWalk.i64_in _ (by omega)
  have n0 : w4.drew.cell? ⟨0, k, none⟩ = some (.string ⟨(dnm k).toArray⟩) := day_cell HNN.out HWL.out
  have n1 : w4.drew.cell? ⟨1, j, none⟩ = some (.string ⟨(mnm j).toArray⟩) := mon_cell HNN.out (by omega)
  have hk0 : (k : Int) < 7 := by have := HWL.out; omega
  have hkt : ((t / 86400) % 7 + 4) % 7 = (k : Int) := HWC.out.symm
  have HWK2 := Lib.hid HWK.out
  rw [hkt] at HWK2
  clear hkt qf
  generalize hdn : dnm k = dn at n0
  have HDN := Lib.hid hdn
  clear hdn
  generalize hmn : mnm j = mn at n1
  have HMN := Lib.hid hmn
  clear hmn
  go_wp2
  go_region_with (go_at_call 12; refine (HWK2.out _).mono ?_; rintro e w5 ⟨rfl, rfl⟩)
  all_goals go_wp2
  all_goals refine bodyPost_ret (v := .agg #[.string ⟨dn.toArray⟩, .int .i64 d, .string ⟨mn.toArray⟩, .int .i64 y, .string ⟨y4.toArray⟩]) (by simp [results, Tryd.results17, go_sem, q0, q1, q2, q3, q4]) rfl ?_
  all_goals refine ⟨y, (j : Int) + 1, d, HCVV.out, ?_, Rec.below_drew (((((HBW.out.setCell (Nat.le_refl _) _).setCell (Nat.le_refl _) _).setCell (Nat.le_refl _) _).setCell (Nat.le_refl _) _).setCell (Nat.le_refl _) _)⟩
  all_goals rw [HDN.out, show ((j : Int) + 1 - 1).toNat = j by omega, HMN.out]
end Go.Proofs.YtilephkbcikfbaaDoor.Dt

/-
  CONTRACT of the program's FormatDate; nothing that was there before is changed.
-/
namespace Go.Proofs.YtilephkbcikfbaaDoor.Dt
open Go Go.RowKit
set_option linter.unusedVariables false
set_option maxRecDepth 1000000

def Dated (t : Int) (w : World) (e : Ending) (w' : World) : Prop := ∃ y m d : Int, CV (t / 86400) y m d ∧ e = .returned (.string ⟨(form1 t y m d).toArray⟩) ∧ Below w.heap.size w w'
/-- The class of worlds in which the text is put together. -/
def DateS (w wr : World) (a c e : List UInt8) (b d : Int) (w' : World) : Prop := (w'.cell? ⟨wr.heap.size, 0, none⟩ = some (.string ⟨a.toArray⟩) ∧ w'.cell? ⟨wr.heap.size, 1, none⟩ = some (.int .i64 b) ∧ w'.cell? ⟨wr.heap.size, 2, none⟩ = some (.string ⟨c.toArray⟩) ∧ w'.cell? ⟨wr.heap.size, 3, none⟩ = some (.int .i64 d) ∧ w'.cell? ⟨wr.heap.size, 4, none⟩ = some (.string ⟨e.toArray⟩)) ∧ Below w.heap.size w w'
theorem dates_start {w wr : World} {a c e : List UInt8} {b d : Int} (hb : Below w.heap.size w wr) : DateS w wr a c e b d (wr.alloc (.cells #[.string ⟨a.toArray⟩, .int .i64 b, .string ⟨c.toArray⟩, .int .i64 d, .string ⟨e.toArray⟩] 39)).drew := by
  refine ⟨⟨?_, ?_, ?_, ?_, ?_⟩, Rec.below_drew (hb.alloc hb.size _)⟩
  all_goals
    show (wr.alloc _).cell? _ = _
    rw [World.cell?_alloc_new]; rfl
theorem dates_call {w wr w0 w1 : World} {a c e : List UInt8} {b d : Int} (h : DateS w wr a c e b d w0) (hb : Below w0.heap.size w0 w1) : DateS w wr a c e b d w1 := by
  obtain ⟨⟨h0, h1, h2, h3, h4⟩, hB⟩ := h
  have hl := Rec.lt_of_cell h0
  exact ⟨⟨(hb.cell (p := ⟨wr.heap.size, 0, none⟩) hl).trans h0, (hb.cell (p := ⟨wr.heap.size, 1, none⟩) hl).trans h1, (hb.cell (p := ⟨wr.heap.size, 2, none⟩) hl).trans h2, (hb.cell (p := ⟨wr.heap.size, 3, none⟩) hl).trans h3, (hb.cell (p := ⟨wr.heap.size, 4, none⟩) hl).trans h4⟩, Base.then_below hB hb⟩
theorem cut3 (l : List UInt8) : (⟨l.toArray⟩ : ByteArray).extract 0 3 = ⟨(l.take 3).toArray⟩ := by rw [Tx.ext_eq]; simp

theorem impl_date_out (t : Int) (w : World) (h : t < 0 ∨ 4102444799 < t) : Calls Tryd.prog 6 #[.int .i64 t] w fun e w' => e = .returned (.string ⟨#[]⟩) ∧ Below w.heap.size w w' := by
  by_cases h0 : t < 0
  · go_enter Tryd.func6, Tryd.ntmps6
    go_wp2
    go_ret
    exact ⟨rfl, Below.refl _ _⟩
  · have h1 : 4102444799 < t := by omega
    go_enter Tryd.func6, Tryd.ntmps6
    go_wp2
    go_ret
    exact ⟨rfl, Below.refl _ _⟩

set_option maxRecDepth 1000000 in
set_option maxHeartbeats 4000000 in
theorem impl_date (t : Int) (w : World) (h0 : 0 ≤ t) (h1 : t ≤ 4102444799) (ht : Mds w) (hn : Names w) (hten : Fmt.Tens w) :
    Calls Tryd.prog 6 #[.int .i64 t] w (Dated t w) := by
  have HP := Lib.hid (impl_parts t w h0 h1 ht hn hten)
  have HT := Lib.hid hten
  have hwl := dnm_len (wkd_lt (t / 86400))
  have hcl := clk_len (s := t % 86400) (by omega) (by omega)
  have HF : Hid (∀ y m d, form1 t y m d = (dnm (wkd (t / 86400))).take 3 ++ [44, 32] ++ Dig.digs d 2 ++ [32] ++ mnm (m - 1).toNat ++ [32] ++ Dig.digs y 4 ++ [32] ++ clk (t % 86400) ++ [32, 71, 77, 84]) := Lib.hid (fun _ _ _ => rfl)
  unfold Parts pv at HP
  generalize dnm (wkd (t / 86400)) = dn at hwl HP HF
  generalize clk (t % 86400) = ck at hcl HP HF
  have HWL := Lib.hid hwl
  have HCL := Lib.hid hcl
  clear ht hn hten hwl hcl
  go_enter Tryd.func6, Tryd.ntmps6
  go_wp2_with (fail)
  go_at_call 17
  refine HP.out.mono ?_
  rintro e w1 ⟨y, m, d, hcv, rfl, hb1⟩
  have HB := Lib.hid hb1
  have HCV := Lib.hid hcv
  have hml := mnm_len (k := (m - 1).toNat) (by have := hcv.2.2.1; have := hcv.2.2.2.1; omega)
  have hyb : y ≤ 2099 := hcv.2.1
  have hdb : d ≤ 9223372036854775807 := by have := hcv.2.2.2.2.2.1; have := dim_bd y m hcv.2.2.1 hcv.2.2.2.1; omega
  have HFF := Lib.hid (HF.out y m d)
  generalize mnm (m - 1).toNat = mn at hml HFF
  have HSD := Lib.hid (dates_start (a := dn) (c := mn) (e := ck) (b := d) (d := y) hb1)
  have SK : Hid (∀ w0 w1' : World, DateS w w1 dn mn ck d y w0 → Below w0.heap.size w0 w1' → DateS w w1 dn mn ck d y w1') := Lib.hid (fun _ _ h hb => dates_call h hb)
  have HG2 : Hid (∀ u : RegS.In (DateS w w1 dn mn ck d y), Calls Tryd.prog 18 #[.int .i64 d, .int .i64 2] u.w fun e w' => e = .returned (.string ⟨(Dig.digs d 2).toArray⟩) ∧ Below u.w.heap.size u.w w') := Lib.hid (fun u => Dig.impl_digits d 2 u.w hdb (Fmt.tens_below HT.out u.h.2))
  have HG4 : Hid (∀ u : RegS.In (DateS w w1 dn mn ck d y), Calls Tryd.prog 18 #[.int .i64 y, .int .i64 4] u.w fun e w' => e = .returned (.string ⟨(Dig.digs y 4).toArray⟩) ∧ Below u.w.heap.size u.w w') := Lib.hid (fun u => Dig.impl_digits y 4 u.w (by omega) (Fmt.tens_below HT.out u.h.2))
  have l2 := dg2 (n := d) hdb 2
  have l4 := dg2 (n := y) (by omega) 4
  generalize Dig.digs d 2 = g2 at HG2 l2 HFF
  generalize Dig.digs y 4 = g4 at HG4 l4 HFF
  have l3 : (dn.take 3).length ≤ 3 := List.length_take_le _ _
  have lc := HCL.out
  have hx3 := cut3 dn
  have hsz3 : (3 : Int) ≤ (dn.length : Int) := by have := HWL.out; omega
  generalize dn.take 3 = d3 at l3 HFF hx3
  have a1 := Tx.addtwo d3 [44, 32] (by simp only [List.length_cons, List.length_nil]; omega)
  have a2 := Tx.addtwo (d3 ++ [44, 32]) g2 (by simp only [List.length_append, List.length_cons, List.length_nil]; omega)
  have a3 := Tx.addtwo (d3 ++ [44, 32] ++ g2) [32] (by simp only [List.length_append, List.length_cons, List.length_nil]; omega)
  have a4 := Tx.addtwo (d3 ++ [44, 32] ++ g2 ++ [32]) mn (by simp only [List.length_append, List.length_cons, List.length_nil]; omega)
  have a5 := Tx.addtwo (d3 ++ [44, 32] ++ g2 ++ [32] ++ mn) [32] (by simp only [List.length_append, List.length_cons, List.length_nil]; omega)
  have a6 := Tx.addtwo (d3 ++ [44, 32] ++ g2 ++ [32] ++ mn ++ [32]) g4 (by simp only [List.length_append, List.length_cons, List.length_nil]; omega)
  have a7 := Tx.addtwo (d3 ++ [44, 32] ++ g2 ++ [32] ++ mn ++ [32] ++ g4) [32] (by simp only [List.length_append, List.length_cons, List.length_nil]; omega)
  have a8 := Tx.addtwo (d3 ++ [44, 32] ++ g2 ++ [32] ++ mn ++ [32] ++ g4 ++ [32]) ck (by simp only [List.length_append, List.length_cons, List.length_nil]; omega)
  have a9 := Tx.addtwo (d3 ++ [44, 32] ++ g2 ++ [32] ++ mn ++ [32] ++ g4 ++ [32] ++ ck) [32, 71, 77, 84] (by simp only [List.length_append, List.length_cons, List.length_nil]; omega)
  generalize d3 ++ [44, 32] = y1 at *
  generalize y1 ++ g2 = y2 at *
  generalize y2 ++ [32] = y3 at *
  generalize y3 ++ mn = y4 at *
  generalize y4 ++ [32] = y5 at *
  generalize y5 ++ g4 = y6 at *
  generalize y6 ++ [32] = y7 at *
  generalize y7 ++ ck = y8 at *
  generalize y8 ++ [32, 71, 77, 84] = y9 at *
  have f0 : ∀ u : RegS.In (DateS w w1 dn mn ck d y), u.w.cell? ⟨w1.heap.size, 0, none⟩ = some (.string ⟨dn.toArray⟩) := fun u => u.h.1.1
  have f1 : ∀ u : RegS.In (DateS w w1 dn mn ck d y), u.w.cell? ⟨w1.heap.size, 1, none⟩ = some (.int .i64 d) := fun u => u.h.1.2.1
  have f2 : ∀ u : RegS.In (DateS w w1 dn mn ck d y), u.w.cell? ⟨w1.heap.size, 2, none⟩ = some (.string ⟨mn.toArray⟩) := fun u => u.h.1.2.2.1
  have f3 : ∀ u : RegS.In (DateS w w1 dn mn ck d y), u.w.cell? ⟨w1.heap.size, 3, none⟩ = some (.int .i64 y) := fun u => u.h.1.2.2.2.1
  have f4 : ∀ u : RegS.In (DateS w w1 dn mn ck d y), u.w.cell? ⟨w1.heap.size, 4, none⟩ = some (.string ⟨ck.toArray⟩) := fun u => u.h.1.2.2.2.2
  clear hb1 hcv l2 l4 l3 lc hml hyb hdb
  go_wp2
  refine RegS.region (DateS w w1 dn mn ck d y) (by kernel_rfl) (by kernel_rfl) HSD.out ?_
  haveI : Nonempty (RegS.In (DateS w w1 dn mn ck d y)) := ⟨⟨_, HSD.out⟩⟩
  repeat (first | go_big_quiet_step ((first | (go_at_call 18; with_reducible exact RegS.call (HG2.out _) (fun e w' he => ⟨he.1, SK.out _ _ (RegS.In.h _) he.2⟩)) | (go_at_call 18; with_reducible exact RegS.call (HG4.out _) (fun e w' he => ⟨he.1, SK.out _ _ (RegS.In.h _) he.2⟩)))) | quiet_step (fail))
  refine wpQuiet_nil ?_
  intro _ hw'
  obtain ⟨⟨wz, hS⟩, hw''⟩ := hw'
  subst hw''
  have HBB := Lib.hid hS.2
  clear hS
  go_wp2
  go_ret
  exact ⟨y, m, d, HCV.out, congrArg (fun z : List UInt8 => Ending.returned (.string ⟨z.toArray⟩)) HFF.out.symm, HBB.out⟩
end Go.Proofs.YtilephkbcikfbaaDoor.Dt

/-
  THE ELEMENT OF AN ARRAY OF TWELVE TEXTS BY VALUE.
-/
namespace Go.Proofs.YtilephkbcikfbaaDoor.Dt
open Go Go.RowKit
set_option linter.unusedVariables false
set_option maxRecDepth 1000000
def twelve (f : Nat → List UInt8) : Value := .agg #[.string ⟨(f 0).toArray⟩, .string ⟨(f 1).toArray⟩, .string ⟨(f 2).toArray⟩, .string ⟨(f 3).toArray⟩, .string ⟨(f 4).toArray⟩, .string ⟨(f 5).toArray⟩, .string ⟨(f 6).toArray⟩, .string ⟨(f 7).toArray⟩, .string ⟨(f 8).toArray⟩, .string ⟨(f 9).toArray⟩, .string ⟨(f 10).toArray⟩, .string ⟨(f 11).toArray⟩]
theorem idx12 (f : Nat → List UInt8) (k : Nat) (h : k < 12) (W : World) : (Instr.index 53 (twelve f) (.int .i64 (k : Int))).run Tryd.prog W = .ok (.string ⟨(f k).toArray⟩) W := by
  have hu := Tryd.underlying53
  have hkc : k = 0 ∨ k = 1 ∨ k = 2 ∨ k = 3 ∨ k = 4 ∨ k = 5 ∨ k = 6 ∨ k = 7 ∨ k = 8 ∨ k = 9 ∨ k = 10 ∨ k = 11 := by omega
  have hi : Tryd.prog.info? 9 = some _ := rfl
  rcases hkc with rfl | rfl | rfl | rfl | rfl | rfl | rfl | rfl | rfl | rfl | rfl | rfl
  all_goals simp [twelve, Instr.index, asIntOf, run_underlying hu, go_sem]
end Go.Proofs.YtilephkbcikfbaaDoor.Dt
