/-
  CONTRACTS of FormatContentRange, the model's and the program's; nothing that was there before is changed.
-/
import Derived.Test.YtfkncobgnlobiaaDoorFmtSpec
import Derived.Test.YtfkncobgnlobiaaDoorFmtImpl
import Derived.Test.YtfkncobgnlobiaaDoorJoinM
import Derived.Test.YtfkncobgnlobiaaDoorRegS
import Derived.Test.YtfkncobgnlobiaaDoorRec
import Derived.Test.YtfkncobgnlobiaaDoorKept
import Derived.LoopTactic
import Derived.Outline
namespace Go.Proofs.YtfkncobgnlobiaaDoor.Crf
open Go Go.RowKit
set_option linter.unusedVariables false

abbrev In64 (n : Int) : Prop := -9223372036854775808 ≤ n ∧ n ≤ 9223372036854775807
def crf (p q n : Int) : List UInt8 := if p < q then [98, 121, 116, 101, 115, 32] ++ Lib.itoa p ++ [45] ++ Lib.itoa (q - 1) ++ [47] ++ Lib.itoa n else [98, 121, 116, 101, 115, 32, 42, 47] ++ Lib.itoa n
theorem crf_yes {p q n : Int} (h : p < q) : crf p q n = [98, 121, 116, 101, 115, 32] ++ Lib.itoa p ++ [45] ++ Lib.itoa (q - 1) ++ [47] ++ Lib.itoa n := by unfold crf; rw [if_pos h]
theorem crf_no {p q n : Int} (h : ¬ p < q) : crf p q n = [98, 121, 116, 101, 115, 32, 42, 47] ++ Lib.itoa n := by unfold crf; rw [if_neg h]
def TxtEnd (t : List UInt8) (w : World) (e : Ending) (w' : World) : Prop := e = .returned (.string ⟨t.toArray⟩) ∧ Below w.heap.size w w'
theorem ret_txt {a b : List UInt8} (h : a = b) : Ending.returned (.string ⟨a.toArray⟩) = .returned (.string ⟨b.toArray⟩) := by rw [h]
theorem il {n : Int} (h : In64 n) : (Lib.itoa n).length ≤ 20 := (Fmt.itoa_len h.1 h.2).2
/-- The class of worlds: the span's own block, and all that is old. -/
def CrS (w : World) (p q : Int) (u : World) : Prop := (u.cell? ⟨w.heap.size, 0, none⟩ = some (.int .i64 p) ∧ u.cell? ⟨w.heap.size, 1, none⟩ = some (.int .i64 q)) ∧ Below w.heap.size w u
theorem crs_call {w u u' : World} {p q : Int} (h : CrS w p q u) (hb : Below u.heap.size u u') : CrS w p q u' :=
  ⟨⟨(hb.cell (p := ⟨w.heap.size, 0, none⟩) (Rec.lt_of_cell h.1.1)).trans h.1.1, (hb.cell (p := ⟨w.heap.size, 1, none⟩) (Rec.lt_of_cell h.1.2)).trans h.1.2⟩, Base.then_below h.2 hb⟩
theorem crs_drew {w u : World} {p q : Int} (h : CrS w p q u) : CrS w p q u.drew := ⟨h.1, Rec.below_drew h.2⟩
theorem crs_start (w : World) (p q : Int) (T : TypeId) : CrS w p q (w.alloc (.cells #[.int .i64 p, .int .i64 q] T)) :=
  ⟨⟨by rw [World.cell?_alloc_new]; rfl, by rw [World.cell?_alloc_new]; rfl⟩, (Below.refl _ _).alloc (Nat.le_refl _) _⟩

set_option maxHeartbeats 2000000 in
theorem spec_crf (p q n : Int) (w : World) (hp : In64 p) (hq : In64 q) (hn : In64 n) :
    Calls Tryd.prog 19 #[.agg #[.int .i64 p, .int .i64 q], .int .i64 n] w (TxtEnd (crf p q n) w) := by
  have HS := Lib.hid (crs_start w p q 38)
  unfold TxtEnd
  by_cases h : p < q
  case neg =>
    have HE := Lib.hid (crf_no (n := n) h)
    have HN := Lib.hid (fun W => Fmt.spec_fmt n hn.1 hn.2 W)
    have l1 := il hn
    generalize Lib.itoa n = s at HE HN l1
    have a1 := Tx.addtwo [98, 121, 116, 101, 115, 32, 42, 47] s (by simp only [List.length_cons, List.length_nil]; omega)
    generalize [98, 121, 116, 101, 115, 32, 42, 47] ++ s = t at HE a1
    have hg : q ≤ p := by omega
    clear hp hq hn l1 h
    go_enter Tryd.func19, Tryd.ntmps19
    go_wp2_with (fail)
    go_at_call 28
    refine (HN.out _).mono ?_
    rintro e w1 ⟨rfl, hb1⟩
    have HB := Lib.hid (Base.then_below HS.out.2 hb1)
    clear hb1
    go_wp2
    go_ret
    exact ⟨ret_txt HE.out.symm, HB.out⟩
  have HE := Lib.hid (crf_yes (n := n) h)
  have HG1 := Lib.hid (fun W => Fmt.spec_fmt p hp.1 hp.2 W)
  have hq1 : In64 (q - 1) := by have := hp.1; have := hq.2; constructor <;> omega
  have HG2 := Lib.hid (fun W => Fmt.spec_fmt (q - 1) hq1.1 hq1.2 W)
  have HG3 := Lib.hid (fun W => Fmt.spec_fmt n hn.1 hn.2 W)
  have l1 := il hp
  have l2 := il hq1
  have l3 := il hn
  generalize Lib.itoa p = s1 at HE HG1 l1
  generalize Lib.itoa (q - 1) = s2 at HE HG2 l2
  generalize Lib.itoa n = s3 at HE HG3 l3
  have a1 := Tx.addtwo [98, 121, 116, 101, 115, 32] s1 (by simp only [List.length_cons, List.length_nil]; omega)
  have a2 := Tx.addtwo ([98, 121, 116, 101, 115, 32] ++ s1) [45] (by simp only [List.length_append, List.length_cons, List.length_nil]; omega)
  have a3 := Tx.addtwo ([98, 121, 116, 101, 115, 32] ++ s1 ++ [45]) s2 (by simp only [List.length_append, List.length_cons, List.length_nil]; omega)
  have a4 := Tx.addtwo ([98, 121, 116, 101, 115, 32] ++ s1 ++ [45] ++ s2) [47] (by simp only [List.length_append, List.length_cons, List.length_nil]; omega)
  have a5 := Tx.addtwo ([98, 121, 116, 101, 115, 32] ++ s1 ++ [45] ++ s2 ++ [47]) s3 (by simp only [List.length_append, List.length_cons, List.length_nil]; omega)
  generalize [98, 121, 116, 101, 115, 32] ++ s1 = t1 at *
  generalize t1 ++ [45] = t2 at *
  generalize t2 ++ s2 = t3 at *
  generalize t3 ++ [47] = t4 at *
  generalize t4 ++ s3 = t5 at *
  have hg : ¬ q ≤ p := by omega
  have HSD := Lib.hid (crs_drew HS.out)
  have SK : Hid (∀ w0 w1 : World, CrS w p q w0 → Below w0.heap.size w0 w1 → CrS w p q w1) := Lib.hid (fun _ _ h hb => crs_call h hb)
  have f0 : ∀ u : RegS.In (CrS w p q), u.w.cell? ⟨w.heap.size, 0, none⟩ = some (.int .i64 p) := fun u => u.h.1.1
  have f1 : ∀ u : RegS.In (CrS w p q), u.w.cell? ⟨w.heap.size, 1, none⟩ = some (.int .i64 q) := fun u => u.h.1.2
  clear l1 l2 l3 hn h
  go_enter Tryd.func19, Tryd.ntmps19
  go_wp2
  refine RegS.region (CrS w p q) (by kernel_rfl) (by kernel_rfl) HSD.out ?_
  haveI : Nonempty (RegS.In (CrS w p q)) := ⟨⟨_, HSD.out⟩⟩
  repeat (first | go_big_quiet_step ((first | (go_at_call 28; with_reducible exact RegS.call (HG1.out _) (fun e w' he => ⟨he.1, SK.out _ _ (RegS.In.h _) he.2⟩)) | (go_at_call 28; with_reducible exact RegS.call (HG2.out _) (fun e w' he => ⟨he.1, SK.out _ _ (RegS.In.h _) he.2⟩)) | (go_at_call 28; with_reducible exact RegS.call (HG3.out _) (fun e w' he => ⟨he.1, SK.out _ _ (RegS.In.h _) he.2⟩)))) | quiet_step (fail))
  refine wpQuiet_nil ?_
  intro wz hw'
  obtain ⟨⟨wq, hS⟩, hw''⟩ := hw'
  subst hw''
  have HBB := Lib.hid hS.2
  clear hS
  go_wp2
  go_ret
  exact ⟨ret_txt HE.out.symm, HBB.out⟩

theorem has_bytes (a b : Int) (w : World) : Calls Tryd.prog 38 #[.agg #[.int .i64 a, .int .i64 b]] w fun e w' => e = .returned (.bool (decide (a < b))) ∧ Below w.heap.size w w' := by
  go_enter Tryd.func38, Tryd.ntmps38
  go_wp2
  go_ret
  exact ⟨rfl, (Below.refl _ _).alloc (Nat.le_refl _) _⟩

set_option maxHeartbeats 2000000 in
theorem impl_crf (p q n : Int) (w : World) (hp : In64 p) (hq : In64 q) (hn : In64 n) (ht : Fmt.Tens w) :
    Calls Tryd.prog 21 #[.agg #[.int .i64 p, .int .i64 q], .int .i64 n] w (TxtEnd (crf p q n) w) := by
  have HS := Lib.hid (crs_start w p q 38)
  have HH := Lib.hid (fun W => has_bytes p q W)
  have HT : Hid (∀ u, CrS w p q u → Fmt.Tens u) := Lib.hid (fun u h => Fmt.tens_below ht h.2)
  unfold TxtEnd
  by_cases h : p < q
  case neg =>
    have HE := Lib.hid (crf_no (n := n) h)
    have HN := Lib.hid (fun W (hW : Fmt.Tens W) => Fmt.impl_fmt n hn.1 hn.2 W hW)
    have l1 := il hn
    generalize Lib.itoa n = s at HE HN l1
    have a1 := Tx.addtwo [98, 121, 116, 101, 115, 32, 42, 47] s (by simp only [List.length_cons, List.length_nil]; omega)
    generalize [98, 121, 116, 101, 115, 32, 42, 47] ++ s = t at HE a1
    have hd : decide (p < q) = false := by simpa using h
    rw [hd] at HH
    clear hp hq hn l1 h hd ht
    go_enter Tryd.func21, Tryd.ntmps21
    go_wp2_with (fail)
    go_at_call 38
    refine (HH.out _).mono ?_
    rintro e w0 ⟨rfl, hb0⟩
    have HS0 := Lib.hid (crs_call HS.out hb0)
    clear hb0
    go_wp2_with (fail)
    go_at_call 39
    refine (HN.out _ (HT.out _ HS0.out)).mono ?_
    rintro e w1 ⟨rfl, hb1⟩
    have HB := Lib.hid (Base.then_below HS0.out.2 hb1)
    clear hb1
    go_wp2
    go_ret
    exact ⟨ret_txt HE.out.symm, HB.out⟩
  have HE := Lib.hid (crf_yes (n := n) h)
  have HG1 : Hid (∀ u : RegS.In (CrS w p q), Calls Tryd.prog 39 #[.int .i64 p] u.w fun e w' => e = .returned (.string ⟨(Lib.itoa p).toArray⟩) ∧ Below u.w.heap.size u.w w') := Lib.hid (fun u => Fmt.impl_fmt p hp.1 hp.2 u.w (HT.out _ u.h))
  have hq1 : In64 (q - 1) := by have := hp.1; have := hq.2; constructor <;> omega
  have HG2 : Hid (∀ u : RegS.In (CrS w p q), Calls Tryd.prog 39 #[.int .i64 (q - 1)] u.w fun e w' => e = .returned (.string ⟨(Lib.itoa (q - 1)).toArray⟩) ∧ Below u.w.heap.size u.w w') := Lib.hid (fun u => Fmt.impl_fmt (q - 1) hq1.1 hq1.2 u.w (HT.out _ u.h))
  have HG3 : Hid (∀ u : RegS.In (CrS w p q), Calls Tryd.prog 39 #[.int .i64 n] u.w fun e w' => e = .returned (.string ⟨(Lib.itoa n).toArray⟩) ∧ Below u.w.heap.size u.w w') := Lib.hid (fun u => Fmt.impl_fmt n hn.1 hn.2 u.w (HT.out _ u.h))
  have l1 := il hp
  have l2 := il hq1
  have l3 := il hn
  generalize Lib.itoa p = s1 at HE HG1 l1
  generalize Lib.itoa (q - 1) = s2 at HE HG2 l2
  generalize Lib.itoa n = s3 at HE HG3 l3
  have a1 := Tx.addtwo [98, 121, 116, 101, 115, 32] s1 (by simp only [List.length_cons, List.length_nil]; omega)
  have a2 := Tx.addtwo ([98, 121, 116, 101, 115, 32] ++ s1) [45] (by simp only [List.length_append, List.length_cons, List.length_nil]; omega)
  have a3 := Tx.addtwo ([98, 121, 116, 101, 115, 32] ++ s1 ++ [45]) s2 (by simp only [List.length_append, List.length_cons, List.length_nil]; omega)
  have a4 := Tx.addtwo ([98, 121, 116, 101, 115, 32] ++ s1 ++ [45] ++ s2) [47] (by simp only [List.length_append, List.length_cons, List.length_nil]; omega)
  have a5 := Tx.addtwo ([98, 121, 116, 101, 115, 32] ++ s1 ++ [45] ++ s2 ++ [47]) s3 (by simp only [List.length_append, List.length_cons, List.length_nil]; omega)
  generalize [98, 121, 116, 101, 115, 32] ++ s1 = t1 at *
  generalize t1 ++ [45] = t2 at *
  generalize t2 ++ s2 = t3 at *
  generalize t3 ++ [47] = t4 at *
  generalize t4 ++ s3 = t5 at *
  have hd : decide (p < q) = true := by simpa using h
  rw [hd] at HH
  have SK : Hid (∀ w0 w1 : World, CrS w p q w0 → Below w0.heap.size w0 w1 → CrS w p q w1) := Lib.hid (fun _ _ h hb => crs_call h hb)
  have f0 : ∀ u : RegS.In (CrS w p q), u.w.cell? ⟨w.heap.size, 0, none⟩ = some (.int .i64 p) := fun u => u.h.1.1
  have f1 : ∀ u : RegS.In (CrS w p q), u.w.cell? ⟨w.heap.size, 1, none⟩ = some (.int .i64 q) := fun u => u.h.1.2
  clear l1 l2 l3 hn h hd ht
  go_enter Tryd.func21, Tryd.ntmps21
  go_wp2_with (fail)
  go_at_call 38
  refine (HH.out _).mono ?_
  rintro e w0 ⟨rfl, hb0⟩
  have HSD := Lib.hid (crs_drew (crs_call HS.out hb0))
  clear hb0
  go_wp2
  refine RegS.region (CrS w p q) (by kernel_rfl) (by kernel_rfl) HSD.out ?_
  haveI : Nonempty (RegS.In (CrS w p q)) := ⟨⟨_, HSD.out⟩⟩
  repeat (first | go_big_quiet_step ((first | (go_at_call 39; with_reducible exact RegS.call (HG1.out _) (fun e w' he => ⟨he.1, SK.out _ _ (RegS.In.h _) he.2⟩)) | (go_at_call 39; with_reducible exact RegS.call (HG2.out _) (fun e w' he => ⟨he.1, SK.out _ _ (RegS.In.h _) he.2⟩)) | (go_at_call 39; with_reducible exact RegS.call (HG3.out _) (fun e w' he => ⟨he.1, SK.out _ _ (RegS.In.h _) he.2⟩)))) | quiet_step (fail))
  refine wpQuiet_nil ?_
  intro wz hw'
  obtain ⟨⟨wq, hS⟩, hw''⟩ := hw'
  subst hw''
  have HBB := Lib.hid hS.2
  clear hS
  go_wp2
  go_ret
  exact ⟨ret_txt HE.out.symm, HBB.out⟩
end Go.Proofs.YtfkncobgnlobiaaDoor.Crf
