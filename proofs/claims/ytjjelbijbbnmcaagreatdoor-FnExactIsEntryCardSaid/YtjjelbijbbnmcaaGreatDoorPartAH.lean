/-
  CONTRACTS AND PLAIN FACTS, several texts in one; each says in its own words what it proves.
-/
import Derived.Test.YtjjelbijbbnmcaaGreatDoorPartAG
import Derived.Test.YtjjelbijbbnmcaaGreatDoorPartQ
import Derived.Deep.RegionHeldLaw
import Derived.Deep.AppendLies
import Derived.Test.YtjjelbijbbnmcaaGreatDoorPartA
import Derived.Test.YtjjelbijbbnmcaaGreatDoorPartC

/-
  CONTRACT of the program's isHead; nothing that was there before is changed.
-/
namespace Go.Proofs.YtjjelbijbbnmcaaGreatDoor.Ent
open Go Go.RowKit
set_option linter.unusedVariables false
set_option maxRecDepth 1000000

/-- The class of worlds in which an answer lies in a block of its own. -/
def HeadS (w : World) (c : Int) (v : Value) (b : List UInt8) (u : World) : Prop := (u.cell? ⟨w.heap.size, 0, none⟩ = some (.int .i64 c) ∧ u.cell? ⟨w.heap.size, 1, none⟩ = some v ∧ u.cell? ⟨w.heap.size, 2, none⟩ = some (.string ⟨b.toArray⟩)) ∧ Hid (Below w.heap.size w u)
theorem heads_call {w u u' : World} {c : Int} {v : Value} {b : List UInt8} (h : HeadS w c v b u) (hb : Below u.heap.size u u') : HeadS w c v b u' := by
  obtain ⟨⟨h0, h1, h2⟩, h3⟩ := h
  have hg := Rec.lt_of_cell h0
  exact ⟨⟨(hb.cell (p := ⟨w.heap.size, 0, none⟩) hg).trans h0, (hb.cell (p := ⟨w.heap.size, 1, none⟩) hg).trans h1, (hb.cell (p := ⟨w.heap.size, 2, none⟩) hg).trans h2⟩, Lib.hid (Base.then_below h3.out hb)⟩

set_option maxHeartbeats 8000000 in
theorem impl_head (c : Int) (v : Value) (B : Nat) (l : List Flds.Fld) (b : List UInt8) (w : World) (h : Flds.Holds w B v l) (hB : B ≤ w.heap.size) (hl : Flds.total l ≤ 1048576) (hbl : b.length ≤ 1048576) (ht : Age.Tabs w) :
    Calls Tryz.prog 24 #[.agg #[.int .i64 c, v, .string ⟨b.toArray⟩]] w (BoolEnd (headOk c l b) w) := by
  have hll : l.length ≤ 1048576 := by unfold Flds.total at hl; omega
  obtain ⟨a, cap, rfl, _⟩ := Flds.shape_any h
  have hb0 : Below w.heap.size w (w.alloc (.cells #[.int .i64 c, .slice a l.length cap, .string ⟨b.toArray⟩] 32)) := (Below.refl _ _).alloc (Nat.le_refl _) _
  have HB0 := Lib.hid hb0
  have HK := Lib.hid (fun W => Msg.kept3 (w := w) (w1 := W) (T := 32) (a := .int .i64 c) (b := .slice a l.length cap) (c := .string ⟨b.toArray⟩))
  have HD := Lib.hid (Age.impl_din _ B l Age.dateN _ (Flds.holds_below h (hb0.mono hB)) (Nat.le_trans hB hb0.size) hl (Age.tabs_below ht hb0))
  have HVB : Hid (∀ u, HeadS w c (.slice a l.length cap) b u → Calls Tryz.prog 49 #[.agg #[.int .i64 c, .slice a l.length cap, .string ⟨b.toArray⟩]] u fun e w' => e = .returned (.bool (Msg.rspOk c l b)) ∧ Below u.heap.size u w') := Lib.hid (fun u hu => Msg.impl_valid_rsp c _ B l b u (Flds.holds_below h (hu.2.out.mono hB)) (Nat.le_trans hB hu.2.out.size) hl hbl)
  have HLF := Lib.hid (fun u (hu : Below w.heap.size w u) => impl_last _ B l u (Flds.holds_below h (hu.mono hB)) hll)
  have SK : Hid (∀ w0 w1 : World, HeadS w c (.slice a l.length cap) b w0 → Below w0.heap.size w0 w1 → HeadS w c (.slice a l.length cap) b w1) := Lib.hid (fun _ _ h hb => heads_call h hb)
  have HO : Hid (headOk c l b = ((decide (c = 200) || (decide (c = 404) || decide (c = 410))) && (Msg.rspOk c l b && (decide (b = []) && ((Age.din Age.dateN l).2 && decide (l = still l)))))) := Lib.hid rfl
  have HSL := Lib.hid (still_len l)
  have HSE := Lib.hid (still_le l)
  unfold Age.PairEnd at HD
  unfold Flds.FilterEnd at HLF
  unfold BoolEnd
  generalize headOk c l b = z at HO ⊢
  generalize Msg.rspOk c l b = vb at HVB HO
  generalize Age.din Age.dateN l = dd at HD HO
  obtain ⟨dt, dk⟩ := dd
  simp only at HD HO
  generalize still l = sl at HLF HSL HSE HO
  unfold Age.dateN at HD
  clear h hb0 hl hbl ht
  go_enter Tryz.func24, Tryz.ntmps24
  go_wp2_with (fail)
  go_at_call 48
  refine HD.out.mono ?_
  rintro e w1 ⟨rfl, hb1⟩
  obtain ⟨⟨x0, x1, x2⟩, hbw⟩ := HK.out _ hb1
  have HB1 := Lib.hid hbw
  have HSD : Hid (HeadS w c (.slice a l.length cap) b w1.drew) := Lib.hid ⟨⟨x0, x1, x2⟩, Lib.hid (Rec.below_drew hbw)⟩
  have f0 : ∀ u : RegS.In (HeadS w c (.slice a l.length cap) b), u.w.cell? ⟨w.heap.size, 0, none⟩ = some (.int .i64 c) := fun u => u.h.1.1
  have f1 : ∀ u : RegS.In (HeadS w c (.slice a l.length cap) b), u.w.cell? ⟨w.heap.size, 1, none⟩ = some (.slice a l.length cap) := fun u => u.h.1.2.1
  have f2 : ∀ u : RegS.In (HeadS w c (.slice a l.length cap) b), u.w.cell? ⟨w.heap.size, 2, none⟩ = some (.string ⟨b.toArray⟩) := fun u => u.h.1.2.2
  clear hb1 hbw
  by_cases hc : c = 200 ∨ c = 404 ∨ c = 410
  case neg =>
    have p1 : (c == 200) = false := by simp; omega
    have p2 : (c == 404) = false := by simp; omega
    have p3 : (c == 410) = false := by simp; omega
    have HF : Hid (z = false) := Lib.hid (by rw [HO.out, decide_eq_false (show ¬ c = 200 by omega), decide_eq_false (show ¬ c = 404 by omega), decide_eq_false (show ¬ c = 410 by omega)]; rfl)
    clear hc HO
    go_wp2
    go_ret
    exact ⟨ret_b HF.out.symm, HB1.out⟩
  have HE : Hid (z = (vb && (decide (b = []) && (dk && decide (l = sl))))) := Lib.hid (by
    rw [HO.out]; rcases hc with e | e | e <;> rw [e] <;> simp)
  clear HO
  rcases hc with rfl | rfl | rfl
  · cases vb with
    | false =>
      have HF : Hid (z = false) := Lib.hid (by rw [HE.out]; rfl)
      go_wp2
      refine RegS.region (HeadS w 200 (.slice a l.length cap) b) (by kernel_rfl) (by kernel_rfl) HSD.out ?_
      haveI : Nonempty (RegS.In (HeadS w 200 (.slice a l.length cap) b)) := ⟨⟨_, HSD.out⟩⟩
      repeat (first | go_big_quiet_step ((go_at_call 49; with_reducible exact RegS.call (HVB.out _ (RegS.In.h _)) (fun e w' he => ⟨he.1, SK.out _ _ (RegS.In.h _) he.2⟩))) | quiet_step ((go_at_call 49; with_reducible exact RegS.call (HVB.out _ (RegS.In.h _)) (fun e w' he => ⟨he.1, SK.out _ _ (RegS.In.h _) he.2⟩))))
      refine wpQuiet_nil ?_
      intro _ hw'
      obtain ⟨⟨wz, hS⟩, hw''⟩ := hw'
      subst hw''
      have HBB := Lib.hid hS.2.out
      clear hS
      go_wp2
      go_ret
      exact ⟨ret_b HF.out.symm, HBB.out⟩
    | true =>
      by_cases hbe : b = []
      case neg =>
        have HF : Hid (z = false) := Lib.hid (by rw [HE.out, decide_eq_false hbe]; rfl)
        have hbq : (b == []) = false := by simpa using hbe
        clear hbe
        go_wp2
        refine RegS.region (HeadS w 200 (.slice a l.length cap) b) (by kernel_rfl) (by kernel_rfl) HSD.out ?_
        haveI : Nonempty (RegS.In (HeadS w 200 (.slice a l.length cap) b)) := ⟨⟨_, HSD.out⟩⟩
        repeat (first | go_big_quiet_step ((go_at_call 49; with_reducible exact RegS.call (HVB.out _ (RegS.In.h _)) (fun e w' he => ⟨he.1, SK.out _ _ (RegS.In.h _) he.2⟩))) | quiet_step ((go_at_call 49; with_reducible exact RegS.call (HVB.out _ (RegS.In.h _)) (fun e w' he => ⟨he.1, SK.out _ _ (RegS.In.h _) he.2⟩))))
        refine wpQuiet_nil ?_
        intro _ hw'
        obtain ⟨⟨wz, hS⟩, hw''⟩ := hw'
        subst hw''
        have HBB := Lib.hid hS.2.out
        clear hS
        go_wp2
        go_ret
        exact ⟨ret_b HF.out.symm, HBB.out⟩
      subst hbe
      cases dk with
      | false =>
        have HF : Hid (z = false) := Lib.hid (by rw [HE.out]; simp)
        go_wp2
        refine RegS.region (HeadS w 200 (.slice a l.length cap) []) (by kernel_rfl) (by kernel_rfl) HSD.out ?_
        haveI : Nonempty (RegS.In (HeadS w 200 (.slice a l.length cap) [])) := ⟨⟨_, HSD.out⟩⟩
        repeat (first | go_big_quiet_step ((go_at_call 49; with_reducible exact RegS.call (HVB.out _ (RegS.In.h _)) (fun e w' he => ⟨he.1, SK.out _ _ (RegS.In.h _) he.2⟩))) | quiet_step ((go_at_call 49; with_reducible exact RegS.call (HVB.out _ (RegS.In.h _)) (fun e w' he => ⟨he.1, SK.out _ _ (RegS.In.h _) he.2⟩))))
        refine wpQuiet_nil ?_
        intro _ hw'
        obtain ⟨⟨wz, hS⟩, hw''⟩ := hw'
        subst hw''
        have HBB := Lib.hid hS.2.out
        clear hS
        go_wp2
        go_ret
        exact ⟨ret_b HF.out.symm, HBB.out⟩
      | true =>
        have HF : Hid (z = decide (l = sl)) := Lib.hid (by rw [HE.out]; simp)
        have hdz : w1.drew.heap.size = w1.heap.size := rfl
        have HSX : Hid (w1.drew.cell? ⟨w.heap.size, 0, none⟩ = some (.int .i64 200) ∧ w1.drew.cell? ⟨w.heap.size, 1, none⟩ = some (.slice a l.length cap) ∧ w1.drew.cell? ⟨w.heap.size, 2, none⟩ = some (.string ⟨#[]⟩) ∧ Hid (Below w.heap.size w w1.drew)) := Lib.hid ⟨HSD.out.1.1, HSD.out.1.2.1, HSD.out.1.2.2, HSD.out.2⟩
        have HBD := Lib.hid HSD.out.2.out
        have SC : Hid (∀ u u' : World, u.cell? ⟨w.heap.size, 0, none⟩ = some (.int .i64 200) → u.cell? ⟨w.heap.size, 1, none⟩ = some (.slice a l.length cap) → u.cell? ⟨w.heap.size, 2, none⟩ = some (.string ⟨#[]⟩) → Hid (Below w.heap.size w u) → Below u.heap.size u u' → (u'.cell? ⟨w.heap.size, 0, none⟩ = some (.int .i64 200) ∧ u'.cell? ⟨w.heap.size, 1, none⟩ = some (.slice a l.length cap) ∧ u'.cell? ⟨w.heap.size, 2, none⟩ = some (.string ⟨#[]⟩) ∧ Hid (Below w.heap.size w u'))) := Lib.hid (fun u u' h0 h1 h2 h3 hb => by
          have hg := Rec.lt_of_cell h0
          exact ⟨(hb.cell (p := ⟨w.heap.size, 0, none⟩) hg).trans h0, (hb.cell (p := ⟨w.heap.size, 1, none⟩) hg).trans h1, (hb.cell (p := ⟨w.heap.size, 2, none⟩) hg).trans h2, Lib.hid (Base.then_below h3.out hb)⟩)
        have HV0 := Lib.hid (HVB.out _ HSD.out)
        clear f0 f1 f2
        go_wp2
        go_region_held_law (fun u => u.cell? ⟨w.heap.size, 0, none⟩ = some (.int .i64 200) ∧ u.cell? ⟨w.heap.size, 1, none⟩ = some (.slice a l.length cap) ∧ u.cell? ⟨w.heap.size, 2, none⟩ = some (.string ⟨#[]⟩) ∧ Hid (Below w.heap.size w u))
          (first | exact HSX.out | go_keep | (go_split_ands; refine SC.out _ _ ?_ ?_ ?_ ?_ hb2 <;> assumption) | (go_split_ands; refine SC.out _ _ ?_ ?_ ?_ ?_ hb3 <;> assumption))
          (first | (go_at_call 49; refine HV0.out.mono ?_; rintro e w2 ⟨rfl, hb2⟩) | (go_at_call 50; refine (HLF.out _ (Base.then_below HBD.out hb2)).mono ?_; rintro e w3 ⟨v3, rfl, o3, hb3⟩; obtain ⟨a3, c3, rfl, _⟩ := Rec.shape_at o3))
        all_goals (
          go_split_ands
          have HKB := Lib.hid (Hid.out ‹Hid (Below w.heap.size w w3)›)
          go_wp2
          go_ret
          exact ⟨ret_b (by rw [HF.out, ← HSL.out]; rfl), HKB.out⟩)
  · cases vb with
    | false =>
      have HF : Hid (z = false) := Lib.hid (by rw [HE.out]; rfl)
      go_wp2
      refine RegS.region (HeadS w 404 (.slice a l.length cap) b) (by kernel_rfl) (by kernel_rfl) HSD.out ?_
      haveI : Nonempty (RegS.In (HeadS w 404 (.slice a l.length cap) b)) := ⟨⟨_, HSD.out⟩⟩
      repeat (first | go_big_quiet_step ((go_at_call 49; with_reducible exact RegS.call (HVB.out _ (RegS.In.h _)) (fun e w' he => ⟨he.1, SK.out _ _ (RegS.In.h _) he.2⟩))) | quiet_step ((go_at_call 49; with_reducible exact RegS.call (HVB.out _ (RegS.In.h _)) (fun e w' he => ⟨he.1, SK.out _ _ (RegS.In.h _) he.2⟩))))
      refine wpQuiet_nil ?_
      intro _ hw'
      obtain ⟨⟨wz, hS⟩, hw''⟩ := hw'
      subst hw''
      have HBB := Lib.hid hS.2.out
      clear hS
      go_wp2
      go_ret
      exact ⟨ret_b HF.out.symm, HBB.out⟩
    | true =>
      by_cases hbe : b = []
      case neg =>
        have HF : Hid (z = false) := Lib.hid (by rw [HE.out, decide_eq_false hbe]; rfl)
        have hbq : (b == []) = false := by simpa using hbe
        clear hbe
        go_wp2
        refine RegS.region (HeadS w 404 (.slice a l.length cap) b) (by kernel_rfl) (by kernel_rfl) HSD.out ?_
        haveI : Nonempty (RegS.In (HeadS w 404 (.slice a l.length cap) b)) := ⟨⟨_, HSD.out⟩⟩
        repeat (first | go_big_quiet_step ((go_at_call 49; with_reducible exact RegS.call (HVB.out _ (RegS.In.h _)) (fun e w' he => ⟨he.1, SK.out _ _ (RegS.In.h _) he.2⟩))) | quiet_step ((go_at_call 49; with_reducible exact RegS.call (HVB.out _ (RegS.In.h _)) (fun e w' he => ⟨he.1, SK.out _ _ (RegS.In.h _) he.2⟩))))
        refine wpQuiet_nil ?_
        intro _ hw'
        obtain ⟨⟨wz, hS⟩, hw''⟩ := hw'
        subst hw''
        have HBB := Lib.hid hS.2.out
        clear hS
        go_wp2
        go_ret
        exact ⟨ret_b HF.out.symm, HBB.out⟩
      subst hbe
      cases dk with
      | false =>
        have HF : Hid (z = false) := Lib.hid (by rw [HE.out]; simp)
        go_wp2
        refine RegS.region (HeadS w 404 (.slice a l.length cap) []) (by kernel_rfl) (by kernel_rfl) HSD.out ?_
        haveI : Nonempty (RegS.In (HeadS w 404 (.slice a l.length cap) [])) := ⟨⟨_, HSD.out⟩⟩
        repeat (first | go_big_quiet_step ((go_at_call 49; with_reducible exact RegS.call (HVB.out _ (RegS.In.h _)) (fun e w' he => ⟨he.1, SK.out _ _ (RegS.In.h _) he.2⟩))) | quiet_step ((go_at_call 49; with_reducible exact RegS.call (HVB.out _ (RegS.In.h _)) (fun e w' he => ⟨he.1, SK.out _ _ (RegS.In.h _) he.2⟩))))
        refine wpQuiet_nil ?_
        intro _ hw'
        obtain ⟨⟨wz, hS⟩, hw''⟩ := hw'
        subst hw''
        have HBB := Lib.hid hS.2.out
        clear hS
        go_wp2
        go_ret
        exact ⟨ret_b HF.out.symm, HBB.out⟩
      | true =>
        have HF : Hid (z = decide (l = sl)) := Lib.hid (by rw [HE.out]; simp)
        have hdz : w1.drew.heap.size = w1.heap.size := rfl
        have HSX : Hid (w1.drew.cell? ⟨w.heap.size, 0, none⟩ = some (.int .i64 404) ∧ w1.drew.cell? ⟨w.heap.size, 1, none⟩ = some (.slice a l.length cap) ∧ w1.drew.cell? ⟨w.heap.size, 2, none⟩ = some (.string ⟨#[]⟩) ∧ Hid (Below w.heap.size w w1.drew)) := Lib.hid ⟨HSD.out.1.1, HSD.out.1.2.1, HSD.out.1.2.2, HSD.out.2⟩
        have HBD := Lib.hid HSD.out.2.out
        have SC : Hid (∀ u u' : World, u.cell? ⟨w.heap.size, 0, none⟩ = some (.int .i64 404) → u.cell? ⟨w.heap.size, 1, none⟩ = some (.slice a l.length cap) → u.cell? ⟨w.heap.size, 2, none⟩ = some (.string ⟨#[]⟩) → Hid (Below w.heap.size w u) → Below u.heap.size u u' → (u'.cell? ⟨w.heap.size, 0, none⟩ = some (.int .i64 404) ∧ u'.cell? ⟨w.heap.size, 1, none⟩ = some (.slice a l.length cap) ∧ u'.cell? ⟨w.heap.size, 2, none⟩ = some (.string ⟨#[]⟩) ∧ Hid (Below w.heap.size w u'))) := Lib.hid (fun u u' h0 h1 h2 h3 hb => by
          have hg := Rec.lt_of_cell h0
          exact ⟨(hb.cell (p := ⟨w.heap.size, 0, none⟩) hg).trans h0, (hb.cell (p := ⟨w.heap.size, 1, none⟩) hg).trans h1, (hb.cell (p := ⟨w.heap.size, 2, none⟩) hg).trans h2, Lib.hid (Base.then_below h3.out hb)⟩)
        have HV0 := Lib.hid (HVB.out _ HSD.out)
        clear f0 f1 f2
        go_wp2
        go_region_held_law (fun u => u.cell? ⟨w.heap.size, 0, none⟩ = some (.int .i64 404) ∧ u.cell? ⟨w.heap.size, 1, none⟩ = some (.slice a l.length cap) ∧ u.cell? ⟨w.heap.size, 2, none⟩ = some (.string ⟨#[]⟩) ∧ Hid (Below w.heap.size w u))
          (first | exact HSX.out | go_keep | (go_split_ands; refine SC.out _ _ ?_ ?_ ?_ ?_ hb2 <;> assumption) | (go_split_ands; refine SC.out _ _ ?_ ?_ ?_ ?_ hb3 <;> assumption))
          (first | (go_at_call 49; refine HV0.out.mono ?_; rintro e w2 ⟨rfl, hb2⟩) | (go_at_call 50; refine (HLF.out _ (Base.then_below HBD.out hb2)).mono ?_; rintro e w3 ⟨v3, rfl, o3, hb3⟩; obtain ⟨a3, c3, rfl, _⟩ := Rec.shape_at o3))
        all_goals (
          go_split_ands
          have HKB := Lib.hid (Hid.out ‹Hid (Below w.heap.size w w3)›)
          go_wp2
          go_ret
          exact ⟨ret_b (by rw [HF.out, ← HSL.out]; rfl), HKB.out⟩)
  · cases vb with
    | false =>
      have HF : Hid (z = false) := Lib.hid (by rw [HE.out]; rfl)
      go_wp2
      refine RegS.region (HeadS w 410 (.slice a l.length cap) b) (by kernel_rfl) (by kernel_rfl) HSD.out ?_
      haveI : Nonempty (RegS.In (HeadS w 410 (.slice a l.length cap) b)) := ⟨⟨_, HSD.out⟩⟩
      repeat (first | go_big_quiet_step ((go_at_call 49; with_reducible exact RegS.call (HVB.out _ (RegS.In.h _)) (fun e w' he => ⟨he.1, SK.out _ _ (RegS.In.h _) he.2⟩))) | quiet_step ((go_at_call 49; with_reducible exact RegS.call (HVB.out _ (RegS.In.h _)) (fun e w' he => ⟨he.1, SK.out _ _ (RegS.In.h _) he.2⟩))))
      refine wpQuiet_nil ?_
      intro _ hw'
      obtain ⟨⟨wz, hS⟩, hw''⟩ := hw'
      subst hw''
      have HBB := Lib.hid hS.2.out
      clear hS
      go_wp2
      go_ret
      exact ⟨ret_b HF.out.symm, HBB.out⟩
    | true =>
      by_cases hbe : b = []
      case neg =>
        have HF : Hid (z = false) := Lib.hid (by rw [HE.out, decide_eq_false hbe]; rfl)
        have hbq : (b == []) = false := by simpa using hbe
        clear hbe
        go_wp2
        refine RegS.region (HeadS w 410 (.slice a l.length cap) b) (by kernel_rfl) (by kernel_rfl) HSD.out ?_
        haveI : Nonempty (RegS.In (HeadS w 410 (.slice a l.length cap) b)) := ⟨⟨_, HSD.out⟩⟩
        repeat (first | go_big_quiet_step ((go_at_call 49; with_reducible exact RegS.call (HVB.out _ (RegS.In.h _)) (fun e w' he => ⟨he.1, SK.out _ _ (RegS.In.h _) he.2⟩))) | quiet_step ((go_at_call 49; with_reducible exact RegS.call (HVB.out _ (RegS.In.h _)) (fun e w' he => ⟨he.1, SK.out _ _ (RegS.In.h _) he.2⟩))))
        refine wpQuiet_nil ?_
        intro _ hw'
        obtain ⟨⟨wz, hS⟩, hw''⟩ := hw'
        subst hw''
        have HBB := Lib.hid hS.2.out
        clear hS
        go_wp2
        go_ret
        exact ⟨ret_b HF.out.symm, HBB.out⟩
      subst hbe
      cases dk with
      | false =>
        have HF : Hid (z = false) := Lib.hid (by rw [HE.out]; simp)
        go_wp2
        refine RegS.region (HeadS w 410 (.slice a l.length cap) []) (by kernel_rfl) (by kernel_rfl) HSD.out ?_
        haveI : Nonempty (RegS.In (HeadS w 410 (.slice a l.length cap) [])) := ⟨⟨_, HSD.out⟩⟩
        repeat (first | go_big_quiet_step ((go_at_call 49; with_reducible exact RegS.call (HVB.out _ (RegS.In.h _)) (fun e w' he => ⟨he.1, SK.out _ _ (RegS.In.h _) he.2⟩))) | quiet_step ((go_at_call 49; with_reducible exact RegS.call (HVB.out _ (RegS.In.h _)) (fun e w' he => ⟨he.1, SK.out _ _ (RegS.In.h _) he.2⟩))))
        refine wpQuiet_nil ?_
        intro _ hw'
        obtain ⟨⟨wz, hS⟩, hw''⟩ := hw'
        subst hw''
        have HBB := Lib.hid hS.2.out
        clear hS
        go_wp2
        go_ret
        exact ⟨ret_b HF.out.symm, HBB.out⟩
      | true =>
        have HF : Hid (z = decide (l = sl)) := Lib.hid (by rw [HE.out]; simp)
        have hdz : w1.drew.heap.size = w1.heap.size := rfl
        have HSX : Hid (w1.drew.cell? ⟨w.heap.size, 0, none⟩ = some (.int .i64 410) ∧ w1.drew.cell? ⟨w.heap.size, 1, none⟩ = some (.slice a l.length cap) ∧ w1.drew.cell? ⟨w.heap.size, 2, none⟩ = some (.string ⟨#[]⟩) ∧ Hid (Below w.heap.size w w1.drew)) := Lib.hid ⟨HSD.out.1.1, HSD.out.1.2.1, HSD.out.1.2.2, HSD.out.2⟩
        have HBD := Lib.hid HSD.out.2.out
        have SC : Hid (∀ u u' : World, u.cell? ⟨w.heap.size, 0, none⟩ = some (.int .i64 410) → u.cell? ⟨w.heap.size, 1, none⟩ = some (.slice a l.length cap) → u.cell? ⟨w.heap.size, 2, none⟩ = some (.string ⟨#[]⟩) → Hid (Below w.heap.size w u) → Below u.heap.size u u' → (u'.cell? ⟨w.heap.size, 0, none⟩ = some (.int .i64 410) ∧ u'.cell? ⟨w.heap.size, 1, none⟩ = some (.slice a l.length cap) ∧ u'.cell? ⟨w.heap.size, 2, none⟩ = some (.string ⟨#[]⟩) ∧ Hid (Below w.heap.size w u'))) := Lib.hid (fun u u' h0 h1 h2 h3 hb => by
          have hg := Rec.lt_of_cell h0
          exact ⟨(hb.cell (p := ⟨w.heap.size, 0, none⟩) hg).trans h0, (hb.cell (p := ⟨w.heap.size, 1, none⟩) hg).trans h1, (hb.cell (p := ⟨w.heap.size, 2, none⟩) hg).trans h2, Lib.hid (Base.then_below h3.out hb)⟩)
        have HV0 := Lib.hid (HVB.out _ HSD.out)
        clear f0 f1 f2
        go_wp2
        go_region_held_law (fun u => u.cell? ⟨w.heap.size, 0, none⟩ = some (.int .i64 410) ∧ u.cell? ⟨w.heap.size, 1, none⟩ = some (.slice a l.length cap) ∧ u.cell? ⟨w.heap.size, 2, none⟩ = some (.string ⟨#[]⟩) ∧ Hid (Below w.heap.size w u))
          (first | exact HSX.out | go_keep | (go_split_ands; refine SC.out _ _ ?_ ?_ ?_ ?_ hb2 <;> assumption) | (go_split_ands; refine SC.out _ _ ?_ ?_ ?_ ?_ hb3 <;> assumption))
          (first | (go_at_call 49; refine HV0.out.mono ?_; rintro e w2 ⟨rfl, hb2⟩) | (go_at_call 50; refine (HLF.out _ (Base.then_below HBD.out hb2)).mono ?_; rintro e w3 ⟨v3, rfl, o3, hb3⟩; obtain ⟨a3, c3, rfl, _⟩ := Rec.shape_at o3))
        all_goals (
          go_split_ands
          have HKB := Lib.hid (Hid.out ‹Hid (Below w.heap.size w w3)›)
          go_wp2
          go_ret
          exact ⟨ret_b (by rw [HF.out, ← HSL.out]; rfl), HKB.out⟩)
end Go.Proofs.YtjjelbijbbnmcaaGreatDoor.Ent

/-
  A DRAWN REGION WITH SKIPPED OPERATIONS, walked by hand: an operation of a list that is written out is taken first.
-/
namespace Go.Proofs.YtjjelbijbbnmcaaGreatDoor.Held
open Go Go.RowKit
set_option linter.unusedVariables false
set_option maxRecDepth 1000000

theorem take {P : Program} {md : Region.Mode} {Q : Exit → Act → World → Prop} {S : World → Prop} {l : List Oper} (i : Nat) {oi : Oper} (v : Value) {fuel : Nat} {listed : Array Bool} {a : Act} {w : World} (hi : l[i]? = some oi)
    (hs : Region.noSelect l.toArray = true) (hf : Region.free md l.toArray listed i = true) (hr : (Region.ready md l.toArray listed).contains i = true)
    (hQ : ∀ c a w, Q (.panic c) (a.put oi.dst v) w → Q (.panic c) a w) (hS : S w) (hy : YieldsIf P l.toArray S oi v a)
    (h : wpAnyH P md l.toArray Q S fuel (listed.setIfInBounds i true) (a.put oi.dst v) w) : wpAnyH P md l.toArray Q S (fuel + 1) listed a w :=
  wpAnyH_take (by simpa using hi) hs hf hr hQ hy hS h
end Go.Proofs.YtjjelbijbbnmcaaGreatDoor.Held

/-
  PLAIN FACTS for IsEntry: classes of worlds in which an entry lies in a block of its own; isWithin.
-/
namespace Go.Proofs.YtjjelbijbbnmcaaGreatDoor.Ent
open Go Go.RowKit
set_option linter.unusedVariables false
set_option maxRecDepth 1000000

def EntT (w : World) (xs : List Value) (u : World) : Prop := Kept.Box u w.heap.size xs ∧ Hid (Below w.heap.size w u)
theorem entt_call {w u u' : World} {xs : List Value} (h : EntT w xs u) (hb : Below u.heap.size u u') : EntT w xs u' := ⟨h.1.below hb, Lib.hid (Base.then_below h.2.out hb)⟩
def EntU (w : World) (xs ys : List Value) (u : World) : Prop := (Kept.Box u w.heap.size xs ∧ Kept.Box u (w.heap.size + 1) ys) ∧ Hid (Below w.heap.size w u)
theorem entu_call {w u u' : World} {xs ys : List Value} (h : EntU w xs ys u) (hb : Below u.heap.size u u') : EntU w xs ys u' := ⟨⟨h.1.1.below hb, h.1.2.below hb⟩, Lib.hid (Base.then_below h.2.out hb)⟩
theorem within_be (n l : Int) (w : World) : Calls Tryz.prog 28 #[.int .i64 n, .int .i64 l] w (BoolEnd (decide (0 ≤ n ∧ n ≤ l)) w) := by
  have HB := Lib.hid (Below.refl w.heap.size w)
  by_cases h0 : 0 ≤ n
  · by_cases h1 : n ≤ l
    · have hd : decide (0 ≤ n ∧ n ≤ l) = true := decide_eq_true ⟨h0, h1⟩
      rw [hd]
      clear hd
      go_enter Tryz.func28, Tryz.ntmps28
      go_wp2
      go_ret
      exact ⟨rfl, HB.out⟩
    · have hd : decide (0 ≤ n ∧ n ≤ l) = false := decide_eq_false (fun h => h1 h.2)
      rw [hd]
      clear hd
      go_enter Tryz.func28, Tryz.ntmps28
      go_wp2
      go_ret
      exact ⟨rfl, HB.out⟩
  · have hd : decide (0 ≤ n ∧ n ≤ l) = false := decide_eq_false (fun h => h0 h.1)
    rw [hd]
    clear hd
    go_enter Tryz.func28, Tryz.ntmps28
    go_wp2
    go_ret
    exact ⟨rfl, HB.out⟩
theorem in_be (n lo hi : Int) (w : World) : Calls Tryz.prog 20 #[.int .i64 n, .int .i64 lo, .int .i64 hi] w (BoolEnd (decide (lo ≤ n ∧ n ≤ hi)) w) := by
  by_cases h : lo ≤ n ∧ n ≤ hi
  · rw [decide_eq_true h]
    exact (NumDiv.in_yes n lo hi w h.1 h.2).mono (fun e w' he => by obtain ⟨rfl, rfl⟩ := he; exact ⟨rfl, Below.refl _ _⟩)
  · rw [decide_eq_false h]
    exact (NumDiv.in_no n lo hi w (by omega)).mono (fun e w' he => by obtain ⟨rfl, rfl⟩ := he; exact ⟨rfl, Below.refl _ _⟩)
end Go.Proofs.YtjjelbijbbnmcaaGreatDoor.Ent
