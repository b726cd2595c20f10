/-
  CONTRACTS AND PLAIN FACTS, several texts in one; each says in its own words what it proves.
-/
import Derived.Test.YtddpfhcmifnagaaGreatDoorPcAE

/-
  CONTRACTS of the program's isReading, firstCondition and checkNoneMatch; what both sides mean by CheckConditions. Nothing that was there before is changed.
-/
namespace Go.Proofs.YtddpfhcmifnagaaGreatDoor.Cnd
open Go Go.RowKit
set_option linter.unusedVariables false
set_option maxRecDepth 1000000

noncomputable def rest2 (me : List UInt8) (l m : List Flds.Fld) : Int := if (reads me && ((Age.din Rgh.modN m).2 && (Age.din isN l).2)) = true ∧ (Age.din Rgh.modN m).1 ≤ (Age.din isN l).1 then 304 else 200
def none1 (me : List UInt8) (l m : List Flds.Fld) : Int := if fits Tgs.sameweak inN l m = true then (if reads me = true then 304 else 412) else 200
noncomputable def rest1 (me : List UInt8) (l m : List Flds.Fld) : Int := if Flds.has l inN = true then none1 me l m else rest2 me l m
noncomputable def cond (me : List UInt8) (l m : List Flds.Fld) : Int :=
  if Flds.has l imN = true then (if fits Tgs.samestrong imN l m = true then rest1 me l m else 412)
  else if ((Age.din Rgh.modN m).2 && (Age.din iuN l).2) = true ∧ (Age.din iuN l).1 < (Age.din Rgh.modN m).1 then 412 else rest1 me l m
theorem din_none {n : List UInt8} {l : List Flds.Fld} (h : Flds.has l n = false) : (Age.din n l).2 = false := by
  have h1 := Flds.has_vals l n
  rw [h] at h1
  have h2 : Flds.vals n l = [] := by
    rcases hv : Flds.vals n l with _ | ⟨a, r⟩
    · rfl
    · rw [hv] at h1; simp at h1
  unfold Age.din Flds.got
  rw [h2, show Tx.join [] = [] from rfl, Dt.pdate_nil]
def NumEnd (z : Int) (w : World) (e : Ending) (w' : World) : Prop := e = .returned (.int .i64 z) ∧ Below w.heap.size w w'
theorem ret_n {a b : Int} (h : a = b) : Ending.returned (.int .i64 a) = .returned (.int .i64 b) := by rw [h]
theorem ret_t {a b : List UInt8} (h : a = b) : Ending.returned (.string ⟨a.toArray⟩) = .returned (.string ⟨b.toArray⟩) := by rw [h]

theorem impl_reads (me : List UInt8) (w : World) : Calls Tryz.prog 45 #[.string ⟨me.toArray⟩] w (BoolEnd (reads me) w) := by
  by_cases h1 : me = [71, 69, 84]
  · subst h1
    go_enter Tryz.func45, Tryz.ntmps45
    go_wp2
    go_ret
    exact ⟨rfl, Below.refl _ _⟩
  have q1 : (me == [71, 69, 84]) = false := by simpa using h1
  by_cases h2 : me = [72, 69, 65, 68]
  · subst h2
    go_enter Tryz.func45, Tryz.ntmps45
    go_wp2
    go_ret
    exact ⟨rfl, Below.refl _ _⟩
  have q2 : (me == [72, 69, 65, 68]) = false := by simpa using h2
  have HE : Hid (reads me = false) := Lib.hid (by unfold reads; rw [q1, q2]; rfl)
  clear h1 h2
  go_enter Tryz.func45, Tryz.ntmps45
  go_wp2
  go_ret
  exact ⟨ret_b HE.out.symm, Below.refl _ _⟩

/-- The first condition of a request. -/
def fst (l : List Flds.Fld) : List UInt8 := if Flds.has l imN = true then imN else if Flds.has l iuN = true then iuN else if Flds.has l inN = true then inN else if Flds.has l isN = true then isN else []

set_option maxHeartbeats 4000000 in
theorem impl_first (me ho t : List UInt8) (u : Value) (l : List Flds.Fld) (B : Nat) (w : World) (h : Flds.Holds w B u l) (hB : B ≤ w.heap.size) (hl : Flds.total l ≤ 1048576) :
    Calls Tryz.prog 39 #[.agg #[.string ⟨me.toArray⟩, .string ⟨ho.toArray⟩, .string ⟨t.toArray⟩, u]] w fun e w' => e = .returned (.string ⟨(fst l).toArray⟩) ∧ Below w.heap.size w w' := by
  have hll : l.length ≤ 1048576 := by unfold Flds.total at hl; omega
  have hb0 : Below w.heap.size w ((w.alloc (.cells #[.string ⟨me.toArray⟩, .string ⟨ho.toArray⟩, .string ⟨t.toArray⟩, u] 32)).alloc (.cells #[.string ⟨#[105, 102, 45, 109, 97, 116, 99, 104]⟩, .string ⟨#[105, 102, 45, 117, 110, 109, 111, 100, 105, 102, 105, 101, 100, 45, 115, 105, 110, 99, 101]⟩, .string ⟨#[105, 102, 45, 110, 111, 110, 101, 45, 109, 97, 116, 99, 104]⟩, .string ⟨#[105, 102, 45, 109, 111, 100, 105, 102, 105, 101, 100, 45, 115, 105, 110, 99, 101]⟩] 9)) := (((Below.refl _ _).alloc (Nat.le_refl _) _).alloc (by simp) _)
  have HK : Hid (∀ W, Below ((w.alloc (.cells #[.string ⟨me.toArray⟩, .string ⟨ho.toArray⟩, .string ⟨t.toArray⟩, u] 32)).alloc (.cells #[.string ⟨#[105, 102, 45, 109, 97, 116, 99, 104]⟩, .string ⟨#[105, 102, 45, 117, 110, 109, 111, 100, 105, 102, 105, 101, 100, 45, 115, 105, 110, 99, 101]⟩, .string ⟨#[105, 102, 45, 110, 111, 110, 101, 45, 109, 97, 116, 99, 104]⟩, .string ⟨#[105, 102, 45, 109, 111, 100, 105, 102, 105, 101, 100, 45, 115, 105, 110, 99, 101]⟩] 9)).heap.size ((w.alloc (.cells #[.string ⟨me.toArray⟩, .string ⟨ho.toArray⟩, .string ⟨t.toArray⟩, u] 32)).alloc (.cells #[.string ⟨#[105, 102, 45, 109, 97, 116, 99, 104]⟩, .string ⟨#[105, 102, 45, 117, 110, 109, 111, 100, 105, 102, 105, 101, 100, 45, 115, 105, 110, 99, 101]⟩, .string ⟨#[105, 102, 45, 110, 111, 110, 101, 45, 109, 97, 116, 99, 104]⟩, .string ⟨#[105, 102, 45, 109, 111, 100, 105, 102, 105, 101, 100, 45, 115, 105, 110, 99, 101]⟩] 9)) W → W.cell? ⟨w.heap.size, 3, none⟩ = some u ∧ (W.cell? ⟨w.heap.size + 1, 0, none⟩ = some (.string ⟨#[105, 102, 45, 109, 97, 116, 99, 104]⟩) ∧ W.cell? ⟨w.heap.size + 1, 1, none⟩ = some (.string ⟨#[105, 102, 45, 117, 110, 109, 111, 100, 105, 102, 105, 101, 100, 45, 115, 105, 110, 99, 101]⟩) ∧ W.cell? ⟨w.heap.size + 1, 2, none⟩ = some (.string ⟨#[105, 102, 45, 110, 111, 110, 101, 45, 109, 97, 116, 99, 104]⟩) ∧ W.cell? ⟨w.heap.size + 1, 3, none⟩ = some (.string ⟨#[105, 102, 45, 109, 111, 100, 105, 102, 105, 101, 100, 45, 115, 105, 110, 99, 101]⟩)) ∧ Below w.heap.size w W) := Lib.hid (fun W hb => by
    have h2 := Kept.two hb
    have h1 := Kept.one (Kept.below_in hb)
    exact ⟨h1.1 3 _ rfl, ⟨h2.1 0 _ rfl, h2.1 1 _ rfl, h2.1 2 _ rfl, h2.1 3 _ rfl⟩, hb0.trans (hb.mono hb0.size)⟩)
  have HH := Lib.hid (fun n W (hb : Below w.heap.size w W) => Flds.impl_has u B l n W (Flds.holds_below h (hb.mono hB)) (Nat.le_trans hB hb.size) hll)
  have HH0 := Lib.hid (HH.out imN)
  have HH1 := Lib.hid (HH.out iuN)
  have HH2 := Lib.hid (HH.out inN)
  have HH3 := Lib.hid (HH.out isN)
  have HE : Hid (fst l = if Flds.has l imN = true then imN else if Flds.has l iuN = true then iuN else if Flds.has l inN = true then inN else if Flds.has l isN = true then isN else []) := Lib.hid rfl
  generalize fst l = z at HE ⊢
  generalize Flds.has l imN = b0 at HH0 HE
  generalize Flds.has l iuN = b1 at HH1 HE
  generalize Flds.has l inN = b2 at HH2 HE
  generalize Flds.has l isN = b3 at HH3 HE
  unfold imN at HH0 HE
  unfold iuN at HH1 HE
  unfold inN at HH2 HE
  unfold isN at HH3 HE
  clear h hl hb0 HH
  go_enter Tryz.func39, Tryz.ntmps39
  go_wp2
  go_loopw [7] (fun i wr => ∃ j : Nat, j ≤ 4 ∧ i = .int .i64 (j : Int) ∧ (1 ≤ j → b0 = false) ∧ (2 ≤ j → b1 = false) ∧ (3 ≤ j → b2 = false) ∧ (4 ≤ j → b3 = false) ∧ Hid (Below ((w.alloc (.cells #[.string ⟨me.toArray⟩, .string ⟨ho.toArray⟩, .string ⟨t.toArray⟩, u] 32)).alloc (.cells #[.string ⟨#[105, 102, 45, 109, 97, 116, 99, 104]⟩, .string ⟨#[105, 102, 45, 117, 110, 109, 111, 100, 105, 102, 105, 101, 100, 45, 115, 105, 110, 99, 101]⟩, .string ⟨#[105, 102, 45, 110, 111, 110, 101, 45, 109, 97, 116, 99, 104]⟩, .string ⟨#[105, 102, 45, 109, 111, 100, 105, 102, 105, 101, 100, 45, 115, 105, 110, 99, 101]⟩] 9)).heap.size ((w.alloc (.cells #[.string ⟨me.toArray⟩, .string ⟨ho.toArray⟩, .string ⟨t.toArray⟩, u] 32)).alloc (.cells #[.string ⟨#[105, 102, 45, 109, 97, 116, 99, 104]⟩, .string ⟨#[105, 102, 45, 117, 110, 109, 111, 100, 105, 102, 105, 101, 100, 45, 115, 105, 110, 99, 101]⟩, .string ⟨#[105, 102, 45, 110, 111, 110, 101, 45, 109, 97, 116, 99, 104]⟩, .string ⟨#[105, 102, 45, 109, 111, 100, 105, 102, 105, 101, 100, 45, 115, 105, 110, 99, 101]⟩] 9)) wr)) (fun i _ => 4 - (intOf i).toNat)
  case atStart => exact ⟨0, by omega, rfl, fun h => absurd h (by omega), fun h => absurd h (by omega), fun h => absurd h (by omega), fun h => absurd h (by omega), Lib.hid (Below.refl _ _)⟩
  case round =>
    obtain ⟨j, hj, rfl, hk0, hk1, hk2, hk3, HBR⟩ := hrel
    have HK0 := Lib.hid hk0
    have HK1 := Lib.hid hk1
    have HK2 := Lib.hid hk2
    have HK3 := Lib.hid hk3
    obtain ⟨x3, ⟨y0, y1, y2, y3⟩, hbw⟩ := HK.out _ HBR.out
    have HBW := Lib.hid hbw
    clear hk0 hk1 hk2 hk3 hbw
    have hjc : j = 0 ∨ j = 1 ∨ j = 2 ∨ j = 3 ∨ j = 4 := by omega
    rcases hjc with rfl | rfl | rfl | rfl | rfl
    · go_wp2_with (fail)
      go_at_call 43
      refine (HH0.out _ HBW.out).mono ?_
      rintro e w2 ⟨rfl, hb2⟩
      have HB2 := Lib.hid (Base.then_below HBW.out hb2)
      have HR2 := Lib.hid (Base.then_below HBR.out hb2)
      clear hb2
      cases hq : b0 with
      | true =>
        have HF := Lib.hid (HE.out)
        rw [hq] at HF
        go_wp2
        go_ret
        exact ⟨ret_t HF.out.symm, HB2.out⟩
      | false =>
        have HQ := Lib.hid hq
        clear hq
        go_wp2
        go_roundw
        case rel => exact ⟨1, by omega, by rfl, fun _ => HQ.out, fun h => absurd h (by omega), fun h => absurd h (by omega), fun h => absurd h (by omega), HR2⟩
        case measure => decide
    · go_wp2_with (fail)
      go_at_call 43
      refine (HH1.out _ HBW.out).mono ?_
      rintro e w2 ⟨rfl, hb2⟩
      have HB2 := Lib.hid (Base.then_below HBW.out hb2)
      have HR2 := Lib.hid (Base.then_below HBR.out hb2)
      clear hb2
      cases hq : b1 with
      | true =>
        have HF := Lib.hid (HE.out)
        rw [HK0.out (by omega), hq] at HF
        go_wp2
        go_ret
        exact ⟨ret_t HF.out.symm, HB2.out⟩
      | false =>
        have HQ := Lib.hid hq
        clear hq
        go_wp2
        go_roundw
        case rel => exact ⟨2, by omega, by rfl, fun _ => HK0.out (by omega), fun _ => HQ.out, fun h => absurd h (by omega), fun h => absurd h (by omega), HR2⟩
        case measure => decide
    · go_wp2_with (fail)
      go_at_call 43
      refine (HH2.out _ HBW.out).mono ?_
      rintro e w2 ⟨rfl, hb2⟩
      have HB2 := Lib.hid (Base.then_below HBW.out hb2)
      have HR2 := Lib.hid (Base.then_below HBR.out hb2)
      clear hb2
      cases hq : b2 with
      | true =>
        have HF := Lib.hid (HE.out)
        rw [HK0.out (by omega), HK1.out (by omega), hq] at HF
        go_wp2
        go_ret
        exact ⟨ret_t HF.out.symm, HB2.out⟩
      | false =>
        have HQ := Lib.hid hq
        clear hq
        go_wp2
        go_roundw
        case rel => exact ⟨3, by omega, by rfl, fun _ => HK0.out (by omega), fun _ => HK1.out (by omega), fun _ => HQ.out, fun h => absurd h (by omega), HR2⟩
        case measure => decide
    · go_wp2_with (fail)
      go_at_call 43
      refine (HH3.out _ HBW.out).mono ?_
      rintro e w2 ⟨rfl, hb2⟩
      have HB2 := Lib.hid (Base.then_below HBW.out hb2)
      have HR2 := Lib.hid (Base.then_below HBR.out hb2)
      clear hb2
      cases hq : b3 with
      | true =>
        have HF := Lib.hid (HE.out)
        rw [HK0.out (by omega), HK1.out (by omega), HK2.out (by omega), hq] at HF
        go_wp2
        go_ret
        exact ⟨ret_t HF.out.symm, HB2.out⟩
      | false =>
        have HQ := Lib.hid hq
        clear hq
        go_wp2
        go_roundw
        case rel => exact ⟨4, by omega, by rfl, fun _ => HK0.out (by omega), fun _ => HK1.out (by omega), fun _ => HK2.out (by omega), fun _ => HQ.out, HR2⟩
        case measure => decide
    · have HF := Lib.hid (HE.out)
      rw [HK0.out (by omega), HK1.out (by omega), HK2.out (by omega), HK3.out (by omega)] at HF
      go_wp2
      go_ret
      exact ⟨ret_t HF.out.symm, HBW.out⟩

theorem keep2 {w W : World} {a b c d a' b' c' : Value} {T T' : TypeId} (hb : Below ((w.alloc (.cells #[a, b, c, d] T)).alloc (.cells #[a', b', c'] T')).heap.size ((w.alloc (.cells #[a, b, c, d] T)).alloc (.cells #[a', b', c'] T')) W) :
    (W.cell? ⟨w.heap.size, 0, none⟩ = some a ∧ W.cell? ⟨w.heap.size, 1, none⟩ = some b ∧ W.cell? ⟨w.heap.size, 2, none⟩ = some c ∧ W.cell? ⟨w.heap.size, 3, none⟩ = some d) ∧ (W.cell? ⟨w.heap.size + 1, 0, none⟩ = some a' ∧ W.cell? ⟨w.heap.size + 1, 1, none⟩ = some b' ∧ W.cell? ⟨w.heap.size + 1, 2, none⟩ = some c') ∧ Below w.heap.size w W := by
  have h2 := Kept.two hb
  have h1 := Kept.one (Kept.below_in hb)
  exact ⟨⟨h1.1 0 _ rfl, h1.1 1 _ rfl, h1.1 2 _ rfl, h1.1 3 _ rfl⟩, ⟨h2.1 0 _ rfl, h2.1 1 _ rfl, h2.1 2 _ rfl⟩, Kept.below_in (Kept.below_in hb)⟩

set_option maxHeartbeats 4000000 in
theorem impl_none (me ho t : List UInt8) (u : Value) (l : List Flds.Fld) (c : Int) (v : Value) (m : List Flds.Fld) (b : List UInt8) (B : Nat) (w : World) (h : Flds.Holds w B u l) (h2 : Flds.Holds w B v m) (hB : B ≤ w.heap.size) (hl : Flds.total l ≤ 1048576) (hm : Flds.total m ≤ 1048576) :
    Calls Tryz.prog 44 #[.agg #[.string ⟨me.toArray⟩, .string ⟨ho.toArray⟩, .string ⟨t.toArray⟩, u], .agg #[.int .i64 c, v, .string ⟨b.toArray⟩]] w (NumEnd (none1 me l m) w) := by
  have hb0 : Below w.heap.size w ((w.alloc (.cells #[.string ⟨me.toArray⟩, .string ⟨ho.toArray⟩, .string ⟨t.toArray⟩, u] 32)).alloc (.cells #[.int .i64 c, v, .string ⟨b.toArray⟩] 35)) := (((Below.refl _ _).alloc (Nat.le_refl _) _).alloc (by simp) _)
  have HB0 := Lib.hid hb0
  have HK := Lib.hid (fun W => keep2 (w := w) (W := W) (T := 32) (T' := 35) (a := .string ⟨me.toArray⟩) (b := .string ⟨ho.toArray⟩) (c := .string ⟨t.toArray⟩) (d := u) (a' := .int .i64 c) (b' := v) (c' := .string ⟨b.toArray⟩))
  have HN := Lib.hid (impl_names _ _ same_weak c v m b me ho t u l inN B _ (Flds.holds_below h2 (hb0.mono hB)) (Flds.holds_below h (hb0.mono hB)) (Nat.le_trans hB hb0.size) hm hl (by decide))
  have HR := Lib.hid (fun W => impl_reads me W)
  have HE : Hid (none1 me l m = if fits Tgs.sameweak inN l m = true then (if reads me = true then 304 else 412) else 200) := Lib.hid rfl
  unfold BoolEnd at HN HR
  unfold NumEnd
  generalize none1 me l m = z at HE ⊢
  generalize fits Tgs.sameweak inN l m = b0 at HN HE
  generalize reads me = b1 at HR HE
  unfold inN at HN
  clear h h2 hl hm hb0
  go_enter Tryz.func44, Tryz.ntmps44
  go_wp2_with (fail)
  go_at_call 40
  refine HN.out.mono ?_
  rintro e w1 ⟨rfl, hb1⟩
  obtain ⟨⟨x0, x1, x2, x3⟩, _, hbw⟩ := HK.out _ hb1
  have HB1 := Lib.hid hbw
  clear hb1 hbw
  cases b0 with
  | false =>
    go_wp2
    go_ret
    exact ⟨ret_n (by rw [HE.out]; rfl), HB1.out⟩
  | true =>
    go_wp2_with (fail)
    go_at_call 45
    refine (HR.out _).mono ?_
    rintro e w2 ⟨rfl, hb2⟩
    have HB2 := Lib.hid (Base.then_below HB1.out hb2)
    clear hb2
    cases b1 with
    | true =>
      go_wp2
      go_ret
      exact ⟨ret_n (by rw [HE.out]; rfl), HB2.out⟩
    | false =>
      go_wp2
      go_ret
      exact ⟨ret_n (by rw [HE.out]; rfl), HB2.out⟩
end Go.Proofs.YtddpfhcmifnagaaGreatDoor.Cnd
