/-
  CONTRACTS of the laws' markResponse and heldResponse, told by what they leave alone: every block but the marked list's own. Nothing else that was there before is changed.
-/
import Derived.Test.YtnffoifkinpmpaaFldMark
import Derived.Test.YtnffoifkinpmpaaMsgRs
namespace Go.Proofs.Ytnffoifkinpmpaa.Mark
open Go Go.RowKit
set_option linter.unusedVariables false
set_option maxRecDepth 1000000

theorem mark_rsp (c : Int) (b : List UInt8) (B : Nat) (v : Value) (l : List Flds.Fld) (k : Nat) (w : World) (hown : Flds.Own w B v l) (hB : B ≤ w.heap.size) (hk : 1 ≤ k) (hn : k + l.length * 2 ≤ 100000000) :
    Calls Try.prog 26 #[.agg #[.int .i64 c, v, .string ⟨b.toArray⟩], .int .i64 (k : Int)] w (Flds.Marked B v k l.length w) := by
  have hb0 : Below w.heap.size w (w.alloc (.cells #[.int .i64 c, v, .string ⟨b.toArray⟩] 42)) := (Below.refl _ _).alloc (Nat.le_refl _) _
  have HB0 := Lib.hid hb0
  have HM := Lib.hid (Flds.mark_flds B v l k _ (Flds.own_below hown hb0) (by simp; omega) hk hn)
  unfold Flds.Marked at HM ⊢
  clear hown hb0
  go_enter Try.func26, Try.ntmps26
  go_wp2_with (fail)
  go_at_call 54
  refine HM.out.mono ?_
  rintro e w1 ⟨rfl, ho1, hg⟩
  have HO := Lib.hid ho1
  have HG := Lib.hid (Flds.grown_trans (Flds.grown_of_below (row := v.ownBlock) HB0.out) hg)
  clear ho1 hg
  go_wp2
  go_ret
  exact ⟨rfl, HO.out, HG.out⟩

theorem held_rsp (c : Int) (b : List UInt8) (B : Nat) (v : Value) (k n : Nat) (w : World) (h : Flds.Holds w B v (Flds.mkl k n)) (hB : B ≤ w.heap.size) (hk : 1 ≤ k) (hn : k + n * 2 ≤ 100000000) :
    Calls Try.prog 27 #[.agg #[.int .i64 c, v, .string ⟨b.toArray⟩], .int .i64 (k : Int)] w (Flds.Held k n w) := by
  have HB0 := Lib.hid ((Below.refl w.heap.size w).alloc (Nat.le_refl _) (.cells #[.int .i64 c, v, .string ⟨b.toArray⟩] 42))
  have HM := Lib.hid (Flds.held_flds B v k n _ (Flds.holds_below h (HB0.out.mono hB)) hk hn)
  have hneg : ¬ ((k + n * 2 : Nat) : Int) < 0 := by omega
  unfold Flds.Held at HM ⊢
  clear h
  generalize ((k + n * 2 : Nat) : Int) = z at HM hneg ⊢
  go_enter Try.func27, Try.ntmps27
  go_wp2_with (fail)
  go_at_call 55
  refine HM.out.mono ?_
  rintro e w1 ⟨rfl, hb1⟩
  have HB1 := Lib.hid (HB0.out.trans (hb1.mono HB0.out.size))
  clear hb1
  go_wp2
  go_ret
  exact ⟨rfl, HB1.out⟩
end Go.Proofs.Ytnffoifkinpmpaa.Mark
namespace Go.Proofs.Ytnffoifkinpmpaa.Msg
open Go Go.RowKit
theorem eq_rsp_wide (c : Int) (u : Value) (l : List F) (b : List UInt8) (v : Value) (B B' : Nat) (w : World) (h : Flds.Holds w B u l) (h' : Flds.Holds w B' v l) (hB : B ≤ w.heap.size) (hB' : B' ≤ w.heap.size) (hl : l.length ≤ 4194304) :
    Calls Try.prog 25 #[.agg #[.int .i64 c, u, .string ⟨b.toArray⟩], .agg #[.int .i64 c, v, .string ⟨b.toArray⟩]] w (Rec.Yes w) := by
  have HB0 := Lib.hid (((Below.refl w.heap.size w).alloc (Nat.le_refl _) (.cells #[.int .i64 c, u, .string ⟨b.toArray⟩] 42)).alloc (by simp) (.cells #[.int .i64 c, v, .string ⟨b.toArray⟩] 42))
  have HS := Lib.hid (Flds.eq_wide u v B B' l _ (Flds.holds_below h (HB0.out.mono hB)) (Flds.holds_below h' (HB0.out.mono hB')) hl)
  have HK := Lib.hid (fun w1 => kept33 (w := w) (w1 := w1) (T := 42) (T' := 42) (a := .int .i64 c) (b := u) (c := .string ⟨b.toArray⟩) (a' := .int .i64 c) (b' := v) (c' := .string ⟨b.toArray⟩))
  unfold Flds.Yes at HS
  unfold Rec.Yes
  clear h h'
  go_enter Try.func25, Try.ntmps25
  go_wp2_with (fail)
  go_at_call 53
  refine HS.out.mono ?_
  rintro e w1 ⟨rfl, hb1⟩
  obtain ⟨⟨q0, q1, q2⟩, ⟨r0, r1, r2⟩, _, _, hbw⟩ := HK.out _ hb1
  have HBW := Lib.hid hbw
  clear hb1 hbw
  go_wp2
  go_ret
  exact ⟨rfl, HBW.out⟩
end Go.Proofs.Ytnffoifkinpmpaa.Msg
