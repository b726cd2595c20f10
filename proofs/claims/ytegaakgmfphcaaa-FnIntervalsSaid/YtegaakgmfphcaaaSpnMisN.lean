/-
  CONTRACT of the program's MissingSpans where the list is no set of spans.
-/
import Derived.Test.YtegaakgmfphcaaaSpnMisA
namespace Go.Proofs.Ytegaakgmfphcaaa.Spn
open Go Go.RowKit
set_option linter.unusedVariables false
set_option maxRecDepth 1000000

set_option maxHeartbeats 4000000 in
theorem impl_miss_no (v : Value) (B : Nat) (l : List T) (p q : Int) (w : World) (h : Holds w B v l) (hB : B ≤ w.heap.size) (hl : l.length ≤ 1048576) (hset : isSet l = false) :
    Calls Try.prog 8 #[v, .agg #[.int .i64 p, .int .i64 q]] w (Missed (miss l (p, q)) w) := by
  have HKS : Hid (miss l (p, q) = addm [] (p, q)) := Lib.hid (by unfold miss keepset; rw [hset]; rfl)
  have HBA : Hid (Below w.heap.size w (w.alloc (.cells #[.int .i64 p, .int .i64 q] 26))) := Lib.hid ((Below.refl _ _).alloc (Nat.le_refl _) _)
  have HX : Hid ((w.alloc (.cells #[.int .i64 p, .int .i64 q] 26)).cell? ⟨w.heap.size, 0, none⟩ = some (.int .i64 p) ∧ (w.alloc (.cells #[.int .i64 p, .int .i64 q] 26)).cell? ⟨w.heap.size, 1, none⟩ = some (.int .i64 q)) := Lib.hid ⟨by rw [World.cell?_alloc_new]; rfl, by rw [World.cell?_alloc_new]; rfl⟩
  have HS := Lib.hid (fun W (h : Holds W B v l) (hb : B ≤ W.heap.size) => impl_set v B l W h hb (by omega))
  rw [hset] at HS
  have HY := Lib.hid (holds_below h (HBA.out.mono hB))
  obtain ⟨a, cap, rfl, ha⟩ := shape h
  clear ha h hset
  rw [HKS.out]
  go_enter Try.func8, Try.ntmps8
  go_wp2_with (fail)
  go_at_call 14
  refine (HS.out _ HY.out (by simp; omega)).mono ?_
  rintro e w1 ⟨rfl, hb⟩
  have hz1 : w.heap.size + 1 ≤ w1.heap.size := by have := hb.size; simp at this; omega
  have HB1 := Lib.hid (HBA.out.trans (hb.mono (by simp)))
  have hbb : Below w1.heap.size w1 (w1.alloc (.cells #[] 26)) := (Below.refl _ _).alloc (Nat.le_refl _) _
  have b0 : (w1.alloc (.cells #[] 26)).cell? ⟨w.heap.size, 0, none⟩ = some (.int .i64 p) := (hbb.cell (p := ⟨w.heap.size, 0, none⟩) (by show w.heap.size < _; omega)).trans ((hb.cell (p := ⟨w.heap.size, 0, none⟩) (by simp)).trans HX.out.1)
  have b1 : (w1.alloc (.cells #[] 26)).cell? ⟨w.heap.size, 1, none⟩ = some (.int .i64 q) := (hbb.cell (p := ⟨w.heap.size, 1, none⟩) (by show w.heap.size < _; omega)).trans ((hb.cell (p := ⟨w.heap.size, 1, none⟩) (by simp)).trans HX.out.2)
  have HC := Lib.hid (And.intro b0 b1)
  have HB2 := Lib.hid (HB1.out.alloc HB1.out.size (.cells #[] 26))
  have HADD := Lib.hid (add_missing _ (w.heap.size + 1) [] p q _ (own_mono (own_lit_nil w1) hz1) (by simp; omega) (by decide))
  clear hb hbb b0 b1
  go_wp2
  go_loop [5, 14] (fun u i => u = .slice (some ⟨w1.heap.size, 0, none⟩) 0 0 ∧ i = .int .i64 0) (fun _ i => 0)
  case atStart => exact ⟨rfl, rfl⟩
  case round =>
    obtain ⟨rfl, rfl⟩ := hrel
    obtain ⟨b0, b1⟩ := HC.out
    go_wp2_with (fail)
    go_at_call 23
    refine HADD.out.mono ?_
    rintro e w3 ⟨v1, rfl, hown1, hg1⟩
    have HOWN := Lib.hid (own_mono hown1 (Nat.le_succ _))
    have HBB := Lib.hid (HB2.out.grown hg1 HB2.out.size (fun k e => by (have e2 : w1.heap.size = k := by simpa [Value.ownBlock] using e); omega))
    clear hown1 hg1
    go_wp2
    go_ret
    exact ⟨_, rfl, HOWN.out, HBB.out⟩
end Go.Proofs.Ytegaakgmfphcaaa.Spn
