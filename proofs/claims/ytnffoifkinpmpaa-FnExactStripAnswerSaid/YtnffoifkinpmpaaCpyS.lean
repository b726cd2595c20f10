/-
  CONTRACTS of the model's l5Copy (a copy of a list of fields) and l11Copy (a copy of an answer); nothing that was there before is changed.
-/
import Derived.Test.YtnffoifkinpmpaaFldFil
import Derived.Test.YtnffoifkinpmpaaRecApp
import Derived.Test.YtnffoifkinpmpaaFldTot
import Derived.Test.YtnffoifkinpmpaaMsgRs
import Derived.Test.YtnffoifkinpmpaaKept
namespace Go.Proofs.Ytnffoifkinpmpaa.Flds
open Go Go.RowKit
set_option linter.unusedVariables false
set_option maxRecDepth 1000000
set_option maxRecDepth 1000000

def cs2 (f : Fld) : List Value := [sv f.1, sv f.2]
theorem to_rec {w : World} {B : Nat} {v : Value} {l : List Fld} (h : Holds w B v l) : Rec.Holds 2 cs2 nofld w B v l := by
  rcases h with h | ⟨h0, b, off, cap, rfl, hb, hc, hat⟩
  · exact Or.inl h
  · refine Or.inr ⟨h0, b, off, cap, rfl, hb, hc, fun j hj i u hu => ?_⟩
    obtain ⟨c0, c1⟩ := hat j hj
    match i, hu with
    | 0, hu => rw [show u = sv (l.getD j nofld).1 by simpa [cs2] using hu.symm]; exact c0
    | 1, hu => rw [show u = sv (l.getD j nofld).2 by simpa [cs2] using hu.symm]; exact c1
    | i + 2, hu => simp [cs2] at hu

set_option maxHeartbeats 1000000 in
theorem spec_l5copy (v : Value) (B : Nat) (l : List Fld) (w : World) (h : Holds w B v l) (hB : B ≤ w.heap.size) (hl : l.length ≤ 1048576) :
    Calls Try.prog 86 #[v] w (FilterEnd l w) := by
  obtain ⟨i0, hi, hz0, hz1, hz2⟩ := info_parts info_fld
  have hba : Below w.heap.size w (w.alloc (.cells #[] 112)) := (Below.refl _ _).alloc (Nat.le_refl _) _
  have HB := Lib.hid hba
  have hmw := to_rec (holds_below h (hba.mono hB))
  have hown := own_lit_nil w
  have hbz := hba.size
  clear h hba
  unfold FilterEnd
  go_enter Try.func86, Try.ntmps86
  go_wp2_with (at_builtin; go_loud (refine Rec.append_holds (l := []) (cs := cs2) (z := nofld) (fun _ => rfl) (fun f => two_one f) rfl (.tmp 3) (.tmp 4) 40 112 rfl Try.underlying40 hi hz0 hz1 hz2 rfl (by decide) rfl rfl hown hmw (by unfold maxLen; simp; omega) (by simp; omega) hbz ?_; intro v1 w3 hown1 hg1))
  have HO : Hid (Own w3 w.heap.size v1 l) := Lib.hid hown1
  have HB := Lib.hid (HB.out.grown hg1 HB.out.size (fun k e => (hown.lt k e).1))
  clear hown hown1 hg1 hmw hbz
  go_wp2
  go_ret
  exact ⟨_, rfl, HO.out, HB.out⟩

def CopyEnd (c : Int) (l : List Fld) (b : List UInt8) (w : World) (e : Ending) (w' : World) : Prop := ∃ v, e = .returned (.agg #[.int .i64 c, v, .string ⟨b.toArray⟩]) ∧ Own w' w.heap.size v l ∧ Below w.heap.size w w'
set_option maxHeartbeats 1000000 in
theorem spec_l11copy (c : Int) (u : Value) (l : List Fld) (b : List UInt8) (B : Nat) (w : World) (h : Holds w B u l) (hB : B ≤ w.heap.size) (hl : l.length ≤ 1048576) :
    Calls Try.prog 87 #[.agg #[.int .i64 c, u, .string ⟨b.toArray⟩]] w (CopyEnd c l b w) := by
  have HB0 := Lib.hid (((Below.refl w.heap.size w).alloc (Nat.le_refl _) (.cells #[.int .i64 c, u, .string ⟨b.toArray⟩] 42)).alloc (by simp) (.cells #[.int .i64 0, .slice none 0 0, .string ⟨#[]⟩] 42))
  have HS := Lib.hid (spec_l5copy u B l _ (holds_below h (HB0.out.mono hB)) (Nat.le_trans hB HB0.out.size) hl)
  unfold FilterEnd at HS
  unfold CopyEnd
  clear h
  go_enter Try.func87, Try.ntmps87
  go_wp2_with (fail)
  go_at_call 86
  refine HS.out.mono ?_
  rintro e w1 ⟨v, rfl, ho', hb1⟩
  obtain ⟨a, cap, rfl, _⟩ := Rec.shape_at ho'
  have hk2 := Kept.two hb1
  have hk1 := Kept.one (Kept.below_in hb1)
  have q0 := hk1.1 0 _ rfl
  have q1 := hk1.1 1 _ rfl
  have q2 := hk1.1 2 _ rfl
  have f1 := hk1.2 1
  have r0 := hk2.1 0 _ rfl
  have r1 := hk2.1 1 _ rfl
  have r2 := hk2.1 2 _ rfl
  have fr0 := hk2.2 0
  have fr1 := hk2.2 1
  have fr2 := hk2.2 2
  have HO := Lib.hid ho'
  have HBW := Lib.hid (HB0.out.trans (hb1.mono HB0.out.size))
  clear ho' hb1 hk2 hk1
  go_wp2
  refine bodyPost_ret (v := .agg #[.int .i64 c, .slice a l.length cap, .string ⟨b.toArray⟩]) (by simp [results, Try.results87, go_sem, r0, r1, r2]) rfl ⟨_, rfl, ?_, ?_⟩
  · have hno : ∀ k, Value.ownBlock (.slice a l.length cap) = some k → w.heap.size + 1 < k := fun k e => by have h9 := (HO.out.lt k e).1; simp at h9; omega
    have e2 : Value.ownBlock (.slice a l.length cap) ≠ some (w.heap.size + 1) := fun e => by have := hno _ e; omega
    have e1 : Value.ownBlock (.slice a l.length cap) ≠ some w.heap.size := fun e => by have := hno _ e; omega
    exact Rec.own_mono (ownsRow_setCell_other (a := ⟨w.heap.size + 1, 2, none⟩) (ownsRow_setCell_other (a := ⟨w.heap.size + 1, 1, none⟩) (ownsRow_setCell_other (a := ⟨w.heap.size + 1, 0, none⟩) (ownsRow_setCell_other (a := ⟨w.heap.size, 1, none⟩) HO.out e1 _) e2 _) e2 _) e2 _) (by simp; omega)
  · exact (((HBW.out.setCell (p := ⟨w.heap.size, 1, none⟩) (by show w.heap.size ≤ w.heap.size; omega) _).setCell (p := ⟨w.heap.size + 1, 0, none⟩) (by show w.heap.size ≤ w.heap.size + 1; omega) _).setCell (p := ⟨w.heap.size + 1, 1, none⟩) (by show w.heap.size ≤ w.heap.size + 1; omega) _).setCell (p := ⟨w.heap.size + 1, 2, none⟩) (by show w.heap.size ≤ w.heap.size + 1; omega) _
end Go.Proofs.Ytnffoifkinpmpaa.Flds
