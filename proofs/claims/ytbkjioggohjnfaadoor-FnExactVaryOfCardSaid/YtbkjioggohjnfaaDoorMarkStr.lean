/-
  CONTRACTS of the laws' markStringS and heldStringS: the first writes marks into a slice of texts that is one's own, the second finds them there; nothing older than that slice is changed.
-/
import Derived.Test.YtbkjioggohjnfaaDoorMarkText
import Derived.Test.YtbkjioggohjnfaaDoorStrs
import Derived.Deep.RegionWith
import Derived.RegionTactic
namespace Go.Proofs.YtbkjioggohjnfaaDoor.Mark
open Go Go.RowKit
set_option linter.unusedVariables false
set_option maxRecDepth 1000000

def mkl (k n : Nat) : List (List UInt8) := (List.range n).map (fun i => mt (k + i))
theorem mkl_len (k n : Nat) : (mkl k n).length = n := by unfold mkl; simp
theorem mkl_at {k n j : Nat} (h : j < n) : (mkl k n).getD j [] = mt (k + j) := by unfold mkl; simp [List.getD, h]
/-- The first j places are marked. -/
def mks (xs : List (List UInt8)) (k j : Nat) : List (List UInt8) := mkl k j ++ xs.drop j
theorem mks_zero (xs : List (List UInt8)) (k : Nat) : mks xs k 0 = xs := by unfold mks mkl; simp
theorem mks_len {xs : List (List UInt8)} {k j : Nat} (h : j ≤ xs.length) : (mks xs k j).length = xs.length := by unfold mks; rw [List.length_append, mkl_len, List.length_drop]; omega
theorem mks_more {xs : List (List UInt8)} {k j : Nat} (h : j < xs.length) : (mks xs k j).set j (mt (k + j)) = mks xs k (j + 1) := by
  unfold mks
  rw [List.set_append_right _ _ (by rw [mkl_len]; exact Nat.le_refl _), mkl_len, Nat.sub_self, List.drop_eq_getElem_cons h, List.set_cons_zero]
  unfold mkl
  rw [List.range_succ, List.map_append, List.append_assoc]; rfl
theorem mks_all {xs : List (List UInt8)} {k j : Nat} (h : j = xs.length) : mks xs k j = mkl k xs.length := by unfold mks; subst h; simp
theorem ret_nat {a b : Nat} (h : a = b) : Ending.returned (.int .i64 (a : Int)) = .returned (.int .i64 (b : Int)) := by rw [h]

def Marked (B : Nat) (v : Value) (k n : Nat) (w : World) (e : Ending) (w' : World) : Prop := e = .returned (.int .i64 ((k + n : Nat) : Int)) ∧ Strs.Own w' B v (mkl k n) ∧ Below B w w'
theorem own_conv {w : World} {B : Nat} {v : Value} {xs ys : List (List UInt8)} (h : Strs.Own w B v xs) (e : xs = ys) : Strs.Own w B v ys := e ▸ h

set_option maxHeartbeats 1000000 in
theorem mark_strs (B : Nat) (v : Value) (xs : List (List UInt8)) (k : Nat) (w : World) (hown : Strs.Own w B v xs) (hB : B ≤ w.heap.size) (hk : 1 ≤ k) (hn : k + xs.length ≤ 100000000) :
    Calls Tryd.prog 11 #[v, .int .i64 (k : Int)] w (Marked B v k xs.length w) := by
  have hshape : ∃ a cap, v = .slice a xs.length cap ∧ (0 < xs.length → ∃ g, a = some ⟨g, 0, none⟩) := by
    rcases hown.2 with ⟨rfl, h⟩ | ⟨g, cap, cur, rfl, _⟩
    · exact ⟨none, 0, by rw [h], fun h' => by omega⟩
    · exact ⟨_, cap, rfl, fun _ => ⟨g, rfl⟩⟩
  obtain ⟨a, cap, rfl, ha⟩ := hshape
  have HA := Lib.hid ha
  have HO := Lib.hid hown
  clear ha hown
  go_enter Tryd.func11, Tryd.ntmps11
  go_wp2
  go_loopw [1, 5] (fun q i wr => ∃ j : Nat, j ≤ xs.length ∧ i = .int .i64 (j : Int) ∧ q = .int .i64 ((k + j : Nat) : Int) ∧ wr.ownsRow B 9 1 (.slice a xs.length cap) xs.length (Strs.svs (mks xs k j)) ∧ Below B w wr) (fun _ i _ => xs.length - (intOf i).toNat)
  case atStart => exact ⟨0, Nat.zero_le _, rfl, rfl, by rw [mks_zero]; exact HO.out, Below.refl _ _⟩
  case round =>
    clear HO
    obtain ⟨j, hj, rfl, rfl, hown, hb⟩ := hrel
    by_cases hlt : j < xs.length
    · obtain ⟨g, rfl⟩ := HA.out (by omega)
      have hbs := hb.size
      have HB := Lib.hid hb
      have HO := Lib.hid hown
      have HM := Lib.hid (mks_more (k := k) hlt)
      have HL := Lib.hid (mks_len (k := k) (Nat.le_of_lt hlt))
      clear hb hown
      go_wp2_with (fail)
      go_at_call 23
      refine (mark_text (k + j) _ (by omega) (by omega)).mono ?_
      rintro e w1 ⟨rfl, hb1⟩
      have hown1 : w1.ownsRow B 9 1 (.slice (some ⟨g, 0, none⟩) xs.length cap) xs.length (Strs.svs (mks xs k j)) := by
        have h0 := HO.out
        obtain ⟨hl, hc⟩ := h0
        refine ⟨hl, ?_⟩
        rcases hc with h0 | ⟨g, cap, cur, hv, h1, h2, h3⟩
        · exact Or.inl h0
        · exact Or.inr ⟨g, cap, cur, hv, h1, by rw [hb1.block g (Strs.lt_of_cell (o := 0) (w := wr) (b := g) (by
            cases hv; exact Strs.own_cell HO.out (j := 0) (by omega)))]; exact h2, h3⟩
      have hcell := Strs.own_cell hown1 hlt
      have hfz := hown1.frozenAt j
      have hst := hown1.stored j (Strs.sv (mt (k + j)))
      have hset : (Strs.svs (mks xs k j)).set j (Strs.sv (mt (k + j))) = Strs.svs (mks xs k (j + 1)) := by rw [← HM.out]; unfold Strs.svs; rw [List.map_set]
      rw [hset] at hst
      have hs1 := hb1.size
      have HS := Lib.hid (And.intro hst.1 (((HB.out.trans (hb1.mono (by omega)))).grown hst.2 (by omega) (fun q e => by cases e; exact (hown1.lt g rfl).1)))
      clear hst hset hown1 hb1 HO
      unfold Strs.sv at hcell HS
      generalize ((mks xs k j).getD j []) = y at hcell
      generalize mt (k + j) = z at *
      go_wp2
      go_roundw
      case rel => exact ⟨j + 1, by omega, by go_num, by go_num, HS.out.1, HS.out.2⟩
      case measure => simp [intOf]; omega
    · have HE := Lib.hid (mks_all (xs := xs) (k := k) (show j = xs.length by omega))
      have HR := Lib.hid (show k + j = k + xs.length by omega)
      have HO := Lib.hid (And.intro hown hb)
      clear hown hb
      go_wp2
      go_ret
      exact ⟨ret_nat HR.out, by show World.ownsRow _ _ _ _ _ _ _; rw [mkl_len]; rw [← HE.out]; exact HO.out.1, HO.out.2⟩

def Held (k n : Nat) (w : World) (e : Ending) (w' : World) : Prop := e = .returned (.int .i64 ((k + n : Nat) : Int)) ∧ Below w.heap.size w w'
theorem below_drew {B : Nat} {a w : World} (h : Below B a w) : Below B a w.drew := ⟨h.os, h.tape, h.output, h.size, h.block⟩

theorem below_of_drew {B : Nat} {w w' : World} (h : Below B w.drew w') : Below B w w' := ⟨h.os, h.tape, h.output, h.size, h.block⟩
theorem held_nil (a : Option Addr) (cap k : Nat) (w : World) :
    Calls Tryd.prog 12 #[.slice a 0 cap, .int .i64 (k : Int)] w (Held k 0 w) := by
  go_enter Tryd.func12, Tryd.ntmps12
  go_wp2
  go_loop [1, 5] (fun q i => i = .int .i64 0 ∧ q = .int .i64 (k : Int)) (fun _ i => 0)
  case atStart => exact ⟨rfl, rfl⟩
  case round =>
    obtain ⟨rfl, rfl⟩ := hrel
    go_wp2
    go_ret
    exact ⟨rfl, Below.refl _ _⟩

set_option maxHeartbeats 1000000 in
theorem held_some (b off cap k n : Nat) (w : World) (hc : Strs.At w b off (mkl k n)) (h0 : 0 < n) (hk : 1 ≤ k) (hn : k + n ≤ 100000000) :
    Calls Tryd.prog 12 #[.slice (some ⟨b, off, none⟩) n cap, .int .i64 (k : Int)] w (Held k n w) := by
  have hbl := Strs.at_lt hc (by rw [mkl_len]; exact h0)
  have HC := Lib.hid hc
  clear hc
  go_enter Tryd.func12, Tryd.ntmps12
  go_wp2
  go_loopw [1, 5] (fun q i wr => ∃ j : Nat, j ≤ n ∧ i = .int .i64 (j : Int) ∧ q = .int .i64 ((k + j : Nat) : Int) ∧ Below w.heap.size w wr) (fun _ i _ => n - (intOf i).toNat)
  case atStart => exact ⟨0, Nat.zero_le _, rfl, rfl, Below.refl _ _⟩
  case round =>
    obtain ⟨j, hj, rfl, rfl, hb⟩ := hrel
    by_cases hlt : j < n
    · have hcell : wr.cell? ⟨b, off + j, none⟩ = some (Strs.sv (mt (k + j))) := by
        rw [← mkl_at hlt]
        exact Strs.at_below HC.out hb hbl j (by rw [mkl_len]; exact hlt)
      have hcell' : wr.drew.cell? ⟨b, off + j, none⟩ = some (Strs.sv (mt (k + j))) := hcell
      have hbs := hb.size
      have HB := Lib.hid hb
      unfold Strs.sv at hcell hcell'
      have c1 := mark_text (k + j) wr.drew (by omega) (by omega)
      have hkj : Hid ((k + j : Nat) = k + j) := Lib.hid rfl
      generalize mt (k + j) = z at *
      clear hb
      go_wp2
      go_region_with (go_at_call 23; refine c1.mono ?_; rintro e w1 ⟨rfl, hb1⟩; have hc1 : w1.cell? ⟨b, off + j, none⟩ = some (.string ⟨z.toArray⟩) := (hb1.cell (p := ⟨b, off + j, none⟩) (by show b < wr.heap.size; omega)).trans hcell'; have H1 := Lib.hid (Base.then_below HB.out (below_of_drew hb1)); clear hb1)
      all_goals go_wp2
      all_goals go_roundw
      all_goals first | exact ⟨j + 1, by omega, by go_num, by go_num, H1.out⟩ | (simp [intOf]; omega)
    · have HR := Lib.hid (show k + j = k + n by omega)
      go_wp2
      go_ret
      exact ⟨ret_nat HR.out, hb⟩

theorem held_strs (B : Nat) (v : Value) (k n : Nat) (w : World) (h : Strs.Holds w B v (mkl k n)) (hk : 1 ≤ k) (hn : k + n ≤ 100000000) :
    Calls Tryd.prog 12 #[v, .int .i64 (k : Int)] w (Held k n w) := by
  rcases h with ⟨e, a, cap, rfl⟩ | ⟨h0, b, off, cap, rfl, _, _, hc⟩
  · have : n = 0 := by have := congrArg List.length e; rw [mkl_len] at this; simpa using this
    subst this
    exact held_nil a cap k w
  · rw [mkl_len] at h0 ⊢
    exact held_some b off cap k n w hc h0 hk hn
end Go.Proofs.YtbkjioggohjnfaaDoor.Mark
