/-
  CONTRACTS of the laws' marks at integers (markIntS, heldIntS) and at a sketch (markSketch, heldSketch): they write into a slice of the call's own, and read it again; nothing else that was there before is changed.
-/
import Derived.Test.YtebkhailknbnhaaTouC
import Derived.Test.YtebkhailknbnhaaSkIs
namespace Go.Proofs.Ytebkhailknbnhaa.Ih
open Go Go.RowKit
/-- A slice of integers, and a bound of its block: the names that a law's walk asks for. -/
abbrev Holds (w : World) (B : Nat) (v : Value) (zs : List Int) : Prop := Sk.RH w B v zs
abbrev Own (w : World) (B : Nat) (v : Value) (zs : List Int) : Prop := Nums.OwnI w B v zs
theorem holds_below {w w' : World} {B : Nat} {v : Value} {zs : List Int} (h : Holds w B v zs) (hb : Below B w w') : Holds w' B v zs := Rec.holds_below h hb
theorem holds_grown {w w' : World} {B : Nat} {v : Value} {zs : List Int} {row : Option Nat} (h : Holds w B v zs) (hg : w.grownBy w' row) (hr : ∀ k, row = some k → B ≤ k) : Holds w' B v zs := Rec.holds_grown h hg hr
theorem holds_more {w : World} {B B' : Nat} {v : Value} {zs : List Int} (h : Holds w B v zs) (hB : B ≤ B') : Holds w B' v zs := Rec.holds_more h hB
theorem own_holds {w : World} {B : Nat} {v : Value} {zs : List Int} (h : Own w B v zs) : Holds w w.heap.size v zs := Sk.own_rh h
theorem row_below {w w' : World} {B n : Nat} {v : Value} {xs : List Value} (h : w.ownsRow B 3 1 v n xs) (hb : Below w.heap.size w w') : w'.ownsRow B 3 1 v n xs := Rec.row_below h hb
theorem row_grown {w w' : World} {B n : Nat} {v : Value} {xs : List Value} {row : Option Nat} (h : w.ownsRow B 3 1 v n xs) (hg : w.grownBy w' row) (hr : ∀ g, v.ownBlock = some g → some g ≠ row) : w'.ownsRow B 3 1 v n xs := Rec.row_grown h hg hr
end Go.Proofs.Ytebkhailknbnhaa.Ih
namespace Go.Proofs.Ytebkhailknbnhaa.Sk
open Go Go.RowKit
set_option linter.unusedVariables false
set_option maxRecDepth 1000000
set_option maxRecDepth 1000000

/-- The numbers from k on, n of them. -/
def mki (k n : Nat) : List Int := (List.range n).map (fun i => ((k + i : Nat) : Int))
theorem mki_len (k n : Nat) : (mki k n).length = n := by unfold mki; simp
theorem mki_at {k n j : Nat} (h : j < n) : (mki k n).getD j 0 = ((k + j : Nat) : Int) := by unfold mki; simp [List.getD, h]
theorem mki_more (k n : Nat) : mki k (n + 1) = mki k n ++ [((k + n : Nat) : Int)] := by unfold mki; rw [List.range_succ, List.map_append]; rfl
def mks (l : List Int) (k j : Nat) : List Int := mki k j ++ l.drop j
theorem mks_zero (l : List Int) (k : Nat) : mks l k 0 = l := by unfold mks mki; simp
theorem mks_len {l : List Int} {k j : Nat} (h : j ≤ l.length) : (mks l k j).length = l.length := by unfold mks; rw [List.length_append, mki_len, List.length_drop]; omega
theorem mks_more {l : List Int} {k j : Nat} (h : j < l.length) : (mks l k j).set j ((k + j : Nat) : Int) = mks l k (j + 1) := by
  unfold mks
  rw [List.set_append_right _ _ (by rw [mki_len]; exact Nat.le_refl _), mki_len, Nat.sub_self, List.drop_eq_getElem_cons h, mki_more, List.append_assoc]
  rfl
theorem mks_all {l : List Int} {k j : Nat} (h : j = l.length) : mks l k j = mki k l.length := by unfold mks; subst h; simp
def MarkedI (B : Nat) (v : Value) (k n : Nat) (w : World) (e : Ending) (w' : World) : Prop := e = .returned (.int .i64 ((k + n : Nat) : Int)) ∧ Nums.OwnI w' B v (mki k n) ∧ w.grownBy w' v.ownBlock
theorem g_trans {a b c : World} {row : Option Nat} (h : a.grownBy b row) (k : b.grownBy c row) : a.grownBy c row := ⟨k.os.trans h.os, k.tape.trans h.tape, k.output.trans h.output, Nat.le_trans h.size k.size, fun i hi hr => (k.block i (Nat.lt_of_lt_of_le hi h.size) hr).trans (h.block i hi hr)⟩
theorem g_below {a b : World} {row : Option Nat} (h : Below a.heap.size a b) : a.grownBy b row := ⟨h.os, h.tape, h.output, h.size, fun i hi _ => h.block i hi⟩
theorem ret_nat {a b : Nat} (h : a = b) : Ending.returned (.int .i64 (a : Int)) = .returned (.int .i64 (b : Int)) := by rw [h]

set_option maxHeartbeats 2000000 in
theorem mark_ints (B : Nat) (v : Value) (l : List Int) (k : Nat) (w : World) (hown : Nums.OwnI w B v l) (hn : k + l.length ≤ 100000000) :
    Calls Try.prog 42 #[v, .int .i64 (k : Int)] w (MarkedI B v k l.length w) := by
  obtain ⟨a, cap, rfl, ha⟩ := Rec.shape_at hown
  have HA := Lib.hid ha
  have HO := Lib.hid hown
  clear ha hown
  go_enter Try.func42, Try.ntmps42
  go_wp2
  go_loopw [1, 5] (fun q i wr => ∃ j : Nat, j ≤ l.length ∧ i = .int .i64 (j : Int) ∧ q = .int .i64 ((k + j : Nat) : Int) ∧ Hid (wr.ownsRow B 3 1 (.slice a l.length cap) l.length ((mks l k j).map (Value.int .i64))) ∧ Hid (w.grownBy wr (Value.ownBlock (.slice a l.length cap)))) (fun _ i _ => l.length - (intOf i).toNat)
  case atStart => exact ⟨0, Nat.zero_le _, rfl, rfl, Lib.hid (by rw [mks_zero]; exact HO.out), Lib.hid (g_below (Below.refl _ _))⟩
  case round =>
    clear HO
    obtain ⟨j, hj, rfl, rfl, HO, HB⟩ := hrel
    by_cases hlt : j < l.length
    · obtain ⟨g, rfl⟩ := HA.out (by omega)
      have hji : (j : Int) < (l.length : Int) := by omega
      have d1 := Nums.own_cell HO.out hlt
      have f1 := HO.out.frozenAt j
      have s1 := HO.out.stored j (.int .i64 ((k + j : Nat) : Int))
      rw [← List.map_set, mks_more hlt] at s1
      have HS1 := Lib.hid s1.1
      have HB1 := Lib.hid (g_trans HB.out s1.2)
      generalize ((mks l k j).getD j 0) = old at d1
      clear s1
      go_wp2
      go_roundw
      case rel => exact ⟨j + 1, by omega, by go_num, by go_num, HS1, HB1⟩
      case measure => simp [intOf]; omega
    · have hji : ¬ (j : Int) < (l.length : Int) := by omega
      have HE := Lib.hid (mks_all (l := l) (k := k) (show j = l.length by omega))
      have HR := Lib.hid (show k + j = k + l.length by omega)
      go_wp2
      go_ret
      exact ⟨ret_nat HR.out, by show World.ownsRow _ _ _ _ _ _ _; rw [mki_len]; rw [← HE.out]; exact HO.out, HB.out⟩

def HeldI (k n : Nat) (w : World) (e : Ending) (w' : World) : Prop := e = .returned (.int .i64 ((k + n : Nat) : Int)) ∧ Below w.heap.size w w'
set_option maxHeartbeats 2000000 in
theorem held_ints (v : Value) (k n : Nat) (w : World) (h : Nums.Holds w v (mki k n)) (hn : k + n ≤ 100000000) :
    Calls Try.prog 43 #[v, .int .i64 (k : Int)] w (HeldI k n w) := by
  obtain ⟨a, cap, rfl, ha⟩ := shape_n h
  rw [mki_len] at ha ⊢
  have HA := Lib.hid ha
  clear ha h
  go_enter Try.func43, Try.ntmps43
  go_wp2
  go_loop [1, 5] (fun q i => ∃ j : Nat, j ≤ n ∧ i = .int .i64 (j : Int) ∧ q = .int .i64 ((k + j : Nat) : Int)) (fun _ i => n - (intOf i).toNat)
  case atStart => exact ⟨0, Nat.zero_le _, rfl, rfl⟩
  case round =>
    obtain ⟨j, hj, rfl, rfl⟩ := hrel
    by_cases hlt : j < n
    · obtain ⟨b, off, rfl, hc⟩ := HA.out (by omega)
      have hji : (j : Int) < (n : Int) := by omega
      have d1 := hc j (by rw [mki_len]; exact hlt)
      rw [mki_at hlt] at d1
      clear hc
      go_wp2
      go_roundw
      case rel => exact ⟨j + 1, by omega, by go_num, by go_num⟩
      case measure => simp [intOf]; omega
    · have hji : ¬ (j : Int) < (n : Int) := by omega
      have HR := Lib.hid (show k + j = k + n by omega)
      go_wp2
      go_ret
      exact ⟨ret_nat HR.out, Below.refl _ _⟩

theorem mark_sk (B : Nat) (v : Value) (l : List Int) (n : Int) (k : Nat) (w : World) (hown : Nums.OwnI w B v l) (hn : k + l.length ≤ 100000000) :
    Calls Try.prog 12 #[.agg #[v, .int .i64 n], .int .i64 (k : Int)] w (MarkedI B v k l.length w) := by
  have hb0 : Below w.heap.size w (w.alloc (.cells #[v, .int .i64 n] 26)) := (Below.refl _ _).alloc (Nat.le_refl _) _
  have HB0 := Lib.hid hb0
  have HM := Lib.hid (mark_ints B v l k _ (Rec.row_below hown hb0) hn)
  unfold MarkedI at HM ⊢
  clear hown hb0
  go_enter Try.func12, Try.ntmps12
  go_wp2_with (fail)
  go_at_call 42
  refine HM.out.mono ?_
  rintro e w1 ⟨rfl, ho1, hg⟩
  have HO := Lib.hid ho1
  have HG := Lib.hid (g_trans (g_below (row := v.ownBlock) HB0.out) hg)
  clear ho1 hg
  go_wp2
  go_ret
  exact ⟨rfl, HO.out, HG.out⟩

theorem held_sk (v : Value) (m : Int) (k n : Nat) (w : World) (h : Nums.Holds w v (mki k n)) (hn : k + n ≤ 100000000) :
    Calls Try.prog 13 #[.agg #[v, .int .i64 m], .int .i64 (k : Int)] w (HeldI k n w) := by
  have HB0 := Lib.hid ((Below.refl w.heap.size w).alloc (Nat.le_refl _) (.cells #[v, .int .i64 m] 26))
  have HM := Lib.hid (held_ints v k n _ (Nums.holds_below h HB0.out) hn)
  have hneg : ¬ ((k + n : Nat) : Int) < 0 := by omega
  unfold HeldI at HM ⊢
  clear h
  generalize ((k + n : Nat) : Int) = z at HM hneg ⊢
  go_enter Try.func13, Try.ntmps13
  go_wp2_with (fail)
  go_at_call 43
  refine HM.out.mono ?_
  rintro e w1 ⟨rfl, hb1⟩
  have HB1 := Lib.hid (HB0.out.trans (hb1.mono HB0.out.size))
  clear hb1
  go_wp2
  go_ret
  exact ⟨rfl, HB1.out⟩
end Go.Proofs.Ytebkhailknbnhaa.Sk
