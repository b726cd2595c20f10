/-
  CONTRACTS AND PLAIN FACTS, several texts in one; each says in its own words what it proves.
-/
import Derived.Test.YtojmkdggkaocdaaGreatDoorPqC
import Derived.LoopTactic
import Derived.Outline
import Derived.RegionTactic
import Derived.Deep.RegionWith
import Derived.Test.YtojmkdggkaocdaaGreatDoorRows
import Derived.WalkKit
import Derived.ProofKit
import Derived.Lib.Hide
import Derived.OpenShut
import Derived.Test.YtojmkdggkaocdaaGreatDoorPqA

/-
  CONTRACTS of the laws' helpers for slices of Hop (written by rec.py): a copy (toHop, toHopS) and the comparison of two that hold the same (eqHop, eqHopS). Nothing that was there before is changed.
-/
namespace Go.Proofs.YtojmkdggkaocdaaGreatDoor.Hps
open Go Go.RowKit
set_option linter.unusedVariables false
set_option maxRecDepth 1000000

theorem copy_one (f : T) (w : World) : Calls Tryz.prog 10 #[fv f] w fun e w' => e = .returned (fv f) ∧ Below w.heap.size w w' := by
  obtain ⟨x, y, u⟩ := f
  unfold fv
  dsimp only

  go_enter Tryz.func10, Tryz.ntmps10
  go_wp2
  refine bodyPost_ret (v := .agg #[.int .i64 (x), .int .i64 (y), .int .i64 (u)]) (by simp [results, Tryz.results10, go_sem]) rfl ⟨rfl, ?_⟩
  exact (((Below.refl _ _).alloc (Nat.le_refl _) _).alloc (by simp) _).alloc (by simp; omega) _
theorem copy_two (x : Int) (y : Int) (u : Int) (w : World) : Calls Tryz.prog 10 #[.agg #[.int .i64 (x), .int .i64 (y), .int .i64 (u)]] w fun e w' => e = .returned (.agg #[.int .i64 (x), .int .i64 (y), .int .i64 (u)]) ∧ Below w.heap.size w w' := copy_one (x, y, u) w

def Copied (l : List T) (w : World) (e : Ending) (w' : World) : Prop := ∃ v, e = .returned v ∧ Own w' w.heap.size v l ∧ Below w.heap.size w w'
/-- .. and the slice is not nil. -/
def Copied' (l : List T) (w : World) (e : Ending) (w' : World) : Prop := ∃ v, e = .returned v ∧ Own w' w.heap.size v l ∧ Below w.heap.size w w' ∧ ∃ g cap, v = .slice (some ⟨g, 0, none⟩) l.length cap

theorem copy_nil (a : Option Addr) (cap : Nat) (w : World) :
    Calls Tryz.prog 17 #[.slice a 0 cap] w (Copied' [] w) := by
  obtain ⟨i0, hi, hz0, hz1, hz2⟩ := info_parts info_r
  go_enter Tryz.func17, Tryz.ntmps17
  go_wp2_with (refine wpList_make_full _ (by rfl) (.tmp 6) (.tmp 6) 42 (by rfl) w.heap.size 34 i0 (.agg #[.int .i64 0, .int .i64 0, .int .i64 0]) 3 Tryz.underlying42 hi hz0 hz1 .i64 .i64 _ _ 0 (by rfl) (by rfl) rfl rfl (by rw [hz2]; omega) (by decide) (Nat.le_refl _) ?_; intro w1 hown hgrow)
  have e := made_part []
  rw [show ([] : List T).length * 3 = 0 * 3 from rfl, show fcs (part [] 0) = fcs [] from rfl] at e
  rw [e] at hown
  clear e
  go_loop [4] (fun i => i = .int .i64 0) (fun i => 0)
  case atStart => rfl
  case round =>
    obtain rfl := hrel
    go_wp2
    go_ret
    exact ⟨_, rfl, hown, (Below.refl _ _).grown hgrow (Nat.le_refl _) (fun k e => by cases e), ⟨_, _, rfl⟩⟩

set_option maxHeartbeats 1000000 in
theorem copy_some (b off cap : Nat) (l : List T) (w : World) (hc : At w b off l) (h0 : 0 < l.length) (hl : l.length ≤ 1048576) :
    Calls Tryz.prog 17 #[.slice (some ⟨b, off, none⟩) l.length cap] w (Copied' l w) := by
  obtain ⟨i0, hi, hz0, hz1, hz2⟩ := info_parts info_r
  have hbl := at_lt hc h0
  have HC := Lib.hid hc
  clear hc
  go_enter Tryz.func17, Tryz.ntmps17
  go_wp2_with (at_make; refine wpList_make_full _ rfl (.tmp 6) (.tmp 6) 42 rfl w.heap.size 34 i0 (.agg #[.int .i64 0, .int .i64 0, .int .i64 0]) 3 Tryz.underlying42 hi hz0 hz1 .i64 .i64 _ _ l.length rfl rfl rfl rfl (by rw [hz2]; omega) (by unfold maxLen; omega) (Nat.le_refl _) ?_; intro w1 hown hgrow)
  rw [made_part] at hown
  have hb1 : Below w.heap.size w w1 := (Below.refl _ _).grown hgrow (Nat.le_refl _) (fun k e => by cases e)
  clear hgrow hi hz0 hz1 hz2
  have HO := Lib.hid hown
  clear hown
  go_loopw [4] (fun i wr => ∃ k : Nat, k ≤ l.length ∧ i = .int .i64 k ∧
      wr.ownsRow w.heap.size 34 3 (.slice (some ⟨w.heap.size, 0, none⟩) l.length l.length) l.length (fcs (part l k)) ∧ Below w.heap.size w wr) (fun i _ => l.length - (intOf i).toNat)
  case atStart => exact ⟨0, Nat.zero_le _, rfl, HO.out, hb1⟩
  case round =>
    obtain ⟨k, hk, rfl, hown, hb⟩ := hrel
    clear HO hb1
    by_cases hlt : k < l.length
    · obtain ⟨c0, c1, c2⟩ := at_cells (at_below HC.out hb hbl) hlt
      have HP := Lib.hid (part_more hlt)
      have HQ : Hid (k < (part l k).length) := Lib.hid (by rw [part_len l hk]; exact hlt)
      have HO := Lib.hid hown
      have HB := Lib.hid hb
      clear hown hb
      generalize hy : l.getD k nov = f at c0 c1 c2 HP
      clear hy
      obtain ⟨x, y, u⟩ := f
      dsimp only at c0 c1 c2
      go_wp2_with (go_at_call 10; refine (copy_two x y u wr).mono ?_; rintro e w' ⟨rfl, hb1⟩; have HB1 := Lib.hid (Base.then_below HB.out (hb1.mono (Nat.le_refl _))); have hr1 := row_below HO.out hb1; have HL1 := hr1.1; obtain ⟨d0, d1, d2⟩ := own_cells hr1 hlt; have f0 := hr1.frozenAt (k * 3); have f1 := hr1.frozenAt (k * 3 + 1); have f2 := hr1.frozenAt (k * 3 + 2); have HR1 := Lib.hid hr1; clear hr1 hb1)
      have s0 := HR1.out.stored (k * 3) (.int .i64 (x))
      have s1 := s0.1.stored (k * 3 + 1) (.int .i64 (y))
      have s2 := s1.1.stored (k * 3 + 2) (.int .i64 (u))
      have e' := fcs_put (l := part l k) (x, y, u) HQ.out
      dsimp only at e'
      rw [e', HP.out] at s2
      have hz0 := HB1.out.size
      have hz1 := s0.2.size
      have hz2 := s1.2.size
      have hbb := (((HB1.out.grown s0.2 (by omega) (fun j e => by cases e; exact Nat.le_refl _)).grown s1.2 (by omega) (fun j e => by cases e; exact Nat.le_refl _)).grown s2.2 (by omega) (fun j e => by cases e; exact Nat.le_refl _))
      go_roundw
      case rel => exact ⟨k + 1, by omega, by go_num, s2.1, hbb⟩
      case measure => simp [intOf]; omega
    · obtain rfl : k = l.length := by omega
      rw [part_all] at hown
      go_wp2
      go_ret
      exact ⟨_, rfl, hown, hb, ⟨_, _, rfl⟩⟩

theorem copy' (v : Value) (B : Nat) (l : List T) (w : World) (h : Holds w B v l) (hl : l.length ≤ 1048576) :
    Calls Tryz.prog 17 #[v] w (Copied' l w) := by
  rcases h with ⟨rfl, a, cap, rfl⟩ | ⟨h0, b, off, cap, rfl, _, _, hc⟩
  · exact copy_nil a cap w
  · exact copy_some b off cap l w hc h0 hl
theorem copy (v : Value) (B : Nat) (l : List T) (w : World) (h : Holds w B v l) (hl : l.length ≤ 1048576) :
    Calls Tryz.prog 17 #[v] w (Copied l w) :=
  (copy' v B l w h hl).mono fun e w' ⟨v', h1, h2, h3, _⟩ => ⟨v', h1, h2, h3⟩

theorem eq_one (s0 : Int) (s1 : Int) (s2 : Int) (w : World) : Calls Tryz.prog 54 #[.agg #[.int .i64 (s0), .int .i64 (s1), .int .i64 (s2)], .agg #[.int .i64 (s0), .int .i64 (s1), .int .i64 (s2)]] w (Rec.Yes w) := by
  go_enter Tryz.func54, Tryz.ntmps54
  go_wp2
  go_ret
  exact ⟨rfl, ((Below.refl _ _).alloc (Nat.le_refl _) _).alloc (by simp) _⟩

theorem eq_nil (a a' : Option Addr) (cap cap' : Nat) (w : World) :
    Calls Tryz.prog 19 #[.slice a 0 cap, .slice a' 0 cap'] w (Rec.Yes w) := by
  go_enter Tryz.func19, Tryz.ntmps19
  go_wp2
  go_loop [5] (fun i => i = .int .i64 0) (fun i => 0)
  case atStart => rfl
  case round =>
    obtain rfl := hrel
    go_wp2
    go_ret
    exact ⟨rfl, Below.refl _ _⟩

set_option maxHeartbeats 1000000 in
theorem eq_some (b off cap b' off' cap' : Nat) (l : List T) (w : World) (hc : At w b off l) (hc' : At w b' off' l) (h0 : 0 < l.length) (hl : l.length ≤ 4194304) :
    Calls Tryz.prog 19 #[.slice (some ⟨b, off, none⟩) l.length cap, .slice (some ⟨b', off', none⟩) l.length cap'] w (Rec.Yes w) := by
  have hbl := at_lt hc h0
  have hbl' := at_lt hc' h0
  have HC := Lib.hid hc
  have HC' := Lib.hid hc'
  clear hc hc'
  go_enter Tryz.func19, Tryz.ntmps19
  go_wp2
  go_loopw [5] (fun i wr => ∃ k : Nat, k ≤ l.length ∧ i = .int .i64 k ∧ Below w.heap.size w wr) (fun i _ => l.length - (intOf i).toNat)
  case atStart => exact ⟨0, Nat.zero_le _, rfl, Below.refl _ _⟩
  case round =>
    obtain ⟨k, hk, rfl, hb⟩ := hrel
    by_cases hlt : k < l.length
    · have cc := at_cells (at_below HC.out (Rec.below_drew hb) hbl) hlt
      have cc' := at_cells (at_below HC'.out (Rec.below_drew hb) hbl') hlt
      obtain ⟨s0, hs0⟩ : ∃ z : Int, z = (l.getD k nov).1 := ⟨_, rfl⟩
      obtain ⟨s1, hs1⟩ : ∃ z : Int, z = (l.getD k nov).2.1 := ⟨_, rfl⟩
      obtain ⟨s2, hs2⟩ : ∃ z : Int, z = (l.getD k nov).2.2 := ⟨_, rfl⟩
      rw [← hs0, ← hs1, ← hs2] at cc cc'
      clear hs0 hs1 hs2
      obtain ⟨c0, c1, c2⟩ := cc
      obtain ⟨e0, e1, e2⟩ := cc'
      have HB := Lib.hid (Rec.below_drew hb)
      clear hb
      go_wp2
      go_region_with (go_at_call 54; refine (eq_one s0 s1 s2 wr.drew).mono ?_; rintro e wt ⟨rfl, hb1⟩; have HB1 := Lib.hid (Base.then_below HB.out hb1); clear hb1)
      all_goals go_wp2
      all_goals go_roundw
      all_goals first
        | exact ⟨k + 1, by omega, by go_num, HB1.out⟩
        | (simp [intOf]; omega)
    · go_wp2
      go_ret
      exact ⟨rfl, hb⟩

theorem eq_wide (v v' : Value) (B B' : Nat) (l : List T) (w : World) (h : Holds w B v l) (h' : Holds w B' v' l) (hl : l.length ≤ 4194304) :
    Calls Tryz.prog 19 #[v, v'] w (Rec.Yes w) := by
  rcases h with ⟨rfl, a, cap, rfl⟩ | ⟨h0, b, off, cap, rfl, _, _, hc⟩
  · rcases h' with ⟨_, a', cap', rfl⟩ | ⟨h0, _⟩
    · exact eq_nil a a' cap cap' w
    · exact absurd h0 (by simp)
  · rcases h' with ⟨rfl, _⟩ | ⟨_, b', off', cap', rfl, _, _, hc'⟩
    · exact absurd h0 (by simp)
    · exact eq_some b off cap b' off' cap' l w hc hc' h0 hl
theorem eq_same (v v' : Value) (B B' : Nat) (l : List T) (w : World) (h : Holds w B v l) (h' : Holds w B' v' l) (hl : l.length ≤ 1048576) :
    Calls Tryz.prog 19 #[v, v'] w (Rec.Yes w) := eq_wide v v' B B' l w h h' (Nat.le_trans hl (by decide))
end Go.Proofs.YtojmkdggkaocdaaGreatDoor.Hps

/-
  PLAIN FACTS OF NUMBERS that the contracts of chapter 1 lean on: remainder and quotient rounded down, and Go's own. No word of the program stands here.
-/
namespace Go.Proofs.YtojmkdggkaocdaaGreatDoor.NumDiv
open Go Go.RowKit
set_option linter.unusedVariables false
set_option maxRecDepth 1000000

/-- Go's remainder, made not negative; 0 for a divisor out of range. -/
def md (n m : Int) : Int := if 1 ≤ m ∧ m ≤ 1000000000000 then n % m else 0
/-- the quotient rounded down; 0 for a divisor out of range. -/
def fd (n m : Int) : Int := if 1 ≤ m ∧ m ≤ 1000000000000 then n / m else 0

theorem md_out {n m : Int} (h : m < 1 ∨ 1000000000000 < m) : md n m = 0 := by unfold md; rw [if_neg (by omega)]
theorem fd_out {n m : Int} (h : m < 1 ∨ 1000000000000 < m) : fd n m = 0 := by unfold fd; rw [if_neg (by omega)]
theorem md_in {n m : Int} (h : 1 ≤ m) (h2 : m ≤ 1000000000000) : md n m = n % m := by unfold md; rw [if_pos ⟨h, h2⟩]
theorem fd_in {n m : Int} (h : 1 ≤ m) (h2 : m ≤ 1000000000000) : fd n m = n / m := by unfold fd; rw [if_pos ⟨h, h2⟩]

theorem tmod_bd (n m : Int) (h : 1 ≤ m) : -m < n.tmod m ∧ n.tmod m < m := by
  constructor
  · exact Int.lt_tmod_of_pos n (by omega)
  · exact Int.tmod_lt_of_pos n (by omega)
theorem tmod_split (n m : Int) (h : 1 ≤ m) : n.tmod m = n % m ∨ (0 < n % m ∧ n.tmod m = n % m - m) := by
  have e := Int.tmod_eq_emod (a := n) (b := m)
  have p := Int.emod_nonneg n (show m ≠ 0 by omega)
  by_cases c : 0 ≤ n ∨ m ∣ n
  · rw [if_pos c] at e; left; rw [e]; simp
  · rw [if_neg c] at e
    right
    have hz : n % m ≠ 0 := fun z => c (Or.inr (Int.dvd_of_emod_eq_zero z))
    exact ⟨by omega, by omega⟩
theorem tmod_neg_emod {n m : Int} (h : 1 ≤ m) (hr : n.tmod m < 0) : n.tmod m + m = n % m := by
  have p := Int.emod_nonneg n (show m ≠ 0 by omega)
  rcases tmod_split n m h with e | ⟨_, e⟩ <;> omega
theorem tmod_pos_emod {n m : Int} (h : 1 ≤ m) (hr : 0 ≤ n.tmod m) : n.tmod m = n % m := by
  have p := Int.emod_lt_of_pos n (show 0 < m by omega)
  rcases tmod_split n m h with e | ⟨_, e⟩ <;> omega
theorem tdiv_neg {n m : Int} (h : 1 ≤ m) (hr : n.tmod m < 0) : n.tdiv m - 1 = n / m := by
  have e := tmod_neg_emod h hr
  have a := Int.mul_tdiv_add_tmod n m
  have b := Int.mul_ediv_add_emod n m
  have : m * (n.tdiv m - 1) = m * (n / m) := by rw [Int.mul_sub]; omega
  exact Int.eq_of_mul_eq_mul_left (show m ≠ 0 by omega) this
theorem tdiv_pos {n m : Int} (h : 1 ≤ m) (hr : 0 ≤ n.tmod m) : n.tdiv m = n / m := by
  have e := tmod_pos_emod h hr
  have a := Int.mul_tdiv_add_tmod n m
  have b := Int.mul_ediv_add_emod n m
  have : m * (n.tdiv m) = m * (n / m) := by omega
  exact Int.eq_of_mul_eq_mul_left (show m ≠ 0 by omega) this

theorem q_bd' (n m : Int) (h : 1 ≤ m) (a : -9223372036854775808 ≤ n) (b : n ≤ 9223372036854775807) : -9223372036854775808 ≤ n / m ∧ n / m ≤ 9223372036854775807 := by
  constructor
  · refine Int.le_ediv_of_mul_le (by omega) ?_
    have : (-9223372036854775808 : Int) * m ≤ -9223372036854775808 * 1 := Int.mul_le_mul_of_nonpos_left (by omega) h
    omega
  · by_cases z : 0 ≤ n
    · have := Int.ediv_le_self m z; omega
    · have := Int.ediv_neg_of_neg_of_pos (show n < 0 by omega) (show 0 < m by omega); omega
theorem q_bd (n m : Int) (h : 1 ≤ m) (a : -9223372036854775808 ≤ n) (b : n ≤ 9223372036854775807) : -9223372036854775808 ≤ n.tdiv m ∧ n.tdiv m ≤ 9223372036854775807 := by
  have c := q_bd' n m h a b
  by_cases hr : n.tmod m < 0
  · have d := tdiv_neg h hr
    have e : n < 0 := by
      by_cases z : 0 ≤ n
      · have := Int.tmod_nonneg m z; omega
      · omega
    have := Int.ediv_neg_of_neg_of_pos e (show 0 < m by omega)
    omega
  · rw [tdiv_pos h (by omega)]; exact c
theorem ret_int {k : IntKind} {a b : Int} (h : a = b) : Ending.returned (.int k a) = .returned (.int k b) := by rw [h]
end Go.Proofs.YtojmkdggkaocdaaGreatDoor.NumDiv

/-
  CONTRACT of the model's small test l1In: whether a number lies between two others; the world stays as it was.
-/
namespace Go.Proofs.YtojmkdggkaocdaaGreatDoor.NumDiv
open Go Go.RowKit
set_option linter.unusedVariables false
set_option maxRecDepth 1000000

theorem in_yes (x lo hi : Int) (w : World) (h1 : lo ≤ x) (h2 : x ≤ hi) :
    Calls Tryz.prog 36 #[.int .i64 x, .int .i64 lo, .int .i64 hi] w fun e w' => e = .returned (.bool true) ∧ w = w' := by
  go_enter Tryz.func36, Tryz.ntmps36
  go_wp2
  go_ret
  exact ⟨rfl, rfl⟩
theorem in_no (x lo hi : Int) (w : World) (h : x < lo ∨ hi < x) :
    Calls Tryz.prog 36 #[.int .i64 x, .int .i64 lo, .int .i64 hi] w fun e w' => e = .returned (.bool false) ∧ w = w' := by
  by_cases h1 : lo ≤ x
  · have h2 : ¬ x ≤ hi := by omega
    clear h
    go_enter Tryz.func36, Tryz.ntmps36
    go_wp2
    go_ret
    exact ⟨rfl, rfl⟩
  · clear h
    go_enter Tryz.func36, Tryz.ntmps36
    go_wp2
    go_ret
    exact ⟨rfl, rfl⟩
end Go.Proofs.YtojmkdggkaocdaaGreatDoor.NumDiv

/-
  CONTRACT of the program's isWithin; the world stays as it was.
-/
namespace Go.Proofs.YtojmkdggkaocdaaGreatDoor.Win
open Go Go.RowKit
set_option linter.unusedVariables false
set_option maxRecDepth 1000000
theorem within_yes (n l : Int) (w : World) (h : 0 ≤ n) (h2 : n ≤ l) : Calls Tryz.prog 43 #[.int .i64 n, .int .i64 l] w fun e w' => e = .returned (.bool true) ∧ w = w' := by
  go_enter Tryz.func43, Tryz.ntmps43
  go_wp2
  go_ret
  exact ⟨rfl, rfl⟩
theorem within_no (n l : Int) (w : World) (h : n < 0 ∨ l < n) : Calls Tryz.prog 43 #[.int .i64 n, .int .i64 l] w fun e w' => e = .returned (.bool false) ∧ w = w' := by
  by_cases h0 : 0 ≤ n
  · have h1 : ¬ n ≤ l := by omega
    clear h
    go_enter Tryz.func43, Tryz.ntmps43
    go_wp2
    go_ret
    exact ⟨rfl, rfl⟩
  · clear h
    go_enter Tryz.func43, Tryz.ntmps43
    go_wp2
    go_ret
    exact ⟨rfl, rfl⟩
end Go.Proofs.YtojmkdggkaocdaaGreatDoor.Win

/-
  CONTRACTS of both sides' IsHop; nothing that was there before is changed.
-/
namespace Go.Proofs.YtojmkdggkaocdaaGreatDoor.Hps
open Go Go.RowKit
set_option linter.unusedVariables false
set_option maxRecDepth 1000000

/-- A hop whose numbers are as they should be. -/
def okh (f : T) : Bool := decide (-1000 ≤ f.1 ∧ f.1 ≤ 1000) && (decide (0 ≤ f.2.1 ∧ f.2.1 ≤ 1000) && decide (0 ≤ f.2.2 ∧ f.2.2 ≤ 100000))
def BoolEnd (b : Bool) (w : World) (e : Ending) (w' : World) : Prop := e = .returned (.bool b) ∧ Below w.heap.size w w'
theorem ret_b {a b : Bool} (h : a = b) : Ending.returned (.bool a) = .returned (.bool b) := by rw [h]
theorem okh1 {x y z : Int} (h : ¬ (-1000 ≤ x ∧ x ≤ 1000)) : okh (x, y, z) = false := by unfold okh; simp [h]
theorem okh2 {x y z : Int} (h : ¬ (0 ≤ y ∧ y ≤ 1000)) : okh (x, y, z) = false := by unfold okh; simp [h]
theorem okh3 {x y z : Int} (h : ¬ (0 ≤ z ∧ z ≤ 100000)) : okh (x, y, z) = false := by unfold okh; simp [h]
theorem okh4 {x y z : Int} (h1 : -1000 ≤ x ∧ x ≤ 1000) (h2 : 0 ≤ y ∧ y ≤ 1000) (h3 : 0 ≤ z ∧ z ≤ 100000) : okh (x, y, z) = true := by unfold okh; simp [h1, h2, h3]

set_option maxHeartbeats 2000000 in
theorem spec_hop (x y z : Int) (w : World) :
    Calls Tryz.prog 35 #[fv (x, y, z)] w (BoolEnd (okh (x, y, z)) w) := by
  unfold fv
  have HB : Hid (Below w.heap.size w (w.alloc (.cells #[.int .i64 x, .int .i64 y, .int .i64 z] 34))) := Lib.hid ((Below.refl _ _).alloc (Nat.le_refl _) _)
  by_cases h1 : -1000 ≤ x ∧ x ≤ 1000
  case neg =>
    have HE := Lib.hid (okh1 (x := x) (y := y) (z := z) h1)
    have HN : Hid (x < -1000 ∨ 1000 < x) := Lib.hid (by omega)
    clear h1
    go_enter Tryz.func35, Tryz.ntmps35
    go_wp2_with (fail)
    go_at_call 36
    refine (NumDiv.in_no _ _ _ _ HN.out).mono ?_
    rintro e w' ⟨rfl, rfl⟩
    go_wp2
    go_ret
    exact ⟨ret_b HE.out.symm, HB.out⟩
  by_cases h2 : 0 ≤ y ∧ y ≤ 1000
  case neg =>
    have HE := Lib.hid (okh2 (x := x) (y := y) (z := z) h2)
    have HN : Hid (y < 0 ∨ 1000 < y) := Lib.hid (by omega)
    clear h2
    go_enter Tryz.func35, Tryz.ntmps35
    go_wp2_with (fail)
    go_at_call 36
    refine (NumDiv.in_yes _ _ _ _ h1.1 h1.2).mono ?_
    rintro e w' ⟨rfl, rfl⟩
    go_wp2_with (fail)
    go_at_call 36
    refine (NumDiv.in_no _ _ _ _ HN.out).mono ?_
    rintro e w' ⟨rfl, rfl⟩
    go_wp2
    go_ret
    exact ⟨ret_b HE.out.symm, HB.out⟩
  by_cases h3 : 0 ≤ z ∧ z ≤ 100000
  case neg =>
    have HE := Lib.hid (okh3 (x := x) (y := y) (z := z) h3)
    have HN : Hid (z < 0 ∨ 100000 < z) := Lib.hid (by omega)
    clear h3
    go_enter Tryz.func35, Tryz.ntmps35
    go_wp2_with (fail)
    go_at_call 36
    refine (NumDiv.in_yes _ _ _ _ h1.1 h1.2).mono ?_
    rintro e w' ⟨rfl, rfl⟩
    go_wp2_with (fail)
    go_at_call 36
    refine (NumDiv.in_yes _ _ _ _ h2.1 h2.2).mono ?_
    rintro e w' ⟨rfl, rfl⟩
    go_wp2_with (fail)
    go_at_call 36
    refine (NumDiv.in_no _ _ _ _ HN.out).mono ?_
    rintro e w' ⟨rfl, rfl⟩
    go_wp2
    go_ret
    exact ⟨ret_b HE.out.symm, HB.out⟩
  have HE := Lib.hid (okh4 h1 h2 h3)
  go_enter Tryz.func35, Tryz.ntmps35
  go_wp2_with (fail)
  go_at_call 36
  refine (NumDiv.in_yes _ _ _ _ h1.1 h1.2).mono ?_
  rintro e w' ⟨rfl, rfl⟩
  go_wp2_with (fail)
  go_at_call 36
  refine (NumDiv.in_yes _ _ _ _ h2.1 h2.2).mono ?_
  rintro e w' ⟨rfl, rfl⟩
  go_wp2_with (fail)
  go_at_call 36
  refine (NumDiv.in_yes _ _ _ _ h3.1 h3.2).mono ?_
  rintro e w' ⟨rfl, rfl⟩
  go_wp2
  go_ret
  exact ⟨ret_b HE.out.symm, HB.out⟩

set_option maxHeartbeats 2000000 in
theorem impl_hop (x y z : Int) (w : World) :
    Calls Tryz.prog 42 #[fv (x, y, z)] w (BoolEnd (okh (x, y, z)) w) := by
  unfold fv
  have HB : Hid (Below w.heap.size w (w.alloc (.cells #[.int .i64 x, .int .i64 y, .int .i64 z] 34))) := Lib.hid ((Below.refl _ _).alloc (Nat.le_refl _) _)
  by_cases h1a : -1000 ≤ x
  case neg =>
    have HE := Lib.hid (okh1 (x := x) (y := y) (z := z) (fun h => h1a h.1))
    go_enter Tryz.func42, Tryz.ntmps42
    go_wp2
    go_ret
    exact ⟨ret_b HE.out.symm, HB.out⟩
  by_cases h1b : x ≤ 1000
  case neg =>
    have HE := Lib.hid (okh1 (x := x) (y := y) (z := z) (fun h => h1b h.2))
    go_enter Tryz.func42, Tryz.ntmps42
    go_wp2
    go_ret
    exact ⟨ret_b HE.out.symm, HB.out⟩
  by_cases h2 : 0 ≤ y ∧ y ≤ 1000
  case neg =>
    have HE := Lib.hid (okh2 (x := x) (y := y) (z := z) h2)
    have HN : Hid (y < 0 ∨ 1000 < y) := Lib.hid (by omega)
    clear h2
    go_enter Tryz.func42, Tryz.ntmps42
    go_wp2_with (fail)
    go_at_call 43
    refine (Win.within_no _ _ _ HN.out).mono ?_
    rintro e w' ⟨rfl, rfl⟩
    go_wp2
    go_ret
    exact ⟨ret_b HE.out.symm, HB.out⟩
  by_cases h3 : 0 ≤ z ∧ z ≤ 100000
  case neg =>
    have HE := Lib.hid (okh3 (x := x) (y := y) (z := z) h3)
    have HN : Hid (z < 0 ∨ 100000 < z) := Lib.hid (by omega)
    clear h3
    go_enter Tryz.func42, Tryz.ntmps42
    go_wp2_with (fail)
    go_at_call 43
    refine (Win.within_yes _ _ _ h2.1 h2.2).mono ?_
    rintro e w' ⟨rfl, rfl⟩
    go_wp2_with (fail)
    go_at_call 43
    refine (Win.within_no _ _ _ HN.out).mono ?_
    rintro e w' ⟨rfl, rfl⟩
    go_wp2
    go_ret
    exact ⟨ret_b HE.out.symm, HB.out⟩
  have HE := Lib.hid (okh4 ⟨h1a, h1b⟩ h2 h3)
  go_enter Tryz.func42, Tryz.ntmps42
  go_wp2_with (fail)
  go_at_call 43
  refine (Win.within_yes _ _ _ h2.1 h2.2).mono ?_
  rintro e w' ⟨rfl, rfl⟩
  go_wp2_with (fail)
  go_at_call 43
  refine (Win.within_yes _ _ _ h3.1 h3.2).mono ?_
  rintro e w' ⟨rfl, rfl⟩
  go_wp2
  go_ret
  exact ⟨ret_b HE.out.symm, HB.out⟩
end Go.Proofs.YtojmkdggkaocdaaGreatDoor.Hps

/-
  CONTRACT of the program's filterFields, at any closure with one captured variable that only reads: it returns, in new memory, the fields that the closure keeps; nothing that was there before is changed.
-/
namespace Go.Proofs.YtojmkdggkaocdaaGreatDoor.Flds
open Go Go.RowKit
set_option linter.unusedVariables false
set_option maxRecDepth 1000000

theorem filt_more {p : Fld → Bool} {l : List Fld} {k : Nat} (h : k < l.length) : (l.take (k + 1)).filter p = if p (l.getD k nofld) = true then (l.take k).filter p ++ [l.getD k nofld] else (l.take k).filter p := by
  rw [List.take_succ_eq_append_getElem h, List.filter_append]
  have e : l.getD k nofld = l[k] := by simp [List.getD, h]
  rw [e]
  by_cases hp : p l[k] = true
  · simp [hp]
  · simp [hp]
theorem filt_le (p : Fld → Bool) (l : List Fld) (k : Nat) : ((l.take k).filter p).length ≤ l.length := by
  have h1 := List.length_filter_le p (l.take k); have h2 := List.length_take_le' k l; omega

def FilterEnd (l : List Fld) (w : World) (e : Ending) (w' : World) : Prop := ∃ v, e = .returned v ∧ Own w' w.heap.size v l ∧ Below w.heap.size w w'
/-- K is a function with a body. -/
def Enters (K : FuncId) : Prop := ∀ (args : Array Value) (w : World), Sem.run Tryz.prog (callFunc K args) w = .ok (.enter K args) w
/-- What a closure that keeps by 'p' does, at every world that has only grown. -/
def Keeps (K : FuncId) (q : Value) (p : Fld → Bool) (w : World) : Prop := ∀ (x y : List UInt8) (wx : World), Below w.heap.size w wx → Calls Tryz.prog K #[.agg #[.string ⟨x.toArray⟩, .string ⟨y.toArray⟩], q] wx fun e w' => e = .returned (.bool (p (x, y))) ∧ Below wx.heap.size wx w'

theorem filter_nil (K : FuncId) (q : Value) (a : Option Addr) (cap : Nat) (w : World) :
    Calls Tryz.prog 105 #[.slice a 0 cap, .func (.func K) #[] #[q]] w (FilterEnd [] w) := by
  go_enter Tryz.func105, Tryz.ntmps105
  go_wp2
  go_loop [5, 11] (fun v i => i = .int .i64 0 ∧ v = .slice (some ⟨w.heap.size, 0, none⟩) 0 0) (fun _ i => 0)
  case atStart => exact ⟨rfl, rfl⟩
  case round =>
    obtain ⟨rfl, rfl⟩ := hrel
    go_wp2
    go_ret
    exact ⟨_, rfl, own_lit_nil w, (Below.refl _ _).alloc (Nat.le_refl _) _⟩

theorem alloc_two (w : World) (x y : Value) (T : TypeId) : (w.alloc (.cells #[x, y] T)).cell? ⟨w.heap.size, 0, none⟩ = some x ∧ (w.alloc (.cells #[x, y] T)).cell? ⟨w.heap.size, 1, none⟩ = some y := ⟨by rw [World.cell?_alloc_new]; rfl, by rw [World.cell?_alloc_new]; rfl⟩

set_option maxHeartbeats 1000000 in
theorem filter_some (K : FuncId) (q : Value) (p : Fld → Bool) (b off cap : Nat) (l : List Fld) (w : World) (hE : Enters K) (hK : Keeps K q p w) (hc : At w b off l) (h0 : 0 < l.length) (hl : l.length ≤ 1048576) :
    Calls Tryz.prog 105 #[.slice (some ⟨b, off, none⟩) l.length cap, .func (.func K) #[] #[q]] w (FilterEnd (l.filter p) w) := by
  obtain ⟨i0, hi, hz0, hz1, hz2⟩ := info_parts info_fld
  have hbl := at_lt hc h0
  have HC := Lib.hid hc
  have HK := Lib.hid hK
  have HO := Lib.hid (own_lit_nil w)
  have HE := Lib.hid hE
  clear hc hK hE
  go_enter Tryz.func105, Tryz.ntmps105
  go_wp2
  go_loopw [5, 11] (fun v i wr => ∃ k : Nat, k ≤ l.length ∧ i = .int .i64 (k : Int) ∧ Own wr w.heap.size v ((l.take k).filter p) ∧ Below w.heap.size w wr) (fun _ i _ => l.length - (intOf i).toNat)
  case atStart => exact ⟨0, Nat.zero_le _, rfl, by rw [List.take_zero]; exact HO.out, (Below.refl _ _).alloc (Nat.le_refl _) _⟩
  case round =>
    clear HO
    obtain ⟨k, hk, rfl, hown, hb⟩ := hrel
    by_cases hlt : k < l.length
    · obtain ⟨c1, c2⟩ := at_below HC.out hb hbl k hlt
      have HM := Lib.hid (filt_more (p := p) hlt)
      generalize hx : l.getD k nofld = f at c1 c2 HM
      clear hx
      obtain ⟨x, y⟩ := f
      unfold sv at c1 c2
      have HB := Lib.hid hb
      have HO := Lib.hid hown
      clear hb hown
      have hws := HB.out.size
      have hwa := alloc_two wr (.string ⟨x.toArray⟩) (.string ⟨y.toArray⟩) 119
      have HKx := Lib.hid (HK.out x y (wr.alloc (.cells #[.string ⟨x.toArray⟩, .string ⟨y.toArray⟩] 119)) (HB.out.alloc HB.out.size _))
      by_cases hp : p (x, y) = true
      · rw [hp] at HKx
        rw [if_pos hp] at HM
        clear hp
        have hL := fcs_len ((l.take k).filter p)
        have HL := Lib.hid (filt_le p l k)
        go_wp2_with (fail)
        rw [HE.out, Oper.upon_enter]
        refine HKx.out.mono ?_
        rintro e w1 ⟨rfl, hb1⟩
        have hg1 := hb1.size
        rw [World.size_alloc] at hg1
        have d1 : w1.cell? ⟨wr.heap.size, 0, none⟩ = some (.string ⟨x.toArray⟩) := (hb1.cell (p := ⟨wr.heap.size, 0, none⟩) (by rw [World.size_alloc]; exact Nat.lt_succ_self _)).trans hwa.1
        have d2 : w1.cell? ⟨wr.heap.size, 1, none⟩ = some (.string ⟨y.toArray⟩) := (hb1.cell (p := ⟨wr.heap.size, 1, none⟩) (by rw [World.size_alloc]; exact Nat.lt_succ_self _)).trans hwa.2
        have hbb : Below wr.heap.size wr w1 := ((Below.refl wr.heap.size wr).alloc (Nat.le_refl _) _).trans (hb1.mono (by rw [World.size_alloc]; omega))
        have hown := own_below HO.out hbb
        have hb := HB.out.trans (hbb.mono HB.out.size)
        clear hb1 hbb
        go_wp2_with (at_builtin; refine wpList_append_own _ rfl (.tmp 18) (.tmp 20) 28 rfl w.heap.size 119 i0 (.agg #[.string ⟨#[]⟩, .string ⟨#[]⟩]) 2 32 Tryz.underlying28 hi hz0 hz1 hz2 rfl (by decide) _ _ _ rfl (hown.alloc _) ⟨w1.heap.size, 0, none⟩ 1 1 [.string ⟨x.toArray⟩, .string ⟨y.toArray⟩] rfl rfl (news_two _ _ _ _) (two_one (x, y)) (by have := HL.out; unfold maxLen; omega) (by have := HL.out; omega) (by have := hb.size; simp; omega) ?_; intro v1 w2 hown1 hg2 _)
        have R := Lib.hid (push_own (f := (x, y)) hown hb (Nat.le_refl _) hown1 hg2)
        clear hown hown1 hg2 hb
        go_wp2
        go_roundw
        case rel => exact ⟨k + 1, by omega, by go_num, by rw [HM.out]; exact R.out.1, R.out.2⟩
        case measure => simp [intOf]; omega
      · have hp' : p (x, y) = false := by simpa using hp
        rw [hp'] at HKx
        rw [if_neg hp] at HM
        clear hp hp'
        go_wp2_with (fail)
        rw [HE.out, Oper.upon_enter]
        refine HKx.out.mono ?_
        rintro e w1 ⟨rfl, hb1⟩
        have hbb : Below wr.heap.size wr w1 := ((Below.refl wr.heap.size wr).alloc (Nat.le_refl _) _).trans (hb1.mono (by rw [World.size_alloc]; omega))
        have HR := Lib.hid (And.intro (own_below HO.out hbb) (HB.out.trans (hbb.mono HB.out.size)))
        clear hb1 hbb
        go_wp2
        go_roundw
        case rel => exact ⟨k + 1, by omega, by go_num, by rw [HM.out]; exact HR.out.1, HR.out.2⟩
        case measure => simp [intOf]; omega
    · have HF : Hid ((l.take k).filter p = l.filter p) := Lib.hid (by rw [List.take_of_length_le (by omega)])
      have HO := Lib.hid (And.intro hown hb)
      clear hown hb
      go_wp2
      go_ret
      exact ⟨_, rfl, by rw [← HF.out]; exact HO.out.1, HO.out.2⟩

theorem filter_any (K : FuncId) (q : Value) (p : Fld → Bool) (v : Value) (B : Nat) (l : List Fld) (w : World) (hE : Enters K) (hK : Keeps K q p w) (h : Holds w B v l) (hl : l.length ≤ 1048576) :
    Calls Tryz.prog 105 #[v, .func (.func K) #[] #[q]] w (FilterEnd (l.filter p) w) := by
  rcases h with ⟨rfl, a, cap, rfl⟩ | ⟨h0, b, off, cap, rfl, _, _, hc⟩
  · exact filter_nil K q a cap w
  · exact filter_some K q p b off cap l w hE hK hc h0 hl

/-! The closures of GetField and DropField: one captured text. -/
theorem enters_get : Enters 106 := fun args w => rfl
end Go.Proofs.YtojmkdggkaocdaaGreatDoor.Flds
