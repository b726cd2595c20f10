/-
  CONTRACTS of FindDirective and HasDirective, the model's and the program's: the index of the first directive with a name; nothing that was there before is changed.
-/
import Derived.Test.YtkmkmgbehnedoaaDoorDir
import Derived.LoopTactic
import Derived.Outline
namespace Go.Proofs.YtkmkmgbehnedoaaDoor.Dir
open Go Go.RowKit
set_option linter.unusedVariables false

/-- How many directives stand in front of the first with this name. -/
def fnd (n : List UInt8) (l : List T) : Nat := l.findIdx (fun d => d.1 == n)
def at1 (n : List UInt8) (l : List T) : Int := if fnd n l < l.length then (fnd n l : Int) else -1
theorem fnd_le (n : List UInt8) (l : List T) : fnd n l ≤ l.length := List.findIdx_le_length
theorem fnd_hit {n : List UInt8} {l : List T} {k : Nat} (hk : k ≤ fnd n l) (h : k < l.length) (e : (l.getD k nov).1 = n) : at1 n l = (k : Int) := by
  have hg : l.getD k nov = l[k] := by simp [List.getD, h]
  have h1 : fnd n l ≤ k := by
    rcases Nat.lt_or_ge k (fnd n l) with hlt | hge
    · have := List.not_of_lt_findIdx (p := fun d : T => d.1 == n) (xs := l) hlt
      rw [hg] at e
      simp [e] at this
    · exact hge
  have : fnd n l = k := by omega
  unfold at1; rw [this, if_pos h]
theorem fnd_miss {n : List UInt8} {l : List T} {k : Nat} (hk : k ≤ fnd n l) (h : k < l.length) (e : (l.getD k nov).1 ≠ n) : k + 1 ≤ fnd n l := by
  have hg : l.getD k nov = l[k] := by simp [List.getD, h]
  rcases Nat.lt_or_ge k (fnd n l) with hlt | hge
  · exact hlt
  · have hkk : fnd n l = k := by omega
    exfalso
    apply e
    rw [hg]
    have h2 : fnd n l < l.length := by omega
    have := List.findIdx_getElem (p := fun d : T => d.1 == n) (xs := l) (w := h2)
    have e3 : l[List.findIdx (fun d : T => d.1 == n) l]'h2 = l[k] := by congr 1
    rw [e3] at this
    simpa using this
theorem fnd_end {n : List UInt8} {l : List T} {k : Nat} (hk : k ≤ fnd n l) (h : ¬ k < l.length) : at1 n l = -1 := by
  unfold at1; rw [if_neg (by omega)]
theorem ret_int {a b : Int} (h : a = b) : Ending.returned (.int .i64 a) = .returned (.int .i64 b) := by rw [h]
def FindEnd (n : List UInt8) (l : List T) (w : World) (e : Ending) (w' : World) : Prop := e = .returned (.int .i64 (at1 n l)) ∧ Below w.heap.size w w'

theorem spec_find_nil (a : Option Addr) (cap : Nat) (n : List UInt8) (w : World) : Calls Tryd.prog 111 #[.slice a 0 cap, .string ⟨n.toArray⟩] w (FindEnd n [] w) := by
  go_enter Tryd.func111, Tryd.ntmps111
  go_wp2
  go_loop [5] (fun i => i = .int .i64 0) (fun i => 0)
  case atStart => rfl
  case round =>
    obtain rfl := hrel
    go_wp2
    go_ret
    exact ⟨rfl, Below.refl _ _⟩
theorem impl_find_nil (a : Option Addr) (cap : Nat) (n : List UInt8) (w : World) : Calls Tryd.prog 106 #[.slice a 0 cap, .string ⟨n.toArray⟩] w (FindEnd n [] w) := by
  go_enter Tryd.func106, Tryd.ntmps106
  go_wp2
  go_loop [9] (fun i => i = .int .i64 0) (fun i => 0)
  case atStart => rfl
  case round =>
    obtain rfl := hrel
    go_wp2
    go_ret
    exact ⟨rfl, Below.refl _ _⟩

set_option maxHeartbeats 1000000 in
theorem spec_find_some (b off cap : Nat) (l : List T) (n : List UInt8) (w : World) (hc : At w b off l) (h0 : 0 < l.length) (hl : l.length ≤ 4194304) :
    Calls Tryd.prog 111 #[.slice (some ⟨b, off, none⟩) l.length cap, .string ⟨n.toArray⟩] w (FindEnd n l w) := by
  have HC := Lib.hid hc
  have HBL := Lib.hid (at_lt hc h0)
  clear hc
  go_enter Tryd.func111, Tryd.ntmps111
  go_wp2
  go_loopw [5] (fun i wr => ∃ k : Nat, k ≤ l.length ∧ i = .int .i64 (k : Int) ∧ Hid (k ≤ fnd n l) ∧ Below w.heap.size w wr) (fun i _ => l.length - (intOf i).toNat)
  case atStart => exact ⟨0, Nat.zero_le _, rfl, Lib.hid (Nat.zero_le _), Below.refl _ _⟩
  case round =>
    obtain ⟨k, hk, rfl, HF, hb⟩ := hrel
    have HB := Lib.hid hb
    by_cases hlt : k < l.length
    · obtain ⟨c0, c1, c2⟩ := at_cells (at_below HC.out hb HBL.out) hlt
      clear hb
      by_cases e : (l.getD k nov).1 = n
      · have HE := Lib.hid (fnd_hit HF.out hlt e)
        rw [e] at c0
        clear e c1 c2
        go_wp2
        go_ret
        exact ⟨(ret_int HE.out).symm, HB.out⟩
      · have HM := Lib.hid (fnd_miss HF.out hlt e)
        generalize (l.getD k nov).1 = x at c0 e
        have hq : (x == n) = false := by simpa using e
        clear e c1 c2
        go_wp2
        go_roundw
        case rel => exact ⟨k + 1, by omega, by go_num, HM, HB.out⟩
        case measure => simp [intOf]; omega
    · have HE := Lib.hid (fnd_end HF.out hlt)
      clear hb
      go_wp2
      go_ret
      exact ⟨(ret_int HE.out).symm, HB.out⟩

set_option maxHeartbeats 1000000 in
theorem impl_find_some (b off cap : Nat) (l : List T) (n : List UInt8) (w : World) (hc : At w b off l) (h0 : 0 < l.length) (hl : l.length ≤ 4194304) :
    Calls Tryd.prog 106 #[.slice (some ⟨b, off, none⟩) l.length cap, .string ⟨n.toArray⟩] w (FindEnd n l w) := by
  have HC := Lib.hid hc
  have HBL := Lib.hid (at_lt hc h0)
  clear hc
  go_enter Tryd.func106, Tryd.ntmps106
  go_wp2
  go_loopw [9] (fun i wr => ∃ k : Nat, k ≤ l.length ∧ i = .int .i64 (k : Int) ∧ Hid (k ≤ fnd n l) ∧ Below w.heap.size w wr) (fun i _ => l.length - (intOf i).toNat)
  case atStart => exact ⟨0, Nat.zero_le _, rfl, Lib.hid (Nat.zero_le _), Below.refl _ _⟩
  case round =>
    obtain ⟨k, hk, rfl, HF, hb⟩ := hrel
    have HB := Lib.hid hb
    by_cases hlt : k < l.length
    · obtain ⟨c0, c1, c2⟩ := at_cells (at_below HC.out hb HBL.out) hlt
      have HBA : Hid (∀ a : Array Value, Below w.heap.size w (wr.alloc (.cells a 59))) := Lib.hid (fun a => HB.out.alloc HB.out.size _)
      clear hb
      by_cases e : (l.getD k nov).1 = n
      · have HE := Lib.hid (fnd_hit HF.out hlt e)
        rw [e] at c0
        generalize (l.getD k nov).2 = y at c1 c2
        obtain ⟨y, z⟩ := y
        dsimp only at c1 c2
        clear e
        go_wp2
        go_ret
        exact ⟨(ret_int HE.out).symm, HBA.out _⟩
      · have HM := Lib.hid (fnd_miss HF.out hlt e)
        generalize l.getD k nov = x at c0 c1 c2 e
        obtain ⟨x, y, z⟩ := x
        dsimp only at c0 c1 c2 e
        have hq : (x == n) = false := by simpa using e
        clear e
        go_wp2
        go_roundw
        case rel => exact ⟨k + 1, by omega, by go_num, HM, HBA.out _⟩
        case measure => simp [intOf]; omega
    · have HE := Lib.hid (fnd_end HF.out hlt)
      clear hb
      go_wp2
      go_ret
      exact ⟨(ret_int HE.out).symm, HB.out⟩

theorem spec_find (v : Value) (B : Nat) (l : List T) (n : List UInt8) (w : World) (h : Holds w B v l) (hl : l.length ≤ 4194304) : Calls Tryd.prog 111 #[v, .string ⟨n.toArray⟩] w (FindEnd n l w) := by
  rcases h with ⟨rfl, a, cap, rfl⟩ | ⟨h0, b, off, cap, rfl, _, _, hc⟩
  · exact spec_find_nil a cap n w
  · exact spec_find_some b off cap l n w hc h0 hl
theorem impl_find (v : Value) (B : Nat) (l : List T) (n : List UInt8) (w : World) (h : Holds w B v l) (hl : l.length ≤ 4194304) : Calls Tryd.prog 106 #[v, .string ⟨n.toArray⟩] w (FindEnd n l w) := by
  rcases h with ⟨rfl, a, cap, rfl⟩ | ⟨h0, b, off, cap, rfl, _, _, hc⟩
  · exact impl_find_nil a cap n w
  · exact impl_find_some b off cap l n w hc h0 hl

/-! Has. -/
theorem at1_range (n : List UInt8) (l : List T) : -1 ≤ at1 n l ∧ at1 n l ≤ l.length := by
  unfold at1; have := fnd_le n l; split <;> omega
def HasEnd (n : List UInt8) (l : List T) (w : World) (e : Ending) (w' : World) : Prop := e = .returned (.bool (decide (0 ≤ at1 n l))) ∧ Below w.heap.size w w'
theorem impl_has (v : Value) (B : Nat) (l : List T) (n : List UInt8) (w : World) (h : Holds w B v l) (hl : l.length ≤ 4194304) : Calls Tryd.prog 44 #[v, .string ⟨n.toArray⟩] w (HasEnd n l w) := by
  obtain ⟨a, cap, rfl⟩ : ∃ a cap, v = .slice a l.length cap := by
    rcases h with ⟨rfl, a, cap, rfl⟩ | ⟨_, b, off, cap, rfl, _, _, _⟩
    · exact ⟨a, cap, rfl⟩
    · exact ⟨_, cap, rfl⟩
  have HH := Lib.hid (impl_find _ B l n w h hl)
  clear h
  unfold FindEnd at HH
  unfold HasEnd
  generalize at1 n l = x at HH ⊢
  go_enter Tryd.func44, Tryd.ntmps44
  go_wp2_with (fail)
  go_at_call 106
  refine HH.out.mono ?_
  rintro e w1 ⟨rfl, hb⟩
  have HB := Lib.hid hb
  clear hb
  go_wp2
  go_ret
  exact ⟨by simp, HB.out⟩
end Go.Proofs.YtkmkmgbehnedoaaDoor.Dir
