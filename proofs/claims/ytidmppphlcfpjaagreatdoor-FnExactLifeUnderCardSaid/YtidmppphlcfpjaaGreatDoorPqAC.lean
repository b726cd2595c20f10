/-
  CONTRACTS AND PLAIN FACTS, several texts in one; each says in its own words what it proves.
-/
import Derived.Test.YtidmppphlcfpjaaGreatDoorPqY
import Derived.LoopTactic
import Derived.Outline
import Derived.Test.YtidmppphlcfpjaaGreatDoorPqC
import Derived.Test.YtidmppphlcfpjaaGreatDoorPqD
import Derived.Lib.SlTrimSet
import Derived.Test.YtidmppphlcfpjaaGreatDoorPqW
import Derived.Test.YtidmppphlcfpjaaGreatDoorPqP
import Derived.Test.YtidmppphlcfpjaaGreatDoorPqG
import Derived.Test.YtidmppphlcfpjaaGreatDoorPqE
import Derived.Test.YtidmppphlcfpjaaGreatDoorPqX
import Derived.Test.YtidmppphlcfpjaaGreatDoorPqAA
import Derived.Test.YtidmppphlcfpjaaGreatDoorPqAB
set_option linter.unusedSimpArgs false
set_option linter.unusedVariables false

/-
  CONTRACTS of FindDirective and HasDirective, the model's and the program's: the index of the first directive with a name; nothing that was there before is changed.
-/
namespace Go.Proofs.YtidmppphlcfpjaaGreatDoor.Dir
open Go Go.RowKit
set_option linter.unusedVariables false
set_option maxRecDepth 1000000

/-- How many directives stand in front of the first with this name. -/
def fnd (n : List UInt8) (l : List T) : Nat := l.findIdx (fun d => d.1 == n)
def at1 (n : List UInt8) (l : List T) : Int := if fnd n l < l.length then (fnd n l : Int) else -1
theorem fnd_le (n : List UInt8) (l : List T) : fnd n l ≤ l.length := List.findIdx_le_length
theorem fnd_hit {n : List UInt8} {l : List T} {k : Nat} (hk : k ≤ fnd n l) (h : k < l.length) (e : (l.getD k nov).1 = n) : at1 n l = (k : Int) := by
  have hg : l.getD k nov = l[k] := by simp [List.getD, h]
  have h1 : fnd n l ≤ k := by
    rcases Nat.lt_or_ge k (fnd n l) with hlt | hge
    · have := List.not_of_lt_findIdx (p := fun d : T => d.1 == n) (xs := l) hlt
      rw [hg] at e
      simp [e] at this
    · exact hge
  have : fnd n l = k := by omega
  unfold at1; rw [this, if_pos h]
theorem fnd_miss {n : List UInt8} {l : List T} {k : Nat} (hk : k ≤ fnd n l) (h : k < l.length) (e : (l.getD k nov).1 ≠ n) : k + 1 ≤ fnd n l := by
  have hg : l.getD k nov = l[k] := by simp [List.getD, h]
  rcases Nat.lt_or_ge k (fnd n l) with hlt | hge
  · exact hlt
  · have hkk : fnd n l = k := by omega
    exfalso
    apply e
    rw [hg]
    have h2 : fnd n l < l.length := by omega
    have := List.findIdx_getElem (p := fun d : T => d.1 == n) (xs := l) (w := h2)
    have e3 : l[List.findIdx (fun d : T => d.1 == n) l]'h2 = l[k] := by congr 1
    rw [e3] at this
    simpa using this
theorem fnd_end {n : List UInt8} {l : List T} {k : Nat} (hk : k ≤ fnd n l) (h : ¬ k < l.length) : at1 n l = -1 := by
  unfold at1; rw [if_neg (by omega)]
theorem ret_int {a b : Int} (h : a = b) : Ending.returned (.int .i64 a) = .returned (.int .i64 b) := by rw [h]
def FindEnd (n : List UInt8) (l : List T) (w : World) (e : Ending) (w' : World) : Prop := e = .returned (.int .i64 (at1 n l)) ∧ Below w.heap.size w w'

theorem spec_find_nil (a : Option Addr) (cap : Nat) (n : List UInt8) (w : World) : Calls Tryz.prog 102 #[.slice a 0 cap, .string ⟨n.toArray⟩] w (FindEnd n [] w) := by
  go_enter Tryz.func102, Tryz.ntmps102
  go_wp2
  go_loop [5] (fun i => i = .int .i64 0) (fun i => 0)
  case atStart => rfl
  case round =>
    obtain rfl := hrel
    go_wp2
    go_ret
    exact ⟨rfl, Below.refl _ _⟩
theorem impl_find_nil (a : Option Addr) (cap : Nat) (n : List UInt8) (w : World) : Calls Tryz.prog 153 #[.slice a 0 cap, .string ⟨n.toArray⟩] w (FindEnd n [] w) := by
  go_enter Tryz.func153, Tryz.ntmps153
  go_wp2
  go_loop [9] (fun i => i = .int .i64 0) (fun i => 0)
  case atStart => rfl
  case round =>
    obtain rfl := hrel
    go_wp2
    go_ret
    exact ⟨rfl, Below.refl _ _⟩

set_option maxHeartbeats 1000000 in
theorem spec_find_some (b off cap : Nat) (l : List T) (n : List UInt8) (w : World) (hc : At w b off l) (h0 : 0 < l.length) (hl : l.length ≤ 4194304) :
    Calls Tryz.prog 102 #[.slice (some ⟨b, off, none⟩) l.length cap, .string ⟨n.toArray⟩] w (FindEnd n l w) := by
  have HC := Lib.hid hc
  have HBL := Lib.hid (at_lt hc h0)
  clear hc
  go_enter Tryz.func102, Tryz.ntmps102
  go_wp2
  go_loopw [5] (fun i wr => ∃ k : Nat, k ≤ l.length ∧ i = .int .i64 (k : Int) ∧ Hid (k ≤ fnd n l) ∧ Below w.heap.size w wr) (fun i _ => l.length - (intOf i).toNat)
  case atStart => exact ⟨0, Nat.zero_le _, rfl, Lib.hid (Nat.zero_le _), Below.refl _ _⟩
  case round =>
    obtain ⟨k, hk, rfl, HF, hb⟩ := hrel
    have HB := Lib.hid hb
    by_cases hlt : k < l.length
    · obtain ⟨c0, c1, c2⟩ := at_cells (at_below HC.out hb HBL.out) hlt
      clear hb
      by_cases e : (l.getD k nov).1 = n
      · have HE := Lib.hid (fnd_hit HF.out hlt e)
        rw [e] at c0
        clear e c1 c2
        go_wp2
        go_ret
        exact ⟨(ret_int HE.out).symm, HB.out⟩
      · have HM := Lib.hid (fnd_miss HF.out hlt e)
        generalize (l.getD k nov).1 = x at c0 e
        have hq : (x == n) = false := by simpa using e
        clear e c1 c2
        go_wp2
        go_roundw
        case rel => exact ⟨k + 1, by omega, by go_num, HM, HB.out⟩
        case measure => simp [intOf]; omega
    · have HE := Lib.hid (fnd_end HF.out hlt)
      clear hb
      go_wp2
      go_ret
      exact ⟨(ret_int HE.out).symm, HB.out⟩

set_option maxHeartbeats 1000000 in
theorem impl_find_some (b off cap : Nat) (l : List T) (n : List UInt8) (w : World) (hc : At w b off l) (h0 : 0 < l.length) (hl : l.length ≤ 4194304) :
    Calls Tryz.prog 153 #[.slice (some ⟨b, off, none⟩) l.length cap, .string ⟨n.toArray⟩] w (FindEnd n l w) := by
  have HC := Lib.hid hc
  have HBL := Lib.hid (at_lt hc h0)
  clear hc
  go_enter Tryz.func153, Tryz.ntmps153
  go_wp2
  go_loopw [9] (fun i wr => ∃ k : Nat, k ≤ l.length ∧ i = .int .i64 (k : Int) ∧ Hid (k ≤ fnd n l) ∧ Below w.heap.size w wr) (fun i _ => l.length - (intOf i).toNat)
  case atStart => exact ⟨0, Nat.zero_le _, rfl, Lib.hid (Nat.zero_le _), Below.refl _ _⟩
  case round =>
    obtain ⟨k, hk, rfl, HF, hb⟩ := hrel
    have HB := Lib.hid hb
    by_cases hlt : k < l.length
    · obtain ⟨c0, c1, c2⟩ := at_cells (at_below HC.out hb HBL.out) hlt
      have HBA : Hid (∀ a : Array Value, Below w.heap.size w (wr.alloc (.cells a 146))) := Lib.hid (fun a => HB.out.alloc HB.out.size _)
      clear hb
      by_cases e : (l.getD k nov).1 = n
      · have HE := Lib.hid (fnd_hit HF.out hlt e)
        rw [e] at c0
        generalize (l.getD k nov).2 = y at c1 c2
        obtain ⟨y, z⟩ := y
        dsimp only at c1 c2
        clear e
        go_wp2
        go_ret
        exact ⟨(ret_int HE.out).symm, HBA.out _⟩
      · have HM := Lib.hid (fnd_miss HF.out hlt e)
        generalize l.getD k nov = x at c0 c1 c2 e
        obtain ⟨x, y, z⟩ := x
        dsimp only at c0 c1 c2 e
        have hq : (x == n) = false := by simpa using e
        clear e
        go_wp2
        go_roundw
        case rel => exact ⟨k + 1, by omega, by go_num, HM, HBA.out _⟩
        case measure => simp [intOf]; omega
    · have HE := Lib.hid (fnd_end HF.out hlt)
      clear hb
      go_wp2
      go_ret
      exact ⟨(ret_int HE.out).symm, HB.out⟩

theorem spec_find (v : Value) (B : Nat) (l : List T) (n : List UInt8) (w : World) (h : Holds w B v l) (hl : l.length ≤ 4194304) : Calls Tryz.prog 102 #[v, .string ⟨n.toArray⟩] w (FindEnd n l w) := by
  rcases h with ⟨rfl, a, cap, rfl⟩ | ⟨h0, b, off, cap, rfl, _, _, hc⟩
  · exact spec_find_nil a cap n w
  · exact spec_find_some b off cap l n w hc h0 hl
theorem impl_find (v : Value) (B : Nat) (l : List T) (n : List UInt8) (w : World) (h : Holds w B v l) (hl : l.length ≤ 4194304) : Calls Tryz.prog 153 #[v, .string ⟨n.toArray⟩] w (FindEnd n l w) := by
  rcases h with ⟨rfl, a, cap, rfl⟩ | ⟨h0, b, off, cap, rfl, _, _, hc⟩
  · exact impl_find_nil a cap n w
  · exact impl_find_some b off cap l n w hc h0 hl

/-! Has. -/
theorem at1_range (n : List UInt8) (l : List T) : -1 ≤ at1 n l ∧ at1 n l ≤ l.length := by
  unfold at1; have := fnd_le n l; split <;> omega
def HasEnd (n : List UInt8) (l : List T) (w : World) (e : Ending) (w' : World) : Prop := e = .returned (.bool (decide (0 ≤ at1 n l))) ∧ Below w.heap.size w w'
end Go.Proofs.YtidmppphlcfpjaaGreatDoor.Dir

/-
  PLAIN FACTS on the seconds that a directive has as its value.
-/
namespace Go.Proofs.YtidmppphlcfpjaaGreatDoor.Dir
open Go Go.RowKit
set_option linter.unusedVariables false
set_option maxRecDepth 1000000

def dg (c : UInt8) : Bool := decide (48 ≤ c.toNat ∧ c.toNat ≤ 57)
def digs : List UInt8 := [48, 49, 50, 51, 52, 53, 54, 55, 56, 57]
theorem dg_digs (c : UInt8) : digs.contains c = dg c := by
  have h : ∀ n : Fin 256, digs.contains (UInt8.ofNat n.1) = dg (UInt8.ofNat n.1) := by decide +kernel
  have e : UInt8.ofNat c.toNat = c := by simp
  have := h ⟨c.toNat, c.toNat_lt⟩
  rw [e] at this; exact this
def sst (n : Int) (c : UInt8) : Int := min (10 * n + ((c.toNat : Int) - 48)) 2147483648
def srun (l : List UInt8) : Int := l.foldl sst 0
def secs (l : List UInt8) : Int := if l.all dg then srun l else 0
theorem srun_nil : srun [] = 0 := rfl
theorem srun_more (l : List UInt8) (c : UInt8) : srun (l ++ [c]) = sst (srun l) c := by unfold srun; rw [List.foldl_append]; rfl
theorem sst_bd {n : Int} {c : UInt8} (hc : dg c = true) (h0 : 0 ≤ n) : 0 ≤ sst n c ∧ sst n c ≤ 2147483648 := by
  have : 48 ≤ c.toNat ∧ c.toNat ≤ 57 := by simpa [dg] using hc
  unfold sst; omega
theorem srun_bd (l : List UInt8) (h : l.all dg = true) : 0 ≤ srun l ∧ srun l ≤ 2147483648 := by
  rcases List.eq_nil_or_concat l with rfl | ⟨t, c, rfl⟩
  · decide
  · have ht : ∀ k, (t.take k).all dg = true → 0 ≤ srun (t.take k) := by
      intro k
      induction k with
      | zero => intro _; simp [srun]
      | succ k ih =>
        intro hk
        rcases Nat.lt_or_ge k t.length with hlt | hge
        · rw [List.take_succ_eq_append_getElem hlt] at hk ⊢
          rw [List.all_append] at hk
          simp only [Bool.and_eq_true] at hk
          rw [srun_more]
          exact (sst_bd (by simpa using hk.2) (ih hk.1)).1
        · rw [List.take_of_length_le (by omega)] at hk ⊢
          have := ih (by rw [List.take_of_length_le hge]; exact hk)
          rw [List.take_of_length_le hge] at this; exact this
    rw [List.concat_eq_append] at h ⊢
    rw [List.all_append] at h
    simp only [Bool.and_eq_true] at h
    rw [srun_more]
    refine sst_bd (by simpa using h.2) ?_
    have := ht t.length (by rw [List.take_length]; exact h.1)
    rw [List.take_length] at this; exact this
theorem secs_bd (l : List UInt8) : 0 ≤ secs l ∧ secs l ≤ 2147483648 := by
  unfold secs; split
  · rename_i h; exact srun_bd l h
  · decide
theorem secs_all {l : List UInt8} (h : l.all dg = true) : secs l = srun l := by unfold secs; rw [if_pos h]
theorem secs_no {l : List UInt8} (h : l.all dg = false) : secs l = 0 := by unfold secs; simp [h]
/-- strings.Trim at the ten digits leaves nothing just of a text of digits. -/
theorem dw_nil (p : UInt8 → Bool) (l : List UInt8) : l.dropWhile p = [] ↔ l.all p = true := by
  induction l with
  | nil => simp
  | cons c r ih =>
    rcases hc : p c with _ | _
    · rw [List.dropWhile_cons_of_neg (by simp [hc])]; simp [hc]
    · rw [List.dropWhile_cons_of_pos hc]; simp [hc, ih]
theorem trim_digs (l : List UInt8) : Lib.trimS l digs = [] ↔ l.all dg = true := by
  unfold Lib.trimS Lib.trimLeftS Lib.trimRightS
  rw [show (fun x : UInt8 => digs.contains x) = dg from funext dg_digs]
  rw [dw_nil]
  constructor
  · intro h
    by_cases h2 : l.reverse.dropWhile dg = []
    · have := (dw_nil dg l.reverse).1 h2
      rw [List.all_reverse] at this; exact this
    · exfalso
      obtain ⟨c, t, hct⟩ := List.exists_cons_of_ne_nil h2
      have h3 : dg c = false := by
        have := List.head?_dropWhile_not dg l.reverse
        rw [hct] at this
        simpa using this
      rw [hct, List.reverse_cons, List.all_append] at h
      simp [h3] at h
  · intro h
    have h2 : l.reverse.dropWhile dg = [] := (dw_nil dg l.reverse).2 (by rw [List.all_reverse]; exact h)
    rw [h2]; rfl
theorem take_dg {s : ByteArray} {k : Nat} (h : k < s.size) (ha : (s.data.toList.take k).all dg = true) (hc : dg s[k] = true) : (s.data.toList.take (k + 1)).all dg = true := by
  rw [Tx.take_snoc s k h, List.all_append, ha]; simp [hc]
theorem not_dg {s : ByteArray} {k : Nat} (h : k < s.size) (hc : dg s[k] = false) : s.data.toList.all dg = false := by
  rw [Bool.eq_false_iff]; intro ha
  have hm : s[k] ∈ s.data.toList := by
    have : s[k] = s.data.toList[k]'(by rw [Array.length_toList]; exact h) := rfl
    rw [this]; exact List.getElem_mem _
  rw [List.all_eq_true.1 ha _ hm] at hc; cases hc
theorem at1_cases (n : List UInt8) (l : List T) : at1 n l = -1 ∨ ∃ k : Nat, k < l.length ∧ at1 n l = (k : Int) := by
  unfold at1; split
  · exact Or.inr ⟨_, by assumption, rfl⟩
  · exact Or.inl rfl
/-- What SecondsOf answers. -/
def sof (n : List UInt8) (l : List T) : Int × Bool := if at1 n l < 0 then (0, false) else (secs (l.getD (at1 n l).toNat nov).2.1, true)
theorem sof_no {n : List UInt8} {l : List T} (h : at1 n l = -1) : sof n l = (0, false) := by unfold sof; rw [h]; rfl
theorem sof_at {n : List UInt8} {l : List T} {k : Nat} (h : at1 n l = (k : Int)) : sof n l = (secs (l.getD k nov).2.1, true) := by unfold sof; rw [h, if_neg (by omega)]; rfl
def SecEnd (n : List UInt8) (l : List T) (w : World) (e : Ending) (w' : World) : Prop := e = .returned (.tuple #[.int .i64 (sof n l).1, .bool (sof n l).2]) ∧ Below w.heap.size w w'
end Go.Proofs.YtidmppphlcfpjaaGreatDoor.Dir

/-
  CONTRACTS of SecondsOf, the model's and the program's: the seconds that the first directive with a name has as its value; nothing that was there before is changed.
-/
namespace Go.Proofs.YtidmppphlcfpjaaGreatDoor.Dir
open Go Go.RowKit
set_option linter.unusedVariables false
set_option maxRecDepth 1000000

theorem str_empty {z : ByteArray} (h : z.data.toList = []) : z = ⟨#[]⟩ := by
  have : z.data = #[] := by simpa using h
  exact ByteArray.ext this
theorem dg_range {c : UInt8} (h : dg c = true) : (48 : Int) ≤ (c.toNat : Int) ∧ (c.toNat : Int) ≤ 57 := by
  have : 48 ≤ c.toNat ∧ c.toNat ≤ 57 := by simpa [dg] using h
  omega
theorem dg_out {c : UInt8} (h : dg c = false) : decide ((48 : Int) ≤ (c.toNat : Int) ∧ (c.toNat : Int) ≤ 57) = false := by
  have : ¬ (48 ≤ c.toNat ∧ c.toNat ≤ 57) := by simpa [dg] using h
  simp; omega
theorem dg_in {c : UInt8} (h : dg c = true) : decide ((48 : Int) ≤ (c.toNat : Int) ∧ (c.toNat : Int) ≤ 57) = true := by
  have := dg_range h; simp; omega

set_option maxHeartbeats 1000000 in
theorem read_seconds (s : ByteArray) (w : World) (hs : s.size ≤ 1048576) :
    Calls Tryz.prog 154 #[.string s] w fun e w' => e = .returned (.int .i64 (secs s.data.toList)) ∧ Below w.heap.size w w' := by
  have hcon := Tryz.strings_Trim_laid s ⟨#[48, 49, 50, 51, 52, 53, 54, 55, 56, 57]⟩ w (Nat.le_trans hs (by decide)) (by decide) (ascii_of_all (by decide))
  change Calls Tryz.prog 182 _ _ (fun e w' => e = .returned (.string ⟨(Lib.trimS s.data.toList digs).toArray⟩) ∧ Below w.heap.size w w') at hcon
  rcases ha : s.data.toList.all dg with _ | _
  · have hne : Lib.trimS s.data.toList digs ≠ [] := by
      intro e; rw [(trim_digs _).1 e] at ha; cases ha
    have HE := Lib.hid (secs_no ha)
    generalize Lib.trimS s.data.toList digs = t at hcon hne
    obtain ⟨c, r, rfl⟩ := List.exists_cons_of_ne_nil hne
    clear hne ha
    go_enter Tryz.func154, Tryz.ntmps154
    go_wp2_with (fail)
    go_at_call 182
    refine hcon.mono ?_
    rintro e w1 ⟨rfl, hb1⟩
    have HB := Lib.hid hb1
    clear hb1
    go_wp2
    go_ret
    exact ⟨ret_int HE.out.symm, HB.out⟩
  · rw [(trim_digs _).2 ha] at hcon
    have HE := Lib.hid (secs_all ha)
    have HA := Lib.hid ha
    clear ha
    go_enter Tryz.func154, Tryz.ntmps154
    go_wp2_with (fail)
    go_at_call 182
    refine hcon.mono ?_
    rintro e w1 ⟨rfl, hb1⟩
    have HB := Lib.hid hb1
    clear hb1 hcon
    go_wp2
    go_loop [3, 10] (fun n i => ∃ k : Nat, k ≤ s.size ∧ i = .int .i64 (k : Int) ∧ n = .int .i64 (srun (s.data.toList.take k))) (fun _ i => s.size - (intOf i).toNat)
    case atStart => exact ⟨0, Nat.zero_le _, rfl, rfl⟩
    case round =>
      obtain ⟨k, hk, rfl, rfl⟩ := hrel
      by_cases hlt : k < s.size
      · have hpre : (s.data.toList.take k).all dg = true := by
          rw [List.all_eq_true]; intro x hx; exact List.all_eq_true.1 HA.out x (List.mem_of_mem_take hx)
        have hbd := srun_bd _ hpre
        have hc : dg s[k] = true := by
          have hm : s[k] ∈ s.data.toList := by
            have : s[k] = s.data.toList[k]'(by rw [Array.length_toList]; exact hlt) := rfl
            rw [this]; exact List.getElem_mem _
          exact List.all_eq_true.1 HA.out _ hm
        have hcr := dg_range hc
        have HM : Hid (srun (s.data.toList.take (k + 1)) = sst (srun (s.data.toList.take k)) s[k]) := Lib.hid (by rw [Tx.take_snoc s k hlt, srun_more])
        clear hpre hc
        generalize srun (s.data.toList.take k) = n at hbd HM
        obtain ⟨n1, n2⟩ := hbd
        obtain ⟨r1, r2⟩ := hcr
        go_wp2_with (fail)
        go_at_call 160
        refine (Mm.impl_min _ _ _).mono ?_
        rintro e w2 ⟨rfl, rfl⟩
        go_wp2
        go_round
        case rel => exact ⟨k + 1, by omega, by go_num, by rw [HM.out]; rfl⟩
        case measure => simp [intOf]; omega
      · go_wp2
        go_ret
        exact ⟨ret_int (by rw [HE.out, List.take_of_length_le (by rw [Tx.list_len]; omega)]), HB.out⟩

theorem holds_shape {w : World} {B : Nat} {v : Value} {l : List T} (h : Holds w B v l) : ∃ a cap, v = .slice a l.length cap ∧ (0 < l.length → ∃ b off, a = some ⟨b, off, none⟩ ∧ b < B ∧ l.length ≤ cap ∧ At w b off l) := by
  rcases h with ⟨rfl, a, cap, rfl⟩ | ⟨h0, b, off, cap, rfl, hb, hcap, hc⟩
  · exact ⟨a, cap, rfl, fun h => by simp at h⟩
  · exact ⟨_, cap, rfl, fun _ => ⟨b, off, rfl, hb, hcap, hc⟩⟩

set_option maxHeartbeats 1000000 in
theorem impl_sec (v : Value) (B : Nat) (l : List T) (n : List UInt8) (w : World) (h : Holds w B v l) (hB : B ≤ w.heap.size) (hl : l.length ≤ 4194304) (hx : ∀ d ∈ l, d.2.1.length ≤ 1048576) :
    Calls Tryz.prog 117 #[v, .string ⟨n.toArray⟩] w (SecEnd n l w) := by
  have HH := Lib.hid (impl_find _ B l n w h hl)
  unfold FindEnd at HH
  unfold SecEnd
  obtain ⟨a, cap, rfl, ha⟩ := holds_shape h
  have HA := Lib.hid ha
  clear ha h
  rcases at1_cases n l with h1 | ⟨k, hk, h1⟩
  · have HS := Lib.hid (sof_no h1)
    rw [h1] at HH
    rw [HS.out]
    clear h1
    go_enter Tryz.func117, Tryz.ntmps117
    go_wp2_with (fail)
    go_at_call 153
    refine HH.out.mono ?_
    rintro e w1 ⟨rfl, hb⟩
    have HB := Lib.hid hb
    clear hb
    go_wp2
    go_ret2
    exact ⟨rfl, HB.out⟩
  · have HS := Lib.hid (sof_at h1)
    rw [h1] at HH
    rw [HS.out]
    obtain ⟨b, off, rfl, hbw, hcap, hc⟩ := HA.out (by omega)
    have HX : Hid ((l.getD k nov).2.1.length ≤ 1048576) := Lib.hid (hx _ (Rec.getD_mem hk))
    have HC := Lib.hid (And.intro hc (Nat.lt_of_lt_of_le hbw hB))
    obtain ⟨y, hy⟩ : ∃ y, y = (l.getD k nov).2.1 := ⟨_, rfl⟩
    rw [← hy] at HX ⊢
    have HY := Lib.hid hy
    clear h1 hx hc hbw hy
    go_enter Tryz.func117, Tryz.ntmps117
    go_wp2_with (fail)
    go_at_call 153
    refine HH.out.mono ?_
    rintro e w1 ⟨rfl, hb⟩
    obtain ⟨c0, c1, c2⟩ := at_cells (at_below HC.out.1 hb HC.out.2) hk
    have HB := Lib.hid hb
    rw [← HY.out] at c1
    clear hb c0 c2
    have HR := Lib.hid (read_seconds ⟨y.toArray⟩ w1 (by simp [ByteArray.size]; exact HX.out))
    simp only at HR
    go_wp2_with (fail)
    go_at_call 154
    refine HR.out.mono ?_
    rintro e w2 ⟨rfl, hb⟩
    have HB2 := Lib.hid (Base.then_below HB.out hb)
    clear hb
    go_wp2
    go_ret2
    exact ⟨rfl, HB2.out⟩

theorem ret_sec {a b : Int} (h : a = b) : Ending.returned (.tuple #[.int .i64 a, .bool true]) = .returned (.tuple #[.int .i64 b, .bool true]) := by rw [h]

set_option maxHeartbeats 1000000 in
theorem spec_sec (v : Value) (B : Nat) (l : List T) (n : List UInt8) (w : World) (h : Holds w B v l) (hB : B ≤ w.heap.size) (hl : l.length ≤ 4194304) (hx : ∀ d ∈ l, d.2.1.length ≤ 1048576) :
    Calls Tryz.prog 76 #[v, .string ⟨n.toArray⟩] w (SecEnd n l w) := by
  have HH := Lib.hid (spec_find _ B l n w h hl)
  unfold FindEnd at HH
  unfold SecEnd
  obtain ⟨a, cap, rfl, ha⟩ := holds_shape h
  have HA := Lib.hid ha
  clear ha h
  rcases at1_cases n l with h1 | ⟨k, hk, h1⟩
  · have HS := Lib.hid (sof_no h1)
    rw [h1] at HH
    rw [HS.out]
    clear h1
    go_enter Tryz.func76, Tryz.ntmps76
    go_wp2_with (fail)
    go_at_call 102
    refine HH.out.mono ?_
    rintro e w1 ⟨rfl, hb⟩
    have HB := Lib.hid hb
    clear hb
    go_wp2
    go_ret2
    exact ⟨rfl, HB.out⟩
  · have HS := Lib.hid (sof_at h1)
    rw [h1] at HH
    rw [HS.out]
    obtain ⟨b, off, rfl, hbw, hcap, hc⟩ := HA.out (by omega)
    have HX : Hid ((l.getD k nov).2.1.length ≤ 1048576) := Lib.hid (hx _ (Rec.getD_mem hk))
    have HC := Lib.hid (And.intro hc (Nat.lt_of_lt_of_le hbw hB))
    obtain ⟨s, hsy⟩ : ∃ s : ByteArray, s = ⟨((l.getD k nov).2.1).toArray⟩ := ⟨_, rfl⟩
    have hsl : (l.getD k nov).2.1 = s.data.toList := by rw [hsy]
    have hs : s.size ≤ 1048576 := by rw [hsy]; simp [ByteArray.size]; exact HX.out
    rw [hsl]
    have HY := Lib.hid hsy
    clear h1 hx hc hbw hsl hsy
    go_enter Tryz.func76, Tryz.ntmps76
    go_wp2_with (fail)
    go_at_call 102
    refine HH.out.mono ?_
    rintro e w1 ⟨rfl, hb⟩
    obtain ⟨c0, c1, c2⟩ := at_cells (at_below HC.out.1 hb HC.out.2) hk
    have HB := Lib.hid hb
    clear hb c0 c2
    rw [← HY.out] at c1
    have HZ0 : Hid ((s.data.toList.take 0).all dg = true) := Lib.hid (by rw [List.take_zero]; rfl)
    go_wp2
    go_loop [7, 9] (fun m i => ∃ q : Nat, q ≤ s.size ∧ i = .int .i64 (q : Int) ∧ m = .int .i64 (srun (s.data.toList.take q)) ∧ Hid ((s.data.toList.take q).all dg = true)) (fun _ i => s.size - (intOf i).toNat)
    case atStart => exact ⟨0, Nat.zero_le _, rfl, rfl, HZ0⟩
    case round =>
      obtain ⟨q, hq, rfl, rfl, HP⟩ := hrel
      by_cases hlt : q < s.size
      · have hbd := srun_bd _ HP.out
        have HI := Lib.hid (fun W => Tx.in_byte s[q] 48 57 W)
        have h255 : (s[q].toNat : Int) ≤ 255 := by have := s[q].toNat_lt; omega
        rcases hcd : dg s[q] with _ | _
        · have HD := Lib.hid (dg_out hcd)
          have HN := Lib.hid (secs_no (not_dg hlt hcd))
          clear hcd hbd
          go_wp2_with (fail)
          go_at_call 90
          refine (HI.out _).mono ?_
          rintro e w2 ⟨he, rfl⟩
          rw [HD.out] at he
          subst he
          go_wp2
          go_ret2
          exact ⟨ret_sec HN.out.symm, HB.out⟩
        · have HD := Lib.hid (dg_in hcd)
          have hcr := dg_range hcd
          have HP2 := Lib.hid (take_dg hlt HP.out hcd)
          have HM : Hid (srun (s.data.toList.take (q + 1)) = sst (srun (s.data.toList.take q)) s[q]) := Lib.hid (by rw [Tx.take_snoc s q hlt, srun_more])
          clear hcd
          generalize srun (s.data.toList.take q) = m at hbd HM
          obtain ⟨n1, n2⟩ := hbd
          obtain ⟨r1, r2⟩ := hcr
          go_wp2_with (fail)
          go_at_call 90
          refine (HI.out _).mono ?_
          rintro e w2 ⟨he, rfl⟩
          rw [HD.out] at he
          subst he
          go_wp2_with (fail)
          go_at_call 47
          refine (Mm.spec_min _ _ _).mono ?_
          rintro e w2 ⟨rfl, rfl⟩
          go_wp2
          go_round
          case rel => exact ⟨q + 1, by omega, by go_num, by rw [HM.out]; unfold sst; rw [Int.min_comm], HP2⟩
          case measure => simp [intOf]; omega
      · have hpa : s.data.toList.all dg = true := by
          have := HP.out; rwa [List.take_of_length_le (by rw [Tx.list_len]; omega)] at this
        have HE := Lib.hid (secs_all hpa)
        clear hpa
        go_wp2
        go_ret2
        exact ⟨ret_sec (by rw [HE.out, List.take_of_length_le (by rw [Tx.list_len]; omega)]), HB.out⟩
end Go.Proofs.YtidmppphlcfpjaaGreatDoor.Dir

/-
  CONTRACTS of both sides' way to the rules of a message (the program's rulesOf, the model's l19Rules) and of the model's LifetimeOf; nothing that was there before is changed.
-/
namespace Go.Proofs.YtidmppphlcfpjaaGreatDoor.Lif
open Go Go.RowKit
set_option linter.unusedVariables false
set_option maxRecDepth 1000000

theorem unq_len : ∀ (n : Nat) (l : List UInt8), l.length ≤ n → (Tx.unq l).1.length ≤ l.length
  | 0, l, h => by rw [List.length_eq_zero_iff.1 (by omega : l.length = 0)]; simp [Tx.unq]
  | n + 1, l, h => by
    match l, h with
    | [], _ => simp [Tx.unq]
    | [c], _ => unfold Tx.unq; split <;> simp
    | c :: d :: r, h =>
      simp at h
      have h1 := unq_len n r (by omega)
      have h2 := unq_len n (d :: r) (by simp; omega)
      unfold Tx.unq
      split
      · simp
      · split
        · simp; omega
        · simp at h2 ⊢; omega
theorem unqt_len (l : List UInt8) : (Tx.unqText l).length ≤ l.length := by
  unfold Tx.unqText
  have := unq_len _ (l.drop 1) (Nat.le_refl _)
  simp at this ⊢; omega
theorem dread_len {x : List UInt8} {d : Dir.T} (h : Dir.dread x = some d) : d.2.1.length ≤ x.length := by
  have hp := Dir.pairs_len x
  obtain ⟨a, b, q, e⟩ : ∃ a b q, Tx.pairs x = (a, b, q) := ⟨_, _, _, rfl⟩
  rw [Dir.dread_eq e] at h
  rw [e] at hp
  simp only at hp
  have hu := unqt_len b
  split at h
  · split at h
    · split at h
      · cases h; exact hp.2
      · split at h
        · cases h; exact Nat.le_trans hu hp.2
        · cases h
    · cases h; simp
  · cases h
theorem dparse_mem {s : List UInt8} {d : Dir.T} (h : d ∈ Dir.dparse s) : d.2.1.length ≤ s.length := by
  unfold Dir.dparse Dir.dparts at h
  obtain ⟨x, hx, e⟩ := List.mem_filterMap.1 h
  have h1 := dread_len e
  have h2 := Tx.split_elem s x hx
  omega
theorem dparse_count (s : List UInt8) : (Dir.dparse s).length ≤ s.length + 1 := by
  have h1 := Dir.dparts_len (Tx.split s)
  have h2 := Tx.split_count s
  unfold Dir.dparse; omega
def ccN : List UInt8 := [99, 97, 99, 104, 101, 45, 99, 111, 110, 116, 114, 111, 108]
def smN : List UInt8 := [115, 45, 109, 97, 120, 97, 103, 101]
def maN : List UInt8 := [109, 97, 120, 45, 97, 103, 101]
def exN : List UInt8 := [101, 120, 112, 105, 114, 101, 115]
/-- The rules of a message with these fields. -/
def rules (l : List Flds.Fld) : List Dir.T := Dir.dparse (Flds.got ccN l)
theorem rules_len {l : List Flds.Fld} (hl : Flds.total l ≤ 1048576) : (rules l).length ≤ 4194304 := by
  have h1 := dparse_count (Flds.got ccN l)
  have h2 := Rgh.got_short (n := ccN) (by decide) l
  unfold rules; omega
theorem rules_mem {l : List Flds.Fld} (hl : Flds.total l ≤ 1048576) : ∀ d ∈ rules l, d.2.1.length ≤ 1048576 := fun d hd => by
  have h1 := dparse_mem hd
  have h2 := Rgh.got_short (n := ccN) (by decide) l
  omega
theorem sof_bd (n : List UInt8) (l : List Dir.T) : 0 ≤ (Dir.sof n l).1 ∧ (Dir.sof n l).1 ≤ 2147483648 := by
  unfold Dir.sof
  split
  · simp
  · exact Dir.secs_bd _
def RulesEnd (l : List Flds.Fld) (w : World) (e : Ending) (w' : World) : Prop := ∃ v, e = .returned v ∧ Dir.Own w' w.heap.size v (rules l) ∧ Below w.heap.size w w'

set_option maxHeartbeats 1000000 in
theorem spec_rules (v : Value) (B : Nat) (l : List Flds.Fld) (w : World) (h : Flds.Holds w B v l) (hl : Flds.total l ≤ 1048576) :
    Calls Tryz.prog 75 #[v] w (RulesEnd l w) := by
  have hg := Rgh.got_short (n := ccN) (by decide) l
  have HG := Lib.hid (Flds.spec_lget v B l ccN w h (by omega))
  have HP := Lib.hid (fun W => Dir.spec_parse (Flds.got ccN l) W (by omega))
  unfold Flds.GotEnd at HG
  unfold Dir.ParsedS at HP
  obtain ⟨a, cap, rfl, _⟩ := Flds.shape_lget h
  unfold RulesEnd rules
  clear h hl hg
  generalize Flds.got ccN l = g at HG HP ⊢
  unfold ccN at HG
  go_enter Tryz.func75, Tryz.ntmps75
  go_wp2_with (fail)
  go_at_call 78
  refine HG.out.mono ?_
  rintro e w1 ⟨rfl, hb1⟩
  have HB1 := Lib.hid hb1
  clear hb1
  go_wp2_with (fail)
  go_at_call 101
  refine (HP.out _).mono ?_
  rintro e w2 ⟨u, rfl, ho2, hb2⟩
  have HB2 := Lib.hid (Base.then_below HB1.out hb2)
  have HO := Lib.hid (Dir.own_mono ho2 HB1.out.size)
  clear hb2 ho2
  go_wp2
  go_ret
  exact ⟨u, rfl, HO.out, HB2.out⟩
set_option maxHeartbeats 1000000 in
theorem impl_rules (v : Value) (B : Nat) (l : List Flds.Fld) (w : World) (h : Flds.Holds w B v l) (hB : B ≤ w.heap.size) (hl : Flds.total l ≤ 1048576) (hv : Dir.Errs w) :
    Calls Tryz.prog 116 #[v] w (RulesEnd l w) := by
  have hg := Rgh.got_short (n := ccN) (by decide) l
  have HG := Lib.hid (Flds.impl_get v B l ccN w h hB hl)
  have HP := Lib.hid (fun W (hb : Below w.heap.size w W) => Dir.impl_parse (Flds.got ccN l) W (by omega) (Dir.errs_below hv hb))
  unfold Flds.GetEnd at HG
  unfold Dir.Parsed at HP
  have hj : Tx.join (Flds.vals ccN l) = Flds.got ccN l := rfl
  rw [hj] at HG
  obtain ⟨a, cap, rfl, _⟩ := Flds.shape_lget h
  unfold RulesEnd rules
  clear h hl hg hj hv
  generalize Flds.got ccN l = g at HG HP ⊢
  generalize decide (0 < (Flds.vals ccN l).length) = q at HG
  unfold ccN at HG
  go_enter Tryz.func116, Tryz.ntmps116
  go_wp2_with (fail)
  go_at_call 151
  refine HG.out.mono ?_
  rintro e w1 ⟨rfl, hb1⟩
  have HB1 := Lib.hid hb1
  clear hb1
  go_wp2_with (fail)
  go_at_call 152
  refine (HP.out _ HB1.out).mono ?_
  rintro e w2 ⟨u, rfl, ho2, hb2⟩
  have HB2 := Lib.hid (Base.then_below HB1.out hb2)
  have HO := Lib.hid (Dir.own_mono ho2 HB1.out.size)
  clear hb2 ho2
  go_wp2
  go_ret
  exact ⟨u, rfl, HO.out, HB2.out⟩

/-- The guess. -/
noncomputable def guess (l : List Flds.Fld) : Int := max 0 (min 86400 (((Age.din Age.dateN l).1 - (Age.din Rgh.modN l).1).tdiv 10))
/-- How long an answer is fresh. -/
noncomputable def life (c : Int) (l : List Flds.Fld) : Int :=
  if (Dir.sof smN (rules l)).2 = true then (Dir.sof smN (rules l)).1
  else if (Dir.sof maN (rules l)).2 = true then (Dir.sof maN (rules l)).1
  else if 0 < (Flds.vals exN l).length then (if (Age.din exN l).2 = true ∧ (Age.din Age.dateN l).2 = true then max 0 ((Age.din exN l).1 - (Age.din Age.dateN l).1) else 0)
  else if c = 200 ∧ (Age.din Age.dateN l).2 = true ∧ (Age.din Rgh.modN l).2 = true then guess l else 0
def NumEnd (z : Int) (w : World) (e : Ending) (w' : World) : Prop := e = .returned (.int .i64 z) ∧ Below w.heap.size w w'
theorem ret_n {a b : Int} (h : a = b) : Ending.returned (.int .i64 a) = .returned (.int .i64 b) := by rw [h]
end Go.Proofs.YtidmppphlcfpjaaGreatDoor.Lif

/-
  CONTRACT of the model's LifetimeOf; nothing that was there before is changed.
-/
namespace Go.Proofs.YtidmppphlcfpjaaGreatDoor.Lif
open Go Go.RowKit
set_option linter.unusedVariables false
set_option maxRecDepth 1000000

set_option maxHeartbeats 4000000 in
theorem spec_life (c : Int) (v : Value) (B : Nat) (l : List Flds.Fld) (b : List UInt8) (w : World) (h : Flds.Holds w B v l) (hB : B ≤ w.heap.size) (hl : Flds.total l ≤ 1048576) :
    Calls Tryz.prog 45 #[.agg #[.int .i64 c, v, .string ⟨b.toArray⟩]] w (NumEnd (life c l) w) := by
  have HB0 : Hid (Below w.heap.size w (w.alloc (.cells #[.int .i64 c, v, .string ⟨b.toArray⟩] 49))) := Lib.hid ((Below.refl _ _).alloc (Nat.le_refl _) _)
  have HK := Lib.hid (fun w1 => Age.kept3 (w := w) (w1 := w1) (T := 49) (a := .int .i64 c) (b := v) (c := .string ⟨b.toArray⟩))
  have HR := Lib.hid (spec_rules v B l _ (Flds.holds_below h (HB0.out.mono hB)) hl)
  have HS := Lib.hid (fun n u (W W' : World) (ho : Dir.Own W w.heap.size u (rules l)) (hb : Below W.heap.size W W') => Dir.spec_sec u _ (rules l) n W' (Dir.holds_below (Dir.own_holds ho) hb) hb.size (rules_len hl) (rules_mem hl))
  have HG := Lib.hid (fun n W (hb : Below w.heap.size w W) => Flds.spec_lget v B l n W (Flds.holds_below h (hb.mono hB)) (by omega))
  have HGG := Lib.hid (fun n W (hb : Below w.heap.size w W) => Flds.spec_get v B l n W (Flds.holds_below h (hb.mono hB)) (by omega))
  have HP := Lib.hid (fun n W => Dt.spec_pdate (Flds.got n l) W (by have := Flds.got_len n l; omega))
  have HL : Hid (life c l = if (Dir.sof smN (rules l)).2 = true then (Dir.sof smN (rules l)).1
    else if (Dir.sof maN (rules l)).2 = true then (Dir.sof maN (rules l)).1
    else if 0 < (Flds.vals exN l).length then (if (Age.din exN l).2 = true ∧ (Age.din Age.dateN l).2 = true then max 0 ((Age.din exN l).1 - (Age.din Age.dateN l).1) else 0)
    else if c = 200 ∧ (Age.din Age.dateN l).2 = true ∧ (Age.din Rgh.modN l).2 = true then max 0 (min 86400 (((Age.din Age.dateN l).1 - (Age.din Rgh.modN l).1).tdiv 10)) else 0) := Lib.hid rfl
  unfold Dir.SecEnd at HS
  unfold Flds.GotEnd at HG
  unfold Flds.GetEnd at HGG
  unfold Dt.PdEnd at HP
  unfold RulesEnd at HR
  unfold NumEnd
  have HSS := Lib.hid (HS.out smN)
  have HSM := Lib.hid (HS.out maN)
  have HGD := Lib.hid (HG.out Age.dateN)
  have HGM := Lib.hid (HG.out Rgh.modN)
  have HGE := Lib.hid (HGG.out exN)
  have HPD := Lib.hid (HP.out Age.dateN)
  have HPM := Lib.hid (HP.out Rgh.modN)
  have HPE := Lib.hid (HP.out exN)
  have dbd := Age.din_bd Age.dateN l
  have mbd := Age.din_bd Rgh.modN l
  have ebd := Age.din_bd exN l
  have e1 : Dt.pdate (Flds.got Age.dateN l) = Age.din Age.dateN l := rfl
  have e2 : Dt.pdate (Flds.got Rgh.modN l) = Age.din Rgh.modN l := rfl
  have e3 : Dt.pdate (Flds.got exN l) = Age.din exN l := rfl
  have e4 : Tx.join (Flds.vals exN l) = Flds.got exN l := rfl
  rw [e1] at HPD
  rw [e2] at HPM
  rw [e3] at HPE
  rw [e4] at HGE
  clear e1 e2 e3 e4 h hl HS HG HGG HP
  generalize life c l = z at HL ⊢
  generalize rules l = rs at HR HSS HSM HL
  generalize Dir.sof smN rs = s1 at HSS HL
  generalize Dir.sof maN rs = s2 at HSM HL
  generalize Age.din Age.dateN l = dd at HPD HL dbd
  generalize Age.din Rgh.modN l = dm at HPM HL mbd
  generalize Age.din exN l = de at HPE HL ebd
  generalize Flds.got Age.dateN l = gd at HGD HPD
  generalize Flds.got Rgh.modN l = gm at HGM HPM
  generalize Flds.got exN l = ge at HGE HPE
  obtain ⟨s1, k1⟩ := s1
  obtain ⟨s2, k2⟩ := s2
  obtain ⟨dd, kd⟩ := dd
  obtain ⟨dm, km⟩ := dm
  obtain ⟨de, ke⟩ := de
  simp only at HSS HSM HPD HPM HPE HL dbd mbd ebd
  obtain ⟨hd0, hd1⟩ := dbd
  obtain ⟨hm0, hm1⟩ := mbd
  obtain ⟨he0, he1⟩ := ebd
  generalize hvq : decide (0 < (Flds.vals exN l).length) = vq at HGE
  have HVQ : Hid (0 < (Flds.vals exN l).length ↔ vq = true) := Lib.hid (by rw [← hvq]; simp)
  simp only [HVQ.out] at HL
  clear hvq HVQ
  unfold smN at HSS
  unfold maN at HSM
  unfold Age.dateN at HGD
  unfold Rgh.modN at HGM
  unfold exN at HGE
  go_enter Tryz.func45, Tryz.ntmps45
  go_wp2_with (fail)
  go_at_call 75
  refine HR.out.mono ?_
  rintro e w1 ⟨u, rfl, ho, hb1⟩
  obtain ⟨⟨x0, x1, x2⟩, hbw⟩ := HK.out _ hb1
  have HB1 := Lib.hid hbw
  have HO : Hid (Dir.Own w1 w.heap.size u rs) := Lib.hid (Dir.own_mono ho (by rw [World.size_alloc]; omega))
  have HXA := Lib.hid hb1
  clear hb1 hbw ho x0 x1 x2 HR
  go_wp2_with (fail)
  go_at_call 76
  refine (HSS.out u _ _ HO.out (Below.refl _ _)).mono ?_
  rintro e w2 ⟨rfl, hb2⟩
  have HC2 := Lib.hid hb2
  have HB2 := Lib.hid (Base.then_below HB1.out hb2)
  have HXB := Lib.hid (Base.then_below HXA.out hb2)
  clear hb2 HSS
  cases k1 with
  | true =>
    go_wp2
    go_ret
    exact ⟨ret_n (by rw [HL.out]; rfl), HB2.out⟩
  | false =>
    simp only [Bool.false_eq_true, if_false] at HL
    go_wp2_with (fail)
    go_at_call 76
    refine (HSM.out u _ _ HO.out HC2.out).mono ?_
    rintro e w3 ⟨rfl, hb3⟩
    have HB3 := Lib.hid (Base.then_below HB2.out hb3)
    have HXC := Lib.hid (Base.then_below HXB.out hb3)
    clear hb3 HSM HXB HXA HO HC2
    cases k2 with
    | true =>
      go_wp2
      go_ret
      exact ⟨ret_n (by rw [HL.out]; rfl), HB3.out⟩
    | false =>
      simp only [Bool.false_eq_true, if_false] at HL
      obtain ⟨⟨x0, x1, x2⟩, _⟩ := HK.out _ HXC.out
      go_wp2_with (fail)
      go_at_call 78
      refine (HGD.out _ HB3.out).mono ?_
      rintro e w4 ⟨rfl, hb4⟩
      have HB4 := Lib.hid (Base.then_below HB3.out hb4)
      have HXD := Lib.hid (Base.then_below HXC.out hb4)
      clear hb4 HXC x0 x1 x2 HGD
      go_wp2_with (fail)
      go_at_call 77
      refine (HPD.out _).mono ?_
      rintro e w5 ⟨rfl, hb5⟩
      have HB5 := Lib.hid (Base.then_below HB4.out hb5)
      have HXE := Lib.hid (Base.then_below HXD.out hb5)
      obtain ⟨⟨x0, x1, x2⟩, _⟩ := HK.out _ HXE.out
      clear hb5 HXD HPD
      go_wp2_with (fail)
      go_at_call 79
      refine (HGE.out _ HB5.out).mono ?_
      rintro e w6 ⟨rfl, hb6⟩
      have HB6 := Lib.hid (Base.then_below HB5.out hb6)
      have HXF := Lib.hid (Base.then_below HXE.out hb6)
      clear hb6 HXE x0 x1 x2 HGE
      cases vq with
      | true =>
        simp only [if_true] at HL
        go_wp2_with (fail)
        go_at_call 77
        refine (HPE.out _).mono ?_
        rintro e w7 ⟨rfl, hb7⟩
        have HB7 := Lib.hid (Base.then_below HB6.out hb7)
        clear hb7 HPE HGM HPM HXF
        cases ke
        · have HZ : Hid (z = 0) := Lib.hid (by rw [HL.out]; simp)
          go_wp2
          go_ret
          exact ⟨ret_n HZ.out.symm, HB7.out⟩
        · cases kd
          · have HZ : Hid (z = 0) := Lib.hid (by rw [HL.out]; simp)
            go_wp2
            go_ret
            exact ⟨ret_n HZ.out.symm, HB7.out⟩
          · have HZ : Hid (z = max 0 (de - dd)) := Lib.hid (by rw [HL.out]; simp)
            clear HL
            go_wp2_with (fail)
            go_at_call 80
            refine (Mm.spec_max _ _ _).mono ?_
            rintro e wm ⟨rfl, rfl⟩
            go_wp2
            go_ret
            exact ⟨ret_n HZ.out.symm, HB7.out⟩
      | false =>
        simp only [Bool.false_eq_true, if_false] at HL
        obtain ⟨⟨x0, x1, x2⟩, _⟩ := HK.out _ HXF.out
        go_wp2_with (fail)
        go_at_call 78
        refine (HGM.out _ HB6.out).mono ?_
        rintro e w7 ⟨rfl, hb7⟩
        have HB7 := Lib.hid (Base.then_below HB6.out hb7)
        have HXG := Lib.hid (Base.then_below HXF.out hb7)
        clear hb7 HXF x0 x1 x2 HGM
        go_wp2_with (fail)
        go_at_call 77
        refine (HPM.out _).mono ?_
        rintro e w8 ⟨rfl, hb8⟩
        have HB8 := Lib.hid (Base.then_below HB7.out hb8)
        have HXH := Lib.hid (Base.then_below HXG.out hb8)
        obtain ⟨⟨x0, x1, x2⟩, _⟩ := HK.out _ HXH.out
        clear hb8 HXG HPM HPE HXH
        by_cases hc : c = 200
        case neg =>
          have hq : (c == 200) = false := by simpa using hc
          have HZ : Hid (z = 0) := Lib.hid (by rw [HL.out, if_neg (fun h => hc h.1)])
          clear HL hc
          go_wp2
          go_ret
          exact ⟨ret_n HZ.out.symm, HB8.out⟩
        subst hc
        cases kd
        · have HZ : Hid (z = 0) := Lib.hid (by rw [HL.out]; simp)
          clear HL
          go_wp2
          go_ret
          exact ⟨ret_n HZ.out.symm, HB8.out⟩
        · cases km
          · have HZ : Hid (z = 0) := Lib.hid (by rw [HL.out]; simp)
            clear HL
            go_wp2
            go_ret
            exact ⟨ret_n HZ.out.symm, HB8.out⟩
          · have HZ : Hid (z = max 0 (min 86400 ((dd - dm).tdiv 10))) := Lib.hid (by rw [HL.out]; simp)
            clear HL
            go_wp2_with (fail)
            go_at_call 47
            refine (Mm.spec_min _ _ _).mono ?_
            rintro e wm ⟨rfl, rfl⟩
            go_wp2_with (fail)
            go_at_call 80
            refine (Mm.spec_max _ _ _).mono ?_
            rintro e wm ⟨rfl, rfl⟩
            go_wp2
            go_ret
            exact ⟨ret_n HZ.out.symm, HB8.out⟩
end Go.Proofs.YtidmppphlcfpjaaGreatDoor.Lif
