/-
  PLAIN FACTS on the parts of a request: methods, hosts, targets.
-/
import Derived.Test.YtfgpphbfampjjaaTxMath
import Derived.Test.YtfgpphbfampjjaaTokList
import Derived.Lib.SlTrimSet
import Derived.Lib.Case
import Derived.Lib.Strings
namespace Go.Proofs.Ytfgpphbfampjjaa.Msg
open Go
set_option linter.unusedVariables false

def nolow (c : UInt8) : Bool := !decide (97 ≤ c.toNat ∧ c.toNat ≤ 122)
def methOk (m : List UInt8) : Bool := m.all nolow && Tx.token m
def hbs : List UInt8 := [97, 98, 99, 100, 101, 102, 103, 104, 105, 106, 107, 108, 109, 110, 111, 112, 113, 114, 115, 116, 117, 118, 119, 120, 121, 122, 48, 49, 50, 51, 52, 53, 54, 55, 56, 57, 45, 46]
def hb (c : UInt8) : Bool := decide (97 ≤ c.toNat ∧ c.toNat ≤ 122) || (decide (48 ≤ c.toNat ∧ c.toNat ≤ 57) || (c == 45 || c == 46))
def hostOk (h : List UInt8) : Bool := h.all hb && decide (1 ≤ h.length ∧ h.length ≤ 40)
def tb (c : UInt8) : Bool := decide (33 ≤ c.toNat ∧ c.toNat ≤ 126)
def targOk (t : List UInt8) : Bool := t.all tb && (decide (1 ≤ t.length ∧ t.length ≤ 100) && t.head? == some 47)
theorem hb_set : ∀ c : UInt8, hbs.contains c = hb c := by
  have h : ∀ n : Fin 256, hbs.contains (UInt8.ofNat n.1) = hb (UInt8.ofNat n.1) := by decide +kernel
  intro c
  have := h ⟨c.toNat, c.toNat_lt⟩
  simpa using this
/-- Trimmed to nothing: every byte is of the set. -/
theorem trim_all (l : List UInt8) (p : UInt8 → Bool) (st : List UInt8) (hp : ∀ c, st.contains c = p c) : Lib.trimS l st = [] ↔ l.all p = true := by
  unfold Lib.trimS Lib.trimLeftS Lib.trimRightS
  have hf : (fun b : UInt8 => st.contains b) = p := funext hp
  rw [show (fun x : UInt8 => st.contains x) = p from hf]
  rw [List.all_eq_true]
  have key : ∀ m : List UInt8, m.dropWhile p = [] ↔ ∀ x ∈ m, p x = true := by
    intro m
    induction m with
    | nil => simp
    | cons a r ih =>
      by_cases h : p a = true
      · rw [List.dropWhile_cons_of_pos h, ih]; simp [h]
      · rw [List.dropWhile_cons_of_neg h]; simp [h]
  constructor
  · intro h
    have h1 := (key _).1 h
    -- what is left behind the first trimming is all of the set; so is what was taken away
    intro x hx
    by_cases hp2 : p x = true
    · exact hp2
    · exfalso
      have h2 : l.reverse.dropWhile p ≠ [] := fun e => hp2 ((key _).1 e x (by simpa using hx))
      have h3 : ∀ y ∈ l.reverse.dropWhile p, p y = true := fun y hy => h1 y (by simpa using hy)
      cases hd : l.reverse.dropWhile p with
      | nil => exact h2 hd
      | cons a r =>
        have : p a = false := by
          have := List.head?_dropWhile_not p l.reverse
          rw [hd] at this; simpa using this
        rw [hd] at h3
        have := h3 a (by simp)
        simp_all
  · intro h
    have h1 : l.reverse.dropWhile p = [] := (key _).2 (fun x hx => h x (by simpa using hx))
    rw [h1]; rfl
theorem trim_hb (l : List UInt8) : Lib.trimS l hbs = [] ↔ l.all hb = true := trim_all l hb hbs hb_set
/-- A token is of ASCII bytes. -/
theorem token_ascii {m : List UInt8} (h : Tx.token m = true) : ∀ (j : Nat) (b : UInt8), m[j]? = some b → b.toNat < 128 := by
  intro j b hb
  unfold Tx.token at h
  rw [Bool.and_eq_true, List.all_eq_true] at h
  have h1 := h.1 b (List.mem_of_getElem? hb)
  unfold Tx.tokc Tx.letc at h1
  rw [Bool.or_eq_true] at h1
  rcases h1 with h1 | h1
  · have hm : b ∈ Tx.marks := by simpa using h1
    have hall : ∀ x ∈ Tx.marks, x.toNat < 128 := by decide
    exact hall b hm
  · simp at h1; omega
theorem upper_same (m : List UInt8) : Lib.toUpperA m = m ↔ m.all nolow = true := by
  unfold Lib.toUpperA
  rw [List.all_eq_true]
  have one : ∀ c : UInt8, Lib.upperB c = c ↔ nolow c = true := by
    have h : ∀ n : Fin 256, Lib.upperB (UInt8.ofNat n.1) = UInt8.ofNat n.1 ↔ nolow (UInt8.ofNat n.1) = true := by decide +kernel
    intro c
    have := h ⟨c.toNat, c.toNat_lt⟩
    simpa using this
  constructor
  · intro h c hc
    obtain ⟨j, hj, rfl⟩ := List.getElem_of_mem hc
    have := congrArg (fun z : List UInt8 => z[j]?) h
    simp [hj] at this
    exact (one _).1 this
  · intro h
    conv => rhs; rw [← List.map_id m]
    apply List.map_congr_left
    intro c hc
    exact (one c).2 (h c hc)
theorem up_len (m : List UInt8) : (Lib.toUpperA m).length = m.length := by unfold Lib.toUpperA; simp
/-- One byte more, one byte that is not of them, and all of them. -/
theorem all_more {p : UInt8 → Bool} {s : ByteArray} {k : Nat} (h : k < s.size) (ha : (s.data.toList.take k).all p = true) (hc : p s[k] = true) : (s.data.toList.take (k + 1)).all p = true := by
  rw [Tx.take_snoc s k h, List.all_append, ha, List.all_cons, hc]; rfl
theorem all_bad {p : UInt8 → Bool} {s : ByteArray} {k : Nat} (h : k < s.size) (hc : p s[k] = false) : s.data.toList.all p = false := by
  rw [Bool.eq_false_iff]
  intro ha
  have hm : s[k] ∈ s.data.toList := by
    rw [← List.take_append_drop k s.data.toList, Tx.drop_cons s k h]; simp
  rw [List.all_eq_true] at ha
  have := ha _ hm
  rw [hc] at this; cases this
theorem all_end {p : UInt8 → Bool} {s : ByteArray} {k : Nat} (h : k = s.size) (ha : (s.data.toList.take k).all p = true) : s.data.toList.all p = true := by
  rwa [List.take_of_length_le (by rw [Tx.list_len]; omega)] at ha
theorem nolow_no {c : UInt8} (h : nolow c = false) : 97 ≤ (c.toNat : Int) ∧ (c.toNat : Int) ≤ 122 := by unfold nolow at h; simp at h; omega
theorem nolow_yes {c : UInt8} (h : nolow c = true) : (c.toNat : Int) < 97 ∨ 122 < (c.toNat : Int) := by unfold nolow at h; simp at h; omega
theorem tb_no {c : UInt8} (h : tb c = false) : (c.toNat : Int) < 33 ∨ 126 < (c.toNat : Int) := by unfold tb at h; simp at h; omega
theorem tb_yes {c : UInt8} (h : tb c = true) : 33 ≤ (c.toNat : Int) ∧ (c.toNat : Int) ≤ 126 := by unfold tb at h; simp at h; omega
theorem b45 (c : UInt8) : ((c.toNat : Int) == 45) = (c == 45) := Tx.eq_nat (n := 45) (by omega)
theorem b46 (c : UInt8) : ((c.toNat : Int) == 46) = (c == 46) := Tx.eq_nat (n := 46) (by omega)
theorem hb_cases (c : UInt8) : (hb c = true ∧ (97 ≤ (c.toNat : Int) ∧ (c.toNat : Int) ≤ 122)) ∨
    (hb c = true ∧ ((c.toNat : Int) < 97 ∨ 122 < (c.toNat : Int)) ∧ (48 ≤ (c.toNat : Int) ∧ (c.toNat : Int) ≤ 57)) ∨
    (hb c = true ∧ ((c.toNat : Int) < 97 ∨ 122 < (c.toNat : Int)) ∧ ((c.toNat : Int) < 48 ∨ 57 < (c.toNat : Int)) ∧ ((c.toNat : Int) == 45) = true) ∨
    (hb c = true ∧ ((c.toNat : Int) < 97 ∨ 122 < (c.toNat : Int)) ∧ ((c.toNat : Int) < 48 ∨ 57 < (c.toNat : Int)) ∧ ((c.toNat : Int) == 45) = false ∧ ((c.toNat : Int) == 46) = true) ∨
    (hb c = false ∧ ((c.toNat : Int) < 97 ∨ 122 < (c.toNat : Int)) ∧ ((c.toNat : Int) < 48 ∨ 57 < (c.toNat : Int)) ∧ ((c.toNat : Int) == 45) = false ∧ ((c.toNat : Int) == 46) = false) := by
  by_cases h1 : 97 ≤ c.toNat ∧ c.toNat ≤ 122
  · left; exact ⟨by unfold hb; simp [h1], by omega⟩
  by_cases h2 : 48 ≤ c.toNat ∧ c.toNat ≤ 57
  · right; left; exact ⟨by unfold hb; simp [h2], by omega, by omega⟩
  rw [b45, b46]
  cases h3 : c == 45
  · cases h4 : c == 46
    · right; right; right; right
      exact ⟨by unfold hb; rw [h3, h4, decide_eq_false h1, decide_eq_false h2]; rfl, by omega, by omega, rfl, rfl⟩
    · right; right; right; left
      exact ⟨by unfold hb; rw [h4]; simp, by omega, by omega, rfl, rfl⟩
  · right; right; left
    exact ⟨by unfold hb; rw [h3]; simp, by omega, by omega, rfl⟩
end Go.Proofs.Ytfgpphbfampjjaa.Msg
