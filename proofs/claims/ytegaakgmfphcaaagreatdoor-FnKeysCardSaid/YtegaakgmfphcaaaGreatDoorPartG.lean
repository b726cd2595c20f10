/-
  CONTRACTS AND PLAIN FACTS, several texts in one; each says in its own words what it proves.
-/
import Derived.Test.YtegaakgmfphcaaaGreatDoorRows
import Derived.WalkKit
import Derived.ProofKit
import Derived.Lib.Hide
import Derived.OpenShut
import Derived.Below
import Derived.Lib.ItoaNum
import Derived.Lib.AtoiAllCases
import Derived.LoopTactic
import Derived.Laws.IdiomStrings
import Derived.Laws.Concat
import Derived.Test.YtegaakgmfphcaaaGreatDoorPartA
import Derived.Outline
import Derived.Test.YtegaakgmfphcaaaGreatDoorPartF
import Derived.Lib.SmallJoins
import Derived.Test.YtegaakgmfphcaaaGreatDoorPartE
import Derived.Lib.ConvBytes
import Derived.Lib.AtoiAllMem
import Derived.Laws.Strings3
import Derived.Laws.Closers25
import Derived.Laws.Closers25b
import Derived.IntWalk
set_option linter.unusedSimpArgs false
set_option linter.unusedVariables false

/-
  PLAIN FACTS OF DECIMAL NUMERALS: the digits of a number as the model writes them, one in front of the other; no word of the program stands here.
-/
namespace Go.Proofs.YtegaakgmfphcaaaGreatDoor.Fmt
open Go Go.RowKit
set_option linter.unusedVariables false
set_option maxRecDepth 1000000

/-- the digits of u; nothing for 0. -/
def dd (u : Nat) : List UInt8 := if u = 0 then [] else Lib.decDigits u
theorem dd_zero : dd 0 = [] := rfl
theorem dd_pos {u : Nat} (h : u ≠ 0) : dd u = Lib.decDigits u := by unfold dd; rw [if_neg h]
theorem dd_step {u : Nat} (h : u ≠ 0) : dd u = dd (u / 10) ++ [UInt8.ofNat (48 + u % 10)] := by
  rw [dd_pos h, Lib.decDigits]
  by_cases hs : u < 10
  · rw [dif_pos hs, show u / 10 = 0 by omega, dd_zero, show u % 10 = u by omega]; rfl
  · rw [dif_neg hs, dd_pos (by omega)]
theorem nDigits_le (k : Nat) : ∀ u : Nat, u < 10 ^ k → Lib.nDigits u ≤ max k 1 := by
  induction k with
  | zero => intro u h; rw [Lib.nDigits_small (by simp at h; omega)]; omega
  | succ k ih =>
    intro u h
    by_cases hs : u < 10
    · rw [Lib.nDigits_small hs]; omega
    · rw [Lib.nDigits_big hs]
      have hk : k ≠ 0 := by rintro rfl; simp at h; omega
      have := ih (u / 10) (by rw [Nat.pow_succ] at h; omega)
      omega
theorem dd_len {u : Nat} (h : u ≤ 9223372036854775808) : (dd u).length ≤ 19 := by
  unfold dd
  split
  · simp
  · rw [Lib.decDigits_length]
    have := nDigits_le 19 u (by omega)
    omega
theorem itoa_zero : Lib.itoa 0 = [48] := by decide +kernel
theorem itoa_pos {n : Int} (h : 0 < n) : Lib.itoa n = dd n.natAbs := by
  unfold Lib.itoa; rw [if_neg (by omega), dd_pos (by omega)]; congr 1; omega
theorem itoa_neg {n : Int} (h : n < 0) : Lib.itoa n = 45 :: dd n.natAbs := by
  unfold Lib.itoa; rw [if_pos h, dd_pos (by omega)]
theorem itoa_len {n : Int} (h0 : -9223372036854775808 ≤ n) (h1 : n ≤ 9223372036854775807) : 1 ≤ (Lib.itoa n).length ∧ (Lib.itoa n).length ≤ 20 := by
  have hl := dd_len (u := n.natAbs) (by omega)
  rcases Int.lt_trichotomy n 0 with h | h | h
  · rw [itoa_neg h]; simp; omega
  · subst h; rw [itoa_zero]; simp
  · rw [itoa_pos h]
    refine ⟨?_, by omega⟩
    rw [dd_step (by omega)]; simp
end Go.Proofs.YtegaakgmfphcaaaGreatDoor.Fmt

/-
  PLAIN FACTS of texts that are numbers: what the decimal numeral of a number is worth, and that no text is the numeral of two numbers. No word of the program stands here.
-/
namespace Go.Proofs.YtegaakgmfphcaaaGreatDoor.Par
open Go Go.RowKit
set_option linter.unusedVariables false
set_option maxRecDepth 1000000

/-- what the bytes are worth, read as digits behind acc. -/
def stp (a : Nat) (c : UInt8) : Nat := 10 * a + (c.toNat - 48)
def val (acc : Nat) (l : List UInt8) : Nat := l.foldl stp acc
theorem val_nil (a : Nat) : val a [] = a := by unfold val; rw [List.foldl_nil]
theorem val_cons' (a : Nat) (c : UInt8) (r : List UInt8) : val a (c :: r) = val (stp a c) r := by unfold val; rw [List.foldl_cons]
theorem val_cons (a : Nat) (c : UInt8) (r : List UInt8) : val a (c :: r) = val (10 * a + (c.toNat - 48)) r := by rw [val_cons']; unfold stp; rfl
theorem val_one (a : Nat) (c : UInt8) : val a [c] = 10 * a + (c.toNat - 48) := by rw [val_cons', val_nil]; unfold stp; rfl
def isDig (c : UInt8) : Bool := decide (48 ≤ c.toNat ∧ c.toNat ≤ 57)
theorem val_append (l r : List UInt8) (a : Nat) : val a (l ++ r) = val (val a l) r := by unfold val; rw [List.foldl_append]
theorem dig_val (d : Nat) (h : d < 10) : (UInt8.ofNat (48 + d)).toNat = 48 + d := by rw [UInt8.toNat_ofNat']; omega
theorem dec_val (u : Nat) : val 0 (Lib.decDigits u) = u := by
  induction u using Nat.strongRecOn with
  | _ u ih =>
    rw [Lib.decDigits]
    by_cases h : u < 10
    · rw [dif_pos h, val_one, dig_val u h]; omega
    · rw [dif_neg h, val_append, ih (u / 10) (by omega), val_one, dig_val (u % 10) (by omega)]; omega
theorem dec_dig (u : Nat) : ∀ c ∈ Lib.decDigits u, 48 ≤ c.toNat ∧ c.toNat ≤ 57 := by
  induction u using Nat.strongRecOn with
  | _ u ih =>
    rw [Lib.decDigits]
    by_cases h : u < 10
    · rw [dif_pos h]; intro c hc
      rw [List.mem_singleton] at hc; subst hc; rw [dig_val u h]; omega
    · rw [dif_neg h]; intro c hc
      rcases List.mem_append.1 hc with k | k
      · exact ih (u / 10) (by omega) c k
      · rw [List.mem_singleton] at k; subst k
        rw [dig_val (u % 10) (by omega)]; omega
theorem itoa_nat {v : Int} (h : 0 ≤ v) : Lib.itoa v = Lib.decDigits v.toNat := by unfold Lib.itoa; rw [if_neg (by omega)]
theorem itoa_val {v : Int} (h : 0 ≤ v) : (val 0 (Lib.itoa v) : Int) = v := by rw [itoa_nat h, dec_val]; omega
theorem itoa_inj {u v : Int} (hu : 0 ≤ u) (hv : 0 ≤ v) (h : Lib.itoa u = Lib.itoa v) : u = v := by rw [← itoa_val hu, ← itoa_val hv, h]

/-- (v, b) is what ParseInt answers at the bytes l. -/
def PS (l : List UInt8) (v : Int) (b : Bool) : Prop :=
  (b = true ∧ 0 ≤ v ∧ v ≤ 1000000000000 ∧ Lib.itoa v = l) ∨ (b = false ∧ v = 0 ∧ ∀ u : Int, 0 ≤ u → u ≤ 1000000000000 → Lib.itoa u ≠ l)
theorem PS.uniq {l : List UInt8} {v v' : Int} {b b' : Bool} (h : PS l v b) (h' : PS l v' b') : v = v' ∧ b = b' := by
  rcases h with ⟨rfl, h1, h2, h3⟩ | ⟨rfl, rfl, hn⟩ <;> rcases h' with ⟨rfl, k1, k2, k3⟩ | ⟨rfl, rfl, kn⟩
  · exact ⟨itoa_inj h1 k1 (h3.trans k3.symm), rfl⟩
  · exact absurd h3 (kn _ h1 h2)
  · exact absurd k3 (hn _ k1 k2)
  · exact ⟨rfl, rfl⟩

/-- digits of at most 18 places are read by the library's reader as they are worth. -/
theorem uint_val (l : List UInt8) : ∀ (k acc : Nat), (∀ c ∈ l, 48 ≤ c.toNat ∧ c.toNat ≤ 57) → acc < 10 ^ k → k + l.length ≤ 18 → Lib.parseUint10 acc l = .ok (val acc l) := by
  induction l with
  | nil => intro k acc _ _ _; rw [Lib.parseUint10, val_nil]
  | cons c r ih =>
    intro k acc hd ha hl
    have hc := hd c (List.mem_cons_self ..)
    have hl' : r.length + 1 = (c :: r).length := rfl
    have hp : 10 ^ (k + 1) = 10 ^ k * 10 := Nat.pow_succ ..
    have hq : 10 ^ k ≤ 10 ^ 17 := Nat.pow_le_pow_right (by omega) (by omega)
    have hn : 10 * acc + (c.toNat - 48) < 10 ^ (k + 1) := by omega
    have h1 : ¬ 1844674407370955162 ≤ acc := by omega
    have h2 : ¬ 18446744073709551616 ≤ acc * 10 + (c.toNat - 48) := by omega
    have hr := ih (k + 1) _ (fun x hx => hd x (List.mem_cons_of_mem _ hx)) hn (by omega)
    rw [Lib.parseUint10, if_pos hc, if_neg h1, if_neg h2, val_cons, Nat.mul_comm acc 10]
    exact hr
theorem atoi_itoa {u : Int} (h0 : 0 ≤ u) (h1 : u ≤ 1000000000000) : Lib.atoiAll (Lib.itoa u) = .ok u := by
  have hl : (Lib.decDigits u.toNat).length ≤ 13 := by
    rw [Lib.decDigits_length]
    have := Fmt.nDigits_le 13 u.toNat (by omega)
    omega
  have hv := uint_val (Lib.decDigits u.toNat) 0 0 (dec_dig _) (by decide) (by omega)
  rw [dec_val] at hv
  have hd := dec_dig u.toNat
  rw [itoa_nat h0]
  have hne : Lib.decDigits u.toNat ≠ [] := by
    intro e
    have := congrArg List.length e
    rw [Lib.decDigits_length] at this
    have := Lib.nDigits_pos u.toNat
    simp at *; omega
  match hm : Lib.decDigits u.toNat, hne with
  | c :: r, _ =>
    rw [hm] at hv hd
    have hc := hd c (List.mem_cons_self ..)
    rw [Lib.atoiAll_plain c r (by omega) (by omega)]
    unfold Lib.parseMag
    rw [if_neg (by simp), hv]
    show (if 9223372036854775808 ≤ u.toNat then Lib.NumEnd.range else .ok (u.toNat : Int)) = _
    rw [if_neg (by omega), show (u.toNat : Int) = u by omega]

/-- m is what the first k bytes are worth, all of them digits. -/
def Good (s : ByteArray) (k m : Nat) : Prop := m = val 0 (s.data.toList.take k) ∧ m < 10 ^ k ∧ ∀ c ∈ s.data.toList.take k, 48 ≤ c.toNat ∧ c.toNat ≤ 57
theorem good_zero (s : ByteArray) : Good s 0 0 := ⟨by simp [val_nil], by simp, by simp⟩
theorem take_snoc (s : ByteArray) (k : Nat) (h : k < s.size) : s.data.toList.take (k + 1) = s.data.toList.take k ++ [s[k]] := by
  rw [List.take_succ_eq_append_getElem (by simpa using h)]; rfl
theorem good_step {s : ByteArray} {k m : Nat} (h : k < s.size) (g : Good s k m) (h1 : 48 ≤ (s[k].toNat : Int)) (h2 : (s[k].toNat : Int) ≤ 57) : Good s (k + 1) (10 * m + (s[k].toNat - 48)) := by
  obtain ⟨rfl, g2, g3⟩ := g
  refine ⟨?_, ?_, ?_⟩
  · rw [take_snoc s k h, val_append, val_one]
  · have : 10 ^ (k + 1) = 10 ^ k * 10 := Nat.pow_succ ..
    omega
  · rw [take_snoc s k h]
    intro c hc
    rcases List.mem_append.1 hc with hc | hc
    · exact g3 c hc
    · rw [List.mem_singleton] at hc; subst hc; omega
theorem good_bound {s : ByteArray} {k m : Nat} (g : Good s k m) (hk : k ≤ 13) : m < 10000000000000 := by
  have : 10 ^ k ≤ 10 ^ 13 := Nat.pow_le_pow_right (by omega) hk
  have e : (10 : Nat) ^ 13 = 10000000000000 := by decide
  have := g.2.1
  omega
theorem itoa_short {u : Int} (h0 : 0 ≤ u) (h1 : u ≤ 1000000000000) : 1 ≤ (Lib.itoa u).length ∧ (Lib.itoa u).length ≤ 13 := by
  rw [itoa_nat h0, Lib.decDigits_length]
  have := Fmt.nDigits_le 13 u.toNat (by omega)
  have := Lib.nDigits_pos u.toNat
  omega
theorem size_len (s : ByteArray) : s.data.toList.length = s.size := Array.length_toList
theorem ps_short {s : ByteArray} (h : (s.size : Int) < 1 ∨ 13 < (s.size : Int)) : PS s.data.toList 0 false := by
  refine Or.inr ⟨rfl, rfl, fun u h0 h1 e => ?_⟩
  have := itoa_short h0 h1
  rw [e] at this
  have hz := size_len s
  omega
theorem ps_bad {s : ByteArray} {k : Nat} (h : k < s.size) (hc : (s[k].toNat : Int) < 48 ∨ 57 < (s[k].toNat : Int)) : PS s.data.toList 0 false := by
  refine Or.inr ⟨rfl, rfl, fun u h0 h1 e => ?_⟩
  have hm : s[k] ∈ s.data.toList := by
    have : s[k] = s.data.toList[k]'(by simpa using h) := rfl
    rw [this]; exact List.getElem_mem _
  rw [← e, itoa_nat h0] at hm
  have := dec_dig _ _ hm
  omega
theorem good_val {s : ByteArray} {m : Nat} (g : Good s s.size m) : m = val 0 s.data.toList := by
  have hz := size_len s
  have := g.1
  rwa [← hz, List.take_length] at this
theorem ps_great {s : ByteArray} {m : Nat} (g : Good s s.size m) (h : 1000000000000 < (m : Int)) : PS s.data.toList 0 false := by
  refine Or.inr ⟨rfl, rfl, fun u h0 h1 e => ?_⟩
  have := itoa_val h0
  rw [e, ← good_val g] at this
  omega
theorem ps_other {s : ByteArray} {m : Nat} (g : Good s s.size m) (h : Lib.itoa m ≠ s.data.toList) : PS s.data.toList 0 false := by
  refine Or.inr ⟨rfl, rfl, fun u h0 h1 e => ?_⟩
  have := itoa_val h0
  rw [e, ← good_val g] at this
  rw [this] at h
  exact h e
theorem ps_is {s : ByteArray} {m : Nat} (h : (m : Int) ≤ 1000000000000) (e : Lib.itoa m = s.data.toList) : PS s.data.toList m true := Or.inl ⟨rfl, by omega, h, e⟩
end Go.Proofs.YtegaakgmfphcaaaGreatDoor.Par

/-
  CONTRACT of the model's FormatInt: at every integer of 64 bits it returns the decimal numeral; nothing that was there before is changed.
-/
namespace Go.Proofs.YtegaakgmfphcaaaGreatDoor.Fmt
open Go Go.RowKit
set_option linter.unusedVariables false
set_option maxRecDepth 1000000

theorem ret_str {a b : List UInt8} (h : a = b) : Ending.returned (.string ⟨a.toArray⟩) = .returned (.string ⟨b.toArray⟩) := by rw [h]

/-- A byte in a new block of its own, read back as a string. -/
theorem byteback (wr : World) (z : Int) (h0 : 0 ≤ z) (h1 : z ≤ 255) :
    (convert 22 9 (.slice (some ⟨wr.heap.size, 0, none⟩) 1 1)).run Tryz.prog (wr.alloc (.cells #[.int .u8 z] 5)) = .ok (.string ⟨[UInt8.ofNat z.toNat].toArray⟩) (wr.alloc (.cells #[.int .u8 z] 5)) := by
  have h := run_convert_bytes_back (P := Tryz.prog) (wr.alloc (.cells #[.int .u8 z] 5)) 22 9 5 ⟨wr.heap.size, 0, none⟩ 1 [UInt8.ofNat z.toNat] Tryz.underlying22 Tryz.underlying5 Tryz.underlying9 (fun j hj => by
    have hj0 : j = 0 := by simpa using hj
    subst hj0
    have : ((UInt8.ofNat z.toNat).toNat : Int) = z := by
      rw [UInt8.toNat_ofNat']; omega
    show World.cell? _ ⟨wr.heap.size, 0 + 0, none⟩ = _
    rw [World.cell?_alloc_new]
    simp; omega)
  exact h
theorem addone (c : UInt8) (suf : List UInt8) (h : suf.length ≤ 40) (W : World) :
    (Op.stringOp .add ⟨[c].toArray⟩ ⟨suf.toArray⟩).run Tryz.prog W = .ok (.string ⟨(c :: suf).toArray⟩) W := by
  rw [run_string_add_sum W _ _ (by simp [ByteArray.size]; omega)]; rfl

theorem step (u : Nat) (suf : List UInt8) (hz : u ≠ 0) (wr : World) : ∃ c : UInt8, dd (u / 10) ++ (c :: suf) = dd u ++ suf ∧
    (convert 22 9 (.slice (some ⟨wr.heap.size, 0, none⟩) 1 1)).run Tryz.prog (wr.alloc (.cells #[.int .u8 (48 + (u : Int) % 10)] 5)) = .ok (.string ⟨[c].toArray⟩) (wr.alloc (.cells #[.int .u8 (48 + (u : Int) % 10)] 5)) := by
  refine ⟨_, ?_, byteback wr _ (by omega) (by omega)⟩
  rw [dd_step hz, show (48 + (u : Int) % 10).toNat = 48 + u % 10 by omega, List.append_assoc]; rfl
theorem step_len (u m : Nat) (c : UInt8) (suf : List UInt8) (h : m ≤ 9223372036854775808) (e : dd (u / 10) ++ (c :: suf) = dd m) : (c :: suf).length ≤ 19 := by
  have h19 := dd_len h
  rw [← e, List.length_append] at h19
  omega

theorem neg_mod (u : Nat) : (-(u : Int)).tmod 10 = -((u : Int) % 10) := by
  rw [Int.neg_tmod]; congr 1
theorem neg_div (u : Nat) : (-(u : Int)).tdiv 10 = -((u : Int) / 10) := by
  rw [Int.neg_tdiv]; congr 1

end Go.Proofs.YtegaakgmfphcaaaGreatDoor.Fmt

/-
  PLAIN FACTS OF NUMBERS that the contracts of chapter 1 lean on: remainder and quotient rounded down, and Go's own. No word of the program stands here.
-/
namespace Go.Proofs.YtegaakgmfphcaaaGreatDoor.NumDiv
open Go Go.RowKit
set_option linter.unusedVariables false
set_option maxRecDepth 1000000

/-- Go's remainder, made not negative; 0 for a divisor out of range. -/
def md (n m : Int) : Int := if 1 ≤ m ∧ m ≤ 1000000000000 then n % m else 0
/-- the quotient rounded down; 0 for a divisor out of range. -/
def fd (n m : Int) : Int := if 1 ≤ m ∧ m ≤ 1000000000000 then n / m else 0

theorem md_out {n m : Int} (h : m < 1 ∨ 1000000000000 < m) : md n m = 0 := by unfold md; rw [if_neg (by omega)]
theorem fd_out {n m : Int} (h : m < 1 ∨ 1000000000000 < m) : fd n m = 0 := by unfold fd; rw [if_neg (by omega)]
theorem md_in {n m : Int} (h : 1 ≤ m) (h2 : m ≤ 1000000000000) : md n m = n % m := by unfold md; rw [if_pos ⟨h, h2⟩]
theorem fd_in {n m : Int} (h : 1 ≤ m) (h2 : m ≤ 1000000000000) : fd n m = n / m := by unfold fd; rw [if_pos ⟨h, h2⟩]

theorem tmod_bd (n m : Int) (h : 1 ≤ m) : -m < n.tmod m ∧ n.tmod m < m := by
  constructor
  · exact Int.lt_tmod_of_pos n (by omega)
  · exact Int.tmod_lt_of_pos n (by omega)
theorem tmod_split (n m : Int) (h : 1 ≤ m) : n.tmod m = n % m ∨ (0 < n % m ∧ n.tmod m = n % m - m) := by
  have e := Int.tmod_eq_emod (a := n) (b := m)
  have p := Int.emod_nonneg n (show m ≠ 0 by omega)
  by_cases c : 0 ≤ n ∨ m ∣ n
  · rw [if_pos c] at e; left; rw [e]; simp
  · rw [if_neg c] at e
    right
    have hz : n % m ≠ 0 := fun z => c (Or.inr (Int.dvd_of_emod_eq_zero z))
    exact ⟨by omega, by omega⟩
theorem tmod_neg_emod {n m : Int} (h : 1 ≤ m) (hr : n.tmod m < 0) : n.tmod m + m = n % m := by
  have p := Int.emod_nonneg n (show m ≠ 0 by omega)
  rcases tmod_split n m h with e | ⟨_, e⟩ <;> omega
theorem tmod_pos_emod {n m : Int} (h : 1 ≤ m) (hr : 0 ≤ n.tmod m) : n.tmod m = n % m := by
  have p := Int.emod_lt_of_pos n (show 0 < m by omega)
  rcases tmod_split n m h with e | ⟨_, e⟩ <;> omega
theorem tdiv_neg {n m : Int} (h : 1 ≤ m) (hr : n.tmod m < 0) : n.tdiv m - 1 = n / m := by
  have e := tmod_neg_emod h hr
  have a := Int.mul_tdiv_add_tmod n m
  have b := Int.mul_ediv_add_emod n m
  have : m * (n.tdiv m - 1) = m * (n / m) := by rw [Int.mul_sub]; omega
  exact Int.eq_of_mul_eq_mul_left (show m ≠ 0 by omega) this
theorem tdiv_pos {n m : Int} (h : 1 ≤ m) (hr : 0 ≤ n.tmod m) : n.tdiv m = n / m := by
  have e := tmod_pos_emod h hr
  have a := Int.mul_tdiv_add_tmod n m
  have b := Int.mul_ediv_add_emod n m
  have : m * (n.tdiv m) = m * (n / m) := by omega
  exact Int.eq_of_mul_eq_mul_left (show m ≠ 0 by omega) this

theorem q_bd' (n m : Int) (h : 1 ≤ m) (a : -9223372036854775808 ≤ n) (b : n ≤ 9223372036854775807) : -9223372036854775808 ≤ n / m ∧ n / m ≤ 9223372036854775807 := by
  constructor
  · refine Int.le_ediv_of_mul_le (by omega) ?_
    have : (-9223372036854775808 : Int) * m ≤ -9223372036854775808 * 1 := Int.mul_le_mul_of_nonpos_left (by omega) h
    omega
  · by_cases z : 0 ≤ n
    · have := Int.ediv_le_self m z; omega
    · have := Int.ediv_neg_of_neg_of_pos (show n < 0 by omega) (show 0 < m by omega); omega
theorem q_bd (n m : Int) (h : 1 ≤ m) (a : -9223372036854775808 ≤ n) (b : n ≤ 9223372036854775807) : -9223372036854775808 ≤ n.tdiv m ∧ n.tdiv m ≤ 9223372036854775807 := by
  have c := q_bd' n m h a b
  by_cases hr : n.tmod m < 0
  · have d := tdiv_neg h hr
    have e : n < 0 := by
      by_cases z : 0 ≤ n
      · have := Int.tmod_nonneg m z; omega
      · omega
    have := Int.ediv_neg_of_neg_of_pos e (show 0 < m by omega)
    omega
  · rw [tdiv_pos h (by omega)]; exact c
theorem ret_int {k : IntKind} {a b : Int} (h : a = b) : Ending.returned (.int k a) = .returned (.int k b) := by rw [h]
end Go.Proofs.YtegaakgmfphcaaaGreatDoor.NumDiv

/-
  CONTRACT of the model's small test l1In: whether a number lies between two others; the world stays as it was.
-/
namespace Go.Proofs.YtegaakgmfphcaaaGreatDoor.NumDiv
open Go Go.RowKit
set_option linter.unusedVariables false
set_option maxRecDepth 1000000

theorem in_yes (x lo hi : Int) (w : World) (h1 : lo ≤ x) (h2 : x ≤ hi) :
    Calls Tryz.prog 86 #[.int .i64 x, .int .i64 lo, .int .i64 hi] w fun e w' => e = .returned (.bool true) ∧ w = w' := by
  go_enter Tryz.func86, Tryz.ntmps86
  go_wp2
  go_ret
  exact ⟨rfl, rfl⟩
theorem in_no (x lo hi : Int) (w : World) (h : x < lo ∨ hi < x) :
    Calls Tryz.prog 86 #[.int .i64 x, .int .i64 lo, .int .i64 hi] w fun e w' => e = .returned (.bool false) ∧ w = w' := by
  by_cases h1 : lo ≤ x
  · have h2 : ¬ x ≤ hi := by omega
    clear h
    go_enter Tryz.func86, Tryz.ntmps86
    go_wp2
    go_ret
    exact ⟨rfl, rfl⟩
  · clear h
    go_enter Tryz.func86, Tryz.ntmps86
    go_wp2
    go_ret
    exact ⟨rfl, rfl⟩
end Go.Proofs.YtegaakgmfphcaaaGreatDoor.NumDiv

/-
  CONTRACT of the model's ParseInt: at every text it answers the number whose decimal numeral the text is, if it lies between 0 and the greatest integer that is read; nothing that was there before is changed.
-/
namespace Go.Proofs.YtegaakgmfphcaaaGreatDoor.Par
open Go Go.RowKit
set_option linter.unusedVariables false
set_option maxRecDepth 1000000

theorem list_eq {l : List UInt8} {s : ByteArray} (h : (!l == s.toList) = false) : l = s.data.toList := by
  rw [← Go.ByteArray.toList_eq]
  simpa using h
theorem list_ne {l : List UInt8} {s : ByteArray} (h : (!l == s.toList) = true) : l ≠ s.data.toList := by
  rw [← Go.ByteArray.toList_eq]
  simpa using h
/-- How ParseInt ends. -/
def Parsed (l : List UInt8) (w : World) (e : Ending) (w' : World) : Prop := ∃ v b, PS l v b ∧ e = .returned (.tuple #[.int .i64 v, .bool b]) ∧ Below w.heap.size w w'

end Go.Proofs.YtegaakgmfphcaaaGreatDoor.Par

/-
  CONTRACT of the program's FormatInt: at every integer of 64 bits, where the library's table of powers of ten reads as it is written, it returns the decimal numeral; nothing that was there before is changed.
-/
namespace Go.Proofs.YtegaakgmfphcaaaGreatDoor.Fmt
open Go Go.RowKit
set_option linter.unusedVariables false
set_option maxRecDepth 1000000

/-- The library's table of powers of ten, as it is written. -/
def Tens (w : World) : Prop := Lib.TabIs Tryz.prog w "internal/strconv.uint64pow10" .u64 Lib.pow10Tab
theorem tens_below {W w1 : World} (h : Tens W) (hb : Below W.heap.size W w1) : Tens w1 := Base.var_below h hb

end Go.Proofs.YtegaakgmfphcaaaGreatDoor.Fmt

/-
  CONTRACT of the program's ParseInt: at every text of at most 2 to the 48 bytes, where the library's table of powers of ten and its two errors read as they are written, it answers the number whose decimal numeral the text is, if it lies between 0 and the greatest integer that is read; nothing that was there before is changed.
-/
namespace Go.Proofs.YtegaakgmfphcaaaGreatDoor.Par
open Go Go.RowKit
set_option linter.unusedVariables false
set_option maxRecDepth 1000000

/-- The library's two errors are there. -/
def Errs (w : World) : Prop := (∃ tp p, w.var? Tryz.prog "strconv.ErrSyntax" = some #[.iface tp p]) ∧ (∃ tp p, w.var? Tryz.prog "strconv.ErrRange" = some #[.iface tp p])
theorem errs_below {W w1 : World} (h : Errs W) (hb : Below W.heap.size W w1) : Errs w1 := by
  obtain ⟨⟨tp, p, h1⟩, ⟨tq, q, h2⟩⟩ := h
  exact ⟨⟨tp, p, Base.var_below h1 hb⟩, ⟨tq, q, Base.var_below h2 hb⟩⟩


theorem atoi_ok (s : ByteArray) (hs : s.size ≤ 281474976710656) (v : Int) (h : Lib.atoiAll s.data.toList = .ok v) (w : World) :
    Calls Tryz.prog 133 #[.string s] w fun e w' => e = .returned (.tuple #[.int .i64 v, .nilIface]) ∧ Below w.heap.size w w' := by
  refine (Tryz.strconv_Atoi_ok s (by omega) v h w).mono ?_
  rintro e w' ⟨rfl, rfl | ⟨t, rfl⟩⟩
  · exact ⟨rfl, Below.refl _ _⟩
  · exact ⟨rfl, Joins.below_bytesWorld _ _ _ _ (Nat.le_refl _)⟩
/-- Any other end of Atoi: an error that is there. -/
theorem atoi_err (s : ByteArray) (hs : s.size ≤ 281474976710656) (h : ∀ v, Lib.atoiAll s.data.toList ≠ .ok v) (w : World) (he : Errs w) :
    Calls Tryz.prog 133 #[.string s] w fun e w' => (∃ z p, e = .returned (.tuple #[.int .i64 z, .iface 144 (.pointer (some p))])) ∧ Below w.heap.size w w' := by
  obtain ⟨⟨tp, p, h1⟩, ⟨tq, q, h2⟩⟩ := he
  rcases hk : Lib.atoiAll s.data.toList with v | _ | _
  · exact absurd hk (h v)
  · refine (Tryz.strconv_Atoi_syntax_var s hs hk tp p w h1).mono ?_
    rintro e w' ⟨N, rfl, _, _, hb⟩
    exact ⟨⟨_, _, rfl⟩, hb⟩
  · refine (Tryz.strconv_Atoi_range_var s hs hk tq q w h2).mono ?_
    rintro e w' ⟨N, rfl, _, _, hb⟩
    exact ⟨⟨_, _, rfl⟩, hb⟩

theorem ps_noatoi {s : ByteArray} (h : ∀ v, Lib.atoiAll s.data.toList ≠ .ok v) : PS s.data.toList 0 false := by
  refine Or.inr ⟨rfl, rfl, fun u h0 h1 e => ?_⟩
  exact h u (e ▸ atoi_itoa h0 h1)
theorem ps_out {s : ByteArray} {v : Int} (h : Lib.atoiAll s.data.toList = .ok v) (hv : v < 0 ∨ 1000000000000 < v) : PS s.data.toList 0 false := by
  refine Or.inr ⟨rfl, rfl, fun u h0 h1 e => ?_⟩
  have := atoi_itoa h0 h1
  rw [e, h] at this
  injection this with this
  omega
theorem ps_not {s : ByteArray} {v : Int} (h : Lib.atoiAll s.data.toList = .ok v) (hv : Lib.itoa v ≠ s.data.toList) : PS s.data.toList 0 false := by
  refine Or.inr ⟨rfl, rfl, fun u h0 h1 e => ?_⟩
  have := atoi_itoa h0 h1
  rw [e, h] at this
  injection this with this
  exact hv (this ▸ e)

end Go.Proofs.YtegaakgmfphcaaaGreatDoor.Par

/-
  CONTRACTS of the library's ParseUint at a text of two bytes, base 16 and 8 bits: the number that the two digits mean, or an error; nothing that was there before is changed.
-/
namespace Go.Proofs.YtegaakgmfphcaaaGreatDoor.Nt
open Go Go.RowKit Bys
set_option linter.unusedVariables false
set_option maxRecDepth 1000000
set_option maxRecDepth 1000000

theorem or32 : ∀ r : Fin 256, bits .or .u8 ((r.1 : Nat) : Int) 32 = (if r.1 / 32 % 2 = 1 then (r.1 : Int) else (r.1 : Int) + 32) := by decide
/-- What is read up to place k of two digits x, y. -/
def acc (x y k : Nat) : Nat := if k = 0 then 0 else if k = 1 then x else 16 * x + y
def PuEnd (x y : Nat) (w : World) (e : Ending) (w' : World) : Prop := (e = .returned (.tuple #[.int .u64 (if x < 16 ∧ y < 16 then (16 * x + y : Nat) else 0 : Int), if x < 16 ∧ y < 16 then .nilIface else .iface 142 (.int .i64 2)])) ∧ Below w.heap.size w w'

/-- What a byte is for the reader: a digit, a small or a capital letter of the sixteen, or neither. -/
theorem hex_kind (c : UInt8) : (48 ≤ c.toNat ∧ c.toNat ≤ 57 ∧ hexn c = c.toNat - 48) ∨ (97 ≤ c.toNat ∧ c.toNat ≤ 102 ∧ hexn c = c.toNat - 87) ∨ (65 ≤ c.toNat ∧ c.toNat ≤ 70 ∧ hexn c = c.toNat - 55) ∨ (hexn c = 16 ∧ ¬ (48 ≤ c.toNat ∧ c.toNat ≤ 57) ∧ ¬ (97 ≤ c.toNat ∧ c.toNat ≤ 102) ∧ ¬ (65 ≤ c.toNat ∧ c.toNat ≤ 70)) := by
  unfold hexn
  by_cases h1 : 48 ≤ c.toNat ∧ c.toNat ≤ 57
  · exact Or.inl ⟨h1.1, h1.2, if_pos h1⟩
  by_cases h2 : 97 ≤ c.toNat ∧ c.toNat ≤ 102
  · exact Or.inr (Or.inl ⟨h2.1, h2.2, by rw [if_neg h1, if_pos h2]⟩)
  by_cases h3 : 65 ≤ c.toNat ∧ c.toNat ≤ 70
  · exact Or.inr (Or.inr (Or.inl ⟨h3.1, h3.2, by rw [if_neg h1, if_neg h2, if_pos h3]⟩))
  · exact Or.inr (Or.inr (Or.inr ⟨by rw [if_neg h1, if_neg h2, if_neg h3], h1, h2, h3⟩))
theorem or_small {n : Nat} (h : 97 ≤ n ∧ n ≤ 102) : bits .or .u8 (n : Int) 32 = (n : Int) := by
  have := or32 ⟨n, by omega⟩; simp only at this; rw [this, if_pos (by omega)]
theorem or_big {n : Nat} (h : 65 ≤ n ∧ n ≤ 70) : bits .or .u8 (n : Int) 32 = (n : Int) + 32 := by
  have := or32 ⟨n, by omega⟩; simp only at this; rw [this, if_neg (by omega)]
/-- .. and of the others no letter below g. -/
theorem or_no {n : Nat} (h0 : n < 256) (h1 : ¬ (97 ≤ n ∧ n ≤ 102)) (h2 : ¬ (65 ≤ n ∧ n ≤ 70)) : ¬ (97 ≤ bits .or .u8 (n : Int) 32 ∧ bits .or .u8 (n : Int) 32 ≤ 102) := by
  have := or32 ⟨n, h0⟩; simp only at this; rw [this]; split <;> omega

set_option maxHeartbeats 8000000 in
theorem pu_in (a b : UInt8) (w : World) : Calls Tryz.prog 98 #[.string ⟨#[a, b]⟩, .int .i64 16, .int .i64 8] w (PuEnd (hexn a) (hexn b) w) := by
  have hcv := Lib.run_convert_string_bytes (P := Tryz.prog) w 9 22 5 ⟨#[a, b]⟩ (u := .string) Tryz.underlying9 Tryz.underlying22 Tryz.underlying5
  have hB : ∀ j, j < 2 → (Lib.bytesWorld w 5 ⟨#[a, b]⟩).cell? ⟨w.heap.size, j, none⟩ = some (.int .u8 (([a, b].getD j 0).toNat : Int)) := fun j hj => Lib.bytesWorld_cell w 5 ⟨#[a, b]⟩ j hj
  have hbw : Below w.heap.size w (Lib.bytesWorld w 5 ⟨#[a, b]⟩) := Joins.below_bytesWorld _ _ _ _ (Nat.le_refl _)
  obtain ⟨W1, hW1⟩ : ∃ W1, W1 = Lib.bytesWorld w 5 ⟨#[a, b]⟩ := ⟨_, rfl⟩
  rw [← hW1] at hcv hB hbw
  clear hW1
  have HBW := Lib.hid hbw
  have HBB := Lib.hid hB
  clear hbw hB
  have hmv : IntKind.u64.wrap (IntKind.u64.wrap 256 - 1) = 255 := by rw [IntKind.wrap_u64, IntKind.wrap_u64]; decide
  have hsz : (⟨#[a, b]⟩ : ByteArray).size = 2 := rfl
  unfold PuEnd
  obtain ⟨v1, hv1⟩ : ∃ v : Int, v = (if hexn a < 16 ∧ hexn b < 16 then (16 * hexn a + hexn b : Nat) else 0 : Int) := ⟨_, rfl⟩
  obtain ⟨v2, hv2⟩ : ∃ v : Value, v = (if hexn a < 16 ∧ hexn b < 16 then .nilIface else .iface 142 (.int .i64 2)) := ⟨_, rfl⟩
  rw [← hv1, ← hv2]
  have HV : Hid (v1 = (if hexn a < 16 ∧ hexn b < 16 then (16 * hexn a + hexn b : Nat) else 0 : Int) ∧ v2 = (if hexn a < 16 ∧ hexn b < 16 then .nilIface else .iface 142 (.int .i64 2))) := Lib.hid ⟨hv1, hv2⟩
  clear hv1 hv2
  go_enter Tryz.func98, Tryz.ntmps98
  go_wp2
  go_loop [12, 13, 101] (fun vu vn vi => ∃ (k : Nat) (n : Int), vu = .bool false ∧ vn = .int .u64 n ∧ vi = .int .i64 (k : Int) ∧ k ≤ 2 ∧ Hid (n = (acc (hexn a) (hexn b) k : Int) ∧ (1 ≤ k → hexn a < 16) ∧ (2 ≤ k → hexn b < 16)))
    (fun _ _ vi => 2 - (intOf vi).toNat)
  case atStart => exact ⟨0, 0, rfl, rfl, rfl, by omega, Lib.hid ⟨rfl, fun h => by omega, fun h => by omega⟩⟩
  case round =>
    obtain ⟨k, n, rfl, rfl, rfl, hk, HH⟩ := hrel
    by_cases hkn : k < 2
    · have hc := HBB.out k hkn
      have hki : (k : Int) < 2 := by omega
      -- the byte, what it is, and what the number is before it
      obtain ⟨c, hcd⟩ : ∃ c, c = [a, b].getD k 0 := ⟨_, rfl⟩
      rw [← hcd] at hc
      have HC := Lib.hid hcd
      clear hcd
      have hc256 : c.toNat < 256 := c.toNat_lt
      have n0 : 0 ≤ n ∧ n < 16 := by
        obtain ⟨e, h1, h2⟩ := HH.out
        rw [e]; unfold acc
        match k, hkn with
        | 0, _ => simp
        | 1, _ => have := h1 (by omega); simp; omega
      obtain ⟨n1, n2⟩ := n0
      have HN : Hid (hexn c < 16 → (16 * n + (hexn c : Int)) = (acc (hexn a) (hexn b) (k + 1) : Int) ∧ (1 ≤ k + 1 → hexn a < 16) ∧ (2 ≤ k + 1 → hexn b < 16)) := Lib.hid (fun hx => by
        obtain ⟨e, h1, h2⟩ := HH.out
        have hc' := HC.out
        match k, hkn with
        | 0, _ => obtain rfl : c = a := by simpa using hc'
                  rw [e]; exact ⟨by simp [acc], fun _ => hx, fun h => by omega⟩
        | 1, _ => obtain rfl : c = b := by simpa using hc'
                  rw [e]; exact ⟨by simp [acc], fun _ => h1 (by omega), fun _ => hx⟩)
      have HBad : Hid (¬ hexn c < 16 → v1 = 0 ∧ v2 = .iface 142 (.int .i64 2)) := Lib.hid (fun hx => by
        have hc' := HC.out
        have hnn : ¬ (hexn a < 16 ∧ hexn b < 16) := by
          match k, hkn with
          | 0, _ => obtain rfl : c = a := by simpa using hc'
                    exact fun h => hx h.1
          | 1, _ => obtain rfl : c = b := by simpa using hc'
                    exact fun h => hx h.2
        have := HV.out; rw [if_neg hnn, if_neg hnn] at this; exact this)
      have HB := Lib.hid HBW.out
      clear HH HC hkn
      rcases hex_kind c with ⟨p1, p2, p3⟩ | ⟨p1, p2, p3⟩ | ⟨p1, p2, p3⟩ | ⟨p3, p4, p5, p6⟩
      · have HN := Lib.hid (HN.out (by omega))
        rw [p3] at HN
        have q1 : 48 ≤ (c.toNat : Int) := by omega
        have q2 : (c.toNat : Int) ≤ 57 := by omega
        have HQ : Hid (((c.toNat - 48 : Nat) : Int) = (c.toNat : Int) - 48) := Lib.hid (by omega)
        rw [HQ.out] at HN
        clear p1 p2 p3 HBad HQ
        generalize (c.toNat : Int) = m at *
        have icut : n < 1152921504606846976 := by omega
        have iov : n * 16 + (m - 48) ≤ 255 := by omega
        have HM : Hid (n * 16 + (m - 48) = (acc (hexn a) (hexn b) (k + 1) : Int) ∧ (1 ≤ k + 1 → hexn a < 16) ∧ (2 ≤ k + 1 → hexn b < 16)) := Lib.hid (by have h := HN.out; rw [show n * 16 + (m - 48) = 16 * n + (m - 48) by omega]; exact h)
        clear HN hc256
        go_wp2
        refine ⟨⟨k + 1, n * 16 + (m - 48), rfl, (by first | rfl | (congr 1; omega)), (by first | rfl | (congr 1; omega)), by omega, HM⟩, by simp [intOf]; omega⟩
      · have HN := Lib.hid (HN.out (by omega))
        rw [p3] at HN
        have q1 : 97 ≤ (c.toNat : Int) := by omega
        have q2 : (c.toNat : Int) ≤ 102 := by omega
        have HQ : Hid (((c.toNat - 87 : Nat) : Int) = (c.toNat : Int) - 87) := Lib.hid (by omega)
        have HLW : Hid (∀ W, Calls Tryz.prog 134 #[.int .u8 (c.toNat : Int)] W fun e w' => e = .returned (.int .u8 ((c.toNat : Int))) ∧ w' = W) := Lib.hid (fun W => by have h := Tryz.internal_strconv_lower (c.toNat : Int) W; rw [or_small ⟨p1, p2⟩] at h; exact h)
        rw [HQ.out] at HN
        clear p1 p2 p3 HBad HQ hc256
        generalize (c.toNat : Int) = m at *
        have icut : n < 1152921504606846976 := by omega
        have iov : n * 16 + (m - 87) ≤ 255 := by omega
        have HM : Hid (n * 16 + (m - 87) = (acc (hexn a) (hexn b) (k + 1) : Int) ∧ (1 ≤ k + 1 → hexn a < 16) ∧ (2 ≤ k + 1 → hexn b < 16)) := Lib.hid (by have h := HN.out; rw [show n * 16 + (m - 87) = 16 * n + (m - 87) by omega]; exact h)
        clear HN
        go_wp2_with (go_at_call 134; refine (HLW.out _).mono ?_; rintro e w' ⟨rfl, rfl⟩)
        refine ⟨⟨k + 1, n * 16 + (m - 87), rfl, (by first | rfl | (congr 1; omega)), (by first | rfl | (congr 1; omega)), by omega, HM⟩, by simp [intOf]; omega⟩
      · have HN := Lib.hid (HN.out (by omega))
        rw [p3] at HN
        have q1 : 65 ≤ (c.toNat : Int) := by omega
        have q2 : (c.toNat : Int) ≤ 70 := by omega
        have HQ : Hid (((c.toNat - 55 : Nat) : Int) = (c.toNat : Int) - 55) := Lib.hid (by omega)
        have HLW : Hid (∀ W, Calls Tryz.prog 134 #[.int .u8 (c.toNat : Int)] W fun e w' => e = .returned (.int .u8 ((c.toNat : Int) + 32)) ∧ w' = W) := Lib.hid (fun W => by have h := Tryz.internal_strconv_lower (c.toNat : Int) W; rw [or_big ⟨p1, p2⟩] at h; exact h)
        rw [HQ.out] at HN
        clear p1 p2 p3 HBad HQ hc256
        generalize (c.toNat : Int) = m at *
        have icut : n < 1152921504606846976 := by omega
        have iov : n * 16 + (m - 55) ≤ 255 := by omega
        have HM : Hid (n * 16 + (m - 55) = (acc (hexn a) (hexn b) (k + 1) : Int) ∧ (1 ≤ k + 1 → hexn a < 16) ∧ (2 ≤ k + 1 → hexn b < 16)) := Lib.hid (by have h := HN.out; rw [show n * 16 + (m - 55) = 16 * n + (m - 55) by omega]; exact h)
        clear HN
        go_wp2_with (go_at_call 134; refine (HLW.out _).mono ?_; rintro e w' ⟨rfl, rfl⟩)
        refine ⟨⟨k + 1, n * 16 + (m - 55), rfl, (by first | rfl | (congr 1; omega)), (by first | rfl | (congr 1; omega)), by omega, HM⟩, by simp [intOf]; omega⟩
      · have HE := Lib.hid (HBad.out (by omega))
        have hz1 := or_no hc256 p5 p6
        have hz2 := bits_lo_u8 .or (c.toNat : Int) 32
        have hz3 := bits_hi_u8 .or (c.toNat : Int) 32
        have q1 : ¬ (48 ≤ (c.toNat : Int) ∧ (c.toNat : Int) ≤ 57) := by omega
        have q3 : 0 ≤ (c.toNat : Int) := by omega
        have q4 : (c.toNat : Int) ≤ 255 := by omega
        have HLW : Hid (∀ W, Calls Tryz.prog 134 #[.int .u8 (c.toNat : Int)] W fun e w' => e = .returned (.int .u8 (bits .or .u8 (c.toNat : Int) 32)) ∧ w' = W) := Lib.hid (fun W => Tryz.internal_strconv_lower (c.toNat : Int) W)
        generalize bits .or .u8 (c.toNat : Int) 32 = z at *
        clear p3 p4 p5 p6 HBad HN hc256
        generalize (c.toNat : Int) = m at *
        by_cases h95 : m = 95
        · subst h95
          by_cases g1 : 97 ≤ z
          · have g2 : 102 < z := by omega
            clear hz1 q1
            go_wp2_with (go_at_call 134; refine (HLW.out _).mono ?_; rintro e w' ⟨rfl, rfl⟩)
            all_goals go_ret2
            all_goals exact ⟨by rw [HE.out.1, HE.out.2] <;> rfl, HB.out⟩
          · clear hz1 q1
            go_wp2_with (go_at_call 134; refine (HLW.out _).mono ?_; rintro e w' ⟨rfl, rfl⟩)
            all_goals go_ret2
            all_goals exact ⟨by rw [HE.out.1, HE.out.2] <;> rfl, HB.out⟩
        · have h95' : (m == 95) = false := by simpa using h95
          by_cases g0 : 48 ≤ m
          · have g3 : 57 < m := by omega
            by_cases g1 : 97 ≤ z
            · have g2 : 102 < z := by omega
              clear hz1 q1 h95
              go_wp2_with (go_at_call 134; refine (HLW.out _).mono ?_; rintro e w' ⟨rfl, rfl⟩)
              all_goals go_ret2
              all_goals exact ⟨by rw [HE.out.1, HE.out.2] <;> rfl, HB.out⟩
            · clear hz1 q1 h95
              go_wp2_with (go_at_call 134; refine (HLW.out _).mono ?_; rintro e w' ⟨rfl, rfl⟩)
              all_goals go_ret2
              all_goals exact ⟨by rw [HE.out.1, HE.out.2] <;> rfl, HB.out⟩
          · by_cases g1 : 97 ≤ z
            · have g2 : 102 < z := by omega
              clear hz1 q1 h95
              go_wp2_with (go_at_call 134; refine (HLW.out _).mono ?_; rintro e w' ⟨rfl, rfl⟩)
              all_goals go_ret2
              all_goals exact ⟨by rw [HE.out.1, HE.out.2] <;> rfl, HB.out⟩
            · clear hz1 q1 h95
              go_wp2_with (go_at_call 134; refine (HLW.out _).mono ?_; rintro e w' ⟨rfl, rfl⟩)
              all_goals go_ret2
              all_goals exact ⟨by rw [HE.out.1, HE.out.2] <;> rfl, HB.out⟩
    · have HE : Hid (v1 = n ∧ v2 = .nilIface) := Lib.hid (by
        obtain ⟨e, h1, h2⟩ := HH.out
        have hk2 : k = 2 := by omega
        subst hk2
        have hx : hexn a < 16 ∧ hexn b < 16 := ⟨h1 (by omega), h2 (by omega)⟩
        have h := HV.out
        rw [if_pos hx, if_pos hx] at h
        exact ⟨by rw [h.1, e]; rfl, h.2⟩)
      have hki : ¬ (k : Int) < 2 := by omega
      have HB := Lib.hid HBW.out
      clear HH
      go_wp2
      go_ret2
      exact ⟨by rw [HE.out.1, HE.out.2] <;> rfl, HB.out⟩

/-- .. the package's own: the error is some value that is not nil. -/
def PuOut (x y : Nat) (w : World) (e : Ending) (w' : World) : Prop := (if x < 16 ∧ y < 16 then e = .returned (.tuple #[.int .u64 ((16 * x + y : Nat) : Int), .nilIface]) else ∃ t v, e = .returned (.tuple #[.int .u64 0, .iface t v])) ∧ Below w.heap.size w w'
set_option maxHeartbeats 4000000 in
theorem pu_call (a b : UInt8) (w : World) (he : Par.Errs w) : Calls Tryz.prog 80 #[.string ⟨#[a, b]⟩, .int .i64 16, .int .i64 8] w (PuOut (hexn a) (hexn b) w) := by
  have HI := Lib.hid (pu_in a b w)
  unfold PuEnd at HI
  have HE := Lib.hid (fun W (hb : Below w.heap.size w W) => Par.errs_below he hb)
  unfold PuOut
  clear he
  by_cases hx : hexn a < 16 ∧ hexn b < 16
  · rw [if_pos hx, if_pos hx] at HI
    simp only [if_pos hx]
    clear hx HE
    generalize ((16 * hexn a + hexn b : Nat) : Int) = n at HI ⊢
    go_enter Tryz.func80, Tryz.ntmps80
    go_wp2_with (fail)
    go_at_call 98
    refine HI.out.mono ?_
    rintro e w1 ⟨rfl, hb1⟩
    have HB := Lib.hid hb1
    clear hb1
    go_wp2
    go_ret2
    exact ⟨rfl, HB.out⟩
  · rw [if_neg hx, if_neg hx] at HI
    simp only [if_neg hx]
    clear hx
    go_enter Tryz.func80, Tryz.ntmps80
    go_wp2_with (fail)
    go_at_call 98
    refine HI.out.mono ?_
    rintro e w1 ⟨rfl, hb1⟩
    have HB := Lib.hid hb1
    have HEW := Lib.hid (HE.out w1 hb1)
    obtain ⟨⟨tp, pv, hvar⟩, _⟩ := HEW.out
    have HTE := Lib.hid (Tryz.strconv_toError_syntax ⟨#[80, 97, 114, 115, 101, 85, 105, 110, 116]⟩ ⟨#[a, b]⟩ 16 8 (.iface tp pv) w1 (by show 2 ≤ _; decide) (by have h0 := World.var?_cell Tryz.laysC245.m15 hvar 0; simpa [Tryz.laysC245_ren] using h0) (Or.inr ⟨tp, pv, rfl⟩))
    clear hb1 hvar HEW
    go_wp2_with (fail)
    go_at_call 99
    refine HTE.out.mono ?_
    rintro e w2 ⟨N, rfl, _, _, hb2⟩
    have HB2 := Lib.hid (Base.then_below HB.out hb2)
    clear hb2
    go_wp2
    go_ret2
    exact ⟨⟨_, _, rfl⟩, HB2.out⟩
end Go.Proofs.YtegaakgmfphcaaaGreatDoor.Nt

/-
  CONTRACT of the program's isUpper; the world stays as it was.
-/
namespace Go.Proofs.YtegaakgmfphcaaaGreatDoor.Tx
open Go Go.RowKit
set_option linter.unusedVariables false
set_option maxRecDepth 1000000

theorem ret_bool {a b : Bool} (h : a = b) : Ending.returned (.bool a) = .returned (.bool b) := by rw [h]
theorem up_yes (x : Int) (w : World) (h1 : 65 ≤ x) (h2 : x ≤ 90) : Calls Tryz.prog 53 #[.int .u8 x] w fun e w' => e = .returned (.bool true) ∧ w = w' := by
  go_enter Tryz.func53, Tryz.ntmps53
  go_wp2
  go_ret
  exact ⟨rfl, rfl⟩
theorem up_no (x : Int) (w : World) (h : x < 65 ∨ 90 < x) : Calls Tryz.prog 53 #[.int .u8 x] w fun e w' => e = .returned (.bool false) ∧ w = w' := by
  by_cases h1 : 65 ≤ x
  · have h2 : ¬ x ≤ 90 := by omega
    clear h
    go_enter Tryz.func53, Tryz.ntmps53
    go_wp2
    go_ret
    exact ⟨rfl, rfl⟩
  · clear h
    go_enter Tryz.func53, Tryz.ntmps53
    go_wp2
    go_ret
    exact ⟨rfl, rfl⟩

end Go.Proofs.YtegaakgmfphcaaaGreatDoor.Tx
