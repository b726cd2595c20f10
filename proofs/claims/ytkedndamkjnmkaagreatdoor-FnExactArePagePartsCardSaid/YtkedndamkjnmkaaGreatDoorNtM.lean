/-
  PLAIN FACTS on targets: the percent signs of a text in their one way.
-/
import Derived.Test.YtkedndamkjnmkaaGreatDoorTokList
import Derived.Test.YtkedndamkjnmkaaGreatDoorTxMath
import Derived.Test.YtkedndamkjnmkaaGreatDoorBys
namespace Go.Proofs.YtkedndamkjnmkaaGreatDoor.Nt
open Go Go.RowKit
set_option linter.unusedVariables false
set_option maxRecDepth 1000000

def hexn (c : UInt8) : Nat := if 48 ≤ c.toNat ∧ c.toNat ≤ 57 then c.toNat - 48 else if 97 ≤ c.toNat ∧ c.toNat ≤ 102 then c.toNat - 87 else if 65 ≤ c.toNat ∧ c.toNat ≤ 70 then c.toNat - 55 else 16
def hexi (c : UInt8) : Int := if hexn c < 16 then (hexn c : Int) else -1
theorem hexi_yes {c : UInt8} (h : hexn c < 16) : hexi c = (hexn c : Int) := if_pos h
theorem hexi_no {c : UInt8} (h : ¬ hexn c < 16) : hexi c = -1 := if_neg h
def plainb (b : UInt8) : Bool := Tx.letc b || (b == 45 || b == 46 || b == 95 || b == 126)
def dig (n : Nat) : UInt8 := UInt8.ofNat (if n < 10 then 48 + n else 55 + n)
def bt (x y : Nat) : UInt8 := UInt8.ofNat (16 * x + y)
theorem bt_nat {x y : Nat} (hx : x < 16) (hy : y < 16) : (bt x y).toNat = 16 * x + y := by
  unfold bt; rw [UInt8.toNat_ofNat']; omega
def code (x y : Nat) : List UInt8 := if plainb (bt x y) = true then [bt x y] else [37, dig x, dig y]
theorem code_yes {x y : Nat} (h : plainb (bt x y) = true) : code x y = [bt x y] := if_pos h
theorem code_no {x y : Nat} (h : plainb (bt x y) = false) : code x y = [37, dig x, dig y] := if_neg (by simp [h])
theorem code_len (x y : Nat) : (code x y).length ≤ 3 := by unfold code; split <;> simp

/-- The text with each percent sign in its one way; none if one is bad. -/
def norm : List UInt8 → Option (List UInt8)
  | [] => some []
  | c :: r =>
    if c = 37 then
      match r with
      | a :: b :: t => if hexn a < 16 ∧ hexn b < 16 then (norm t).map (code (hexn a) (hexn b) ++ ·) else none
      | _ => none
    else (norm r).map (c :: ·)
theorem norm_nil : norm [] = some [] := by rw [norm]
theorem norm_plain {c : UInt8} (r : List UInt8) (h : c ≠ 37) : norm (c :: r) = (norm r).map ([c] ++ ·) := by rw [norm.eq_def]; simp only [if_neg h]; rfl
theorem norm_code {a b : UInt8} (t : List UInt8) (h1 : hexn a < 16) (h2 : hexn b < 16) : norm (37 :: a :: b :: t) = (norm t).map (code (hexn a) (hexn b) ++ ·) := by
  rw [norm.eq_def]; simp only [if_true]; rw [if_pos ⟨h1, h2⟩]
theorem norm_short {r : List UInt8} (h : r.length < 2) : norm (37 :: r) = none := by
  rw [norm.eq_def]; simp only [if_true]
  match r, h with
  | [], _ => rfl
  | [_], _ => rfl
theorem norm_bad {a b : UInt8} (t : List UInt8) (h : ¬ (hexn a < 16 ∧ hexn b < 16)) : norm (37 :: a :: b :: t) = none := by
  rw [norm.eq_def]; simp only [if_true]; rw [if_neg h]
/-- .. as two results. -/
def normp (l : List UInt8) : List UInt8 × Bool := match norm l with | some t => (t, true) | none => ([], false)
theorem normp_some {l t : List UInt8} (h : norm l = some t) : normp l = (t, true) := by unfold normp; rw [h]
theorem normp_none {l : List UInt8} (h : norm l = none) : normp l = ([], false) := by unfold normp; rw [h]
theorem norm_len : ∀ (n : Nat) (l t : List UInt8), l.length ≤ n → norm l = some t → t.length ≤ l.length
  | 0, l, t, hn, h => by
    have : l = [] := List.eq_nil_of_length_eq_zero (by omega)
    subst this; rw [norm_nil] at h; cases h; simp
  | n + 1, [], t, hn, h => by rw [norm_nil] at h; cases h; simp
  | n + 1, c :: r, t, hn, h => by
    by_cases hc : c = 37
    · subst hc
      match r, hn, h with
      | [], hn, h => rw [norm_short (by simp)] at h; cases h
      | [_], hn, h => rw [norm_short (by simp)] at h; cases h
      | a :: b :: r', hn, h =>
        by_cases hx : hexn a < 16 ∧ hexn b < 16
        · rw [norm_code r' hx.1 hx.2] at h
          cases hr : norm r' with
          | none => rw [hr] at h; cases h
          | some q =>
            rw [hr] at h; cases h
            have := norm_len n r' q (by simp at hn; omega) hr
            have := code_len (hexn a) (hexn b)
            simp only [List.length_append, List.length_cons]; omega
        · rw [norm_bad r' hx] at h; cases h
    · rw [norm_plain r hc] at h
      cases hr : norm r with
      | none => rw [hr] at h; cases h
      | some q =>
        rw [hr] at h; cases h
        have := norm_len n r q (by simp at hn; omega) hr
        simp; omega
theorem normp_len (l : List UInt8) : (normp l).1.length ≤ l.length := by
  cases h : norm l with
  | none => rw [normp_none h]; simp
  | some t => rw [normp_some h]; exact norm_len _ l t (Nat.le_refl _) h

/-- What a walk over the bytes of s holds at place k: out is what the bytes before mean. -/
def NR (s : ByteArray) (k : Nat) (out : List UInt8) : Prop := norm s.data.toList = (norm (s.data.toList.drop k)).map (out ++ ·) ∧ out.length ≤ k
theorem nr_start (s : ByteArray) : NR s 0 [] := ⟨by rw [List.drop_zero]; cases norm s.data.toList <;> rfl, Nat.le_refl _⟩
theorem map_map (o : Option (List UInt8)) (a b : List UInt8) : (o.map (b ++ ·)).map (a ++ ·) = o.map ((a ++ b) ++ ·) := by cases o <;> simp
theorem nr_plain {s : ByteArray} {k : Nat} {out : List UInt8} (h : NR s k out) (hk : k < s.size) (hc : s[k] ≠ 37) : NR s (k + 1) (out ++ [s[k]]) := by
  refine ⟨?_, by have := h.2; simp; omega⟩
  rw [h.1, Tx.drop_cons s k hk, norm_plain _ hc, map_map]
theorem nr_code {s : ByteArray} {k : Nat} {out : List UInt8} (h : NR s k out) (hk : k + 2 < s.size) (hc : s[k] = 37) (h1 : hexn s[k + 1] < 16) (h2 : hexn s[k + 2] < 16) : NR s (k + 3) (out ++ code (hexn s[k + 1]) (hexn s[k + 2])) := by
  refine ⟨?_, by have := h.2; have := code_len (hexn s[k + 1]) (hexn s[k + 2]); simp; omega⟩
  rw [h.1, Tx.drop_cons s k (by omega), Tx.drop_cons s (k + 1) (by omega), Tx.drop_cons s (k + 2) hk, hc, norm_code _ h1 h2, map_map]
theorem nr_short {s : ByteArray} {k : Nat} {out : List UInt8} (h : NR s k out) (hk : k < s.size) (hc : s[k] = 37) (h2 : s.size ≤ k + 2) : norm s.data.toList = none := by
  rw [h.1, Tx.drop_cons s k hk, hc, norm_short (by rw [List.length_drop, Tx.list_len]; omega)]; rfl
theorem nr_bad {s : ByteArray} {k : Nat} {out : List UInt8} (h : NR s k out) (hk : k + 2 < s.size) (hc : s[k] = 37) (hx : ¬ (hexn s[k + 1] < 16 ∧ hexn s[k + 2] < 16)) : norm s.data.toList = none := by
  rw [h.1, Tx.drop_cons s k (by omega), Tx.drop_cons s (k + 1) (by omega), Tx.drop_cons s (k + 2) hk, hc, norm_bad _ hx]; rfl
theorem nr_end {s : ByteArray} {k : Nat} {out : List UInt8} (h : NR s k out) (hk : ¬ k < s.size) : norm s.data.toList = some out := by
  rw [h.1, List.drop_of_length_le (by rw [Tx.list_len]; omega), norm_nil]; simp

/-! the sixteen digits -/
def hexs : ByteArray := ⟨#[48, 49, 50, 51, 52, 53, 54, 55, 56, 57, 65, 66, 67, 68, 69, 70]⟩
theorem hex_fin : ∀ r : Fin 16, (⟨#[48, 49, 50, 51, 52, 53, 54, 55, 56, 57, 65, 66, 67, 68, 69, 70]⟩ : ByteArray)[r.1]'(r.2) = dig r.1 := by decide
theorem hex_at (u : Nat) (h : u < (⟨#[48, 49, 50, 51, 52, 53, 54, 55, 56, 57, 65, 66, 67, 68, 69, 70]⟩ : ByteArray).size) :
    (⟨#[48, 49, 50, 51, 52, 53, 54, 55, 56, 57, 65, 66, 67, 68, 69, 70]⟩ : ByteArray)[u]'h = dig u := hex_fin ⟨u, h⟩
def PairEnd (p : List UInt8 × Bool) (w : World) (e : Ending) (w' : World) : Prop := e = .returned (.tuple #[.string ⟨p.1.toArray⟩, .bool p.2]) ∧ Below w.heap.size w w'
theorem ret_p {p q : List UInt8 × Bool} (h : p = q) : Ending.returned (.tuple #[.string ⟨p.1.toArray⟩, .bool p.2]) = .returned (.tuple #[.string ⟨q.1.toArray⟩, .bool q.2]) := by rw [h]
end Go.Proofs.YtkedndamkjnmkaaGreatDoor.Nt
