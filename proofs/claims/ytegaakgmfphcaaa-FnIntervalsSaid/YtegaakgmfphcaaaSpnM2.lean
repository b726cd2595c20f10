/-
  PLAIN FACTS on lists of spans, step by step: whether they are a set, what is missing of one, what they cover, their size.
-/
import Derived.Test.YtegaakgmfphcaaaSpnM
import Derived.RowKit
namespace Go.Proofs.Ytegaakgmfphcaaa.Spn
open Go Go.RowKit
set_option linter.unusedVariables false
set_option maxRecDepth 1000000

def nos : S := (0, 0)
theorem getD_at {l : List S} {k : Nat} (h : k < l.length) : l.getD k nos = l[k] := by simp [List.getD, h]
theorem chain_prefix {lo : Int} {a b : List S} (h : chain lo (a ++ b) = true) : chain lo a = true := by
  induction a generalizing lo with
  | nil => rfl
  | cons s r ih => rw [List.cons_append, chain_cons] at h; rw [chain_cons]; exact ⟨h.1, h.2.1, ih h.2.2⟩
theorem set_take {l : List S} (h : isSet l = true) (k : Nat) : isSet (l.take k) = true := by
  unfold isSet at *
  rw [← List.take_append_drop k l] at h; exact chain_prefix h
theorem set_zero (l : List S) : isSet (l.take 0) = true := rfl
theorem set_step {l : List S} {k : Nat} (h : k < l.length) (hp : isSet (l.take k) = true) (hc : can (l.getD k nos) = true) (hg : k = 0 ∨ (l.getD (k - 1) nos).2 < (l.getD k nos).1) : isSet (l.take (k + 1)) = true := by
  rw [getD_at h] at hc hg
  have h3 := can_iff.1 hc
  rw [List.take_succ_eq_append_getElem h]
  unfold isSet at *
  rw [chain_snoc]
  refine ⟨hp, hc, by omega, fun s hs => ?_⟩
  rcases hg with rfl | hg
  · simp at hs
  · rcases Nat.eq_zero_or_pos k with rfl | hk
    · simp at hs
    · rw [getD_at (by omega)] at hg
      obtain ⟨m, rfl⟩ : ∃ m, k = m + 1 := ⟨k - 1, by omega⟩
      rw [List.take_succ_eq_append_getElem (by omega), chain_snoc] at hp
      rw [List.take_succ_eq_append_getElem (by omega)] at hs
      simp only [Nat.add_sub_cancel] at hg
      rcases List.mem_append.1 hs with hs | hs
      · have := hp.2.2.2 s hs; have := can_iff.1 hp.2.1; omega
      · simp at hs; subst hs; exact hg
theorem set_bad {l : List S} {k : Nat} (h : k < l.length) (hb : can (l.getD k nos) = false ∨ (0 < k ∧ (l.getD k nos).1 ≤ (l.getD (k - 1) nos).2)) : isSet l = false := by
  rw [Bool.eq_false_iff]
  intro hs
  have h1 := set_take hs (k + 1)
  rw [getD_at h] at hb
  rw [List.take_succ_eq_append_getElem h] at h1
  unfold isSet at h1
  rw [chain_snoc] at h1
  rcases hb with hb | ⟨h0, hb⟩
  · rw [h1.2.1] at hb; cases hb
  · rw [getD_at (by omega)] at hb
    have hm : l[k - 1] ∈ l.take k := by
      rw [List.mem_take_iff_getElem]; exact ⟨k - 1, by omega, rfl⟩
    have := h1.2.2.2 _ hm; omega
theorem set_all {l : List S} {k : Nat} (h : ¬ k < l.length) (hp : isSet (l.take k) = true) : isSet l = true := by
  rw [List.take_of_length_le (by omega)] at hp; exact hp
theorem can_bad {x : S} (h : x.1 < 0 ∨ x.2 ≤ x.1 ∨ 1000000000000 < x.2) : can x = false := by unfold can; simp; omega

/-! What is missing. -/
def addm (m : List S) (x : S) : List S := if x.1 < x.2 then m ++ [x] else m
def mst (to : Int) (p : List S × Int) (s : S) : List S × Int := (addm p.1 (p.2, min s.1 to), max p.2 s.2)
def missf (l : List S) (x : S) : List S × Int := l.foldl (mst x.2) ([], x.1)
def keepset (l : List S) : List S := if isSet l then l else []
def miss (l : List S) (x : S) : List S := addm (missf (keepset l) x).1 ((missf (keepset l) x).2, x.2)
theorem missf_more {l : List S} {x : S} {k : Nat} (h : k < l.length) : missf (l.take (k + 1)) x = mst x.2 (missf (l.take k) x) (l.getD k nos) := by
  unfold missf; rw [List.take_succ_eq_append_getElem h, List.foldl_append, getD_at h]; rfl
theorem addm_yes {m : List S} {x : S} (h : x.1 < x.2) : addm m x = m ++ [x] := by unfold addm; rw [if_pos h]
theorem addm_no {m : List S} {x : S} (h : ¬ x.1 < x.2) : addm m x = m := by unfold addm; rw [if_neg h]
theorem addm_len (m : List S) (x : S) : (addm m x).length ≤ m.length + 1 := by unfold addm; split <;> simp
theorem missf_len (l : List S) (x : S) : (missf l x).1.length ≤ l.length := by
  have key : ∀ (l : List S) (p : List S × Int), (l.foldl (mst x.2) p).1.length ≤ p.1.length + l.length := by
    intro l
    induction l with
    | nil => intro p; simp
    | cons s r ih =>
      intro p
      have h1 := ih (mst x.2 p s)
      have h2 : (mst x.2 p s).1.length ≤ p.1.length + 1 := addm_len _ _
      show (r.foldl (mst x.2) (mst x.2 p s)).1.length ≤ _
      simp only [List.length_cons]; omega
  have := key l ([], x.1)
  simp only [List.length_nil, Nat.zero_add] at this
  exact this
theorem keepset_len (l : List S) : (keepset l).length ≤ l.length := by unfold keepset; split <;> simp
theorem miss_len (l : List S) (x : S) : (miss l x).length ≤ l.length + 1 := by
  unfold miss
  have h1 := missf_len (keepset l) x
  have h2 := keepset_len l
  have h3 := addm_len (missf (keepset l) x).1 ((missf (keepset l) x).2, x.2)
  omega
/-- Numbers within a word's range. -/
def inw (n : Int) : Prop := -9223372036854775808 ≤ n ∧ n ≤ 9223372036854775807
theorem missf_inw (l : List S) (x : S) (hx : inw x.1) (hl : ∀ s ∈ l, inw s.2) : inw (missf l x).2 := by
  have key : ∀ (l : List S) (p : List S × Int), inw p.2 → (∀ s ∈ l, inw s.2) → inw (l.foldl (mst x.2) p).2 := by
    intro l
    induction l with
    | nil => intro p hp _; exact hp
    | cons s r ih =>
      intro p hp hs
      have h1 : inw (mst x.2 p s).2 := by
        have := hs s (by simp); unfold inw mst at *; simp only; omega
      exact ih _ h1 (fun t ht => hs t (by simp [ht]))
  exact key l ([], x.1) hx hl

/-! What is covered. -/
def holdsx (x s : S) : Bool := decide (s.1 ≤ x.1 ∧ x.2 ≤ s.2)
def covers (l : List S) (x : S) : Bool := l.any (holdsx x) || decide (x.2 ≤ x.1)
theorem cov_hit {l : List S} {x : S} {k : Nat} (h : k < l.length) (hh : holdsx x (l.getD k nos) = true) : l.any (holdsx x) = true := by
  rw [List.any_eq_true]; exact ⟨_, by rw [getD_at h]; exact List.getElem_mem _, hh⟩
theorem cov_zero (l : List S) (x : S) : (l.take 0).any (holdsx x) = false := rfl
theorem cov_step {l : List S} {x : S} {k : Nat} (h : k < l.length) (hp : (l.take k).any (holdsx x) = false) (hh : holdsx x (l.getD k nos) = false) : (l.take (k + 1)).any (holdsx x) = false := by
  rw [List.take_succ_eq_append_getElem h, List.any_append, hp, ← getD_at h, List.any_cons, hh]; rfl
theorem cov_all {l : List S} {x : S} {k : Nat} (h : ¬ k < l.length) (hp : (l.take k).any (holdsx x) = false) : l.any (holdsx x) = false := by
  rw [List.take_of_length_le (by omega)] at hp; exact hp

/-! The size. -/
def ssum (l : List S) : Int := (l.map (fun s => s.2 - s.1)).sum
theorem ssum_more {l : List S} {k : Nat} (h : k < l.length) : ssum (l.take (k + 1)) = ssum (l.take k) + ((l.getD k nos).2 - (l.getD k nos).1) := by
  unfold ssum; rw [List.take_succ_eq_append_getElem h, List.map_append, List.sum_append, getD_at h]; simp
theorem ssum_zero (l : List S) : ssum (l.take 0) = 0 := rfl
theorem ssum_all {l : List S} {k : Nat} (h : ¬ k < l.length) : ssum (l.take k) = ssum l := by rw [List.take_of_length_le (by omega)]
end Go.Proofs.Ytegaakgmfphcaaa.Spn
