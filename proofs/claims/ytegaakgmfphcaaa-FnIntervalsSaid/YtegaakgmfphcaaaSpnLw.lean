/-
  PLAIN FACTS for the law of chapter 9: the bytes of what AddSpan, MissingSpans and UniteSpans make, and its size.
-/
import Derived.Test.YtegaakgmfphcaaaSpnM2
namespace Go.Proofs.Ytegaakgmfphcaaa.Spn
open Go
set_option linter.unusedVariables false
set_option maxRecDepth 1000000

theorem has_addm (m : List S) (x : S) (n : Int) : has (addm m x) n ↔ has m n ∨ (x.1 ≤ n ∧ n < x.2) := by
  unfold addm
  split
  · rw [has_append, has_cons]
    constructor
    · rintro (h | h | h)
      · exact Or.inl h
      · exact Or.inr h
      · exact absurd h has_nil
    · rintro (h | h)
      · exact Or.inl h
      · exact Or.inr (Or.inl h)
  · constructor
    · exact Or.inl
    · rintro (h | h)
      · exact h
      · omega
theorem missf_has (to : Int) : ∀ (l : List S) (lo : Int) (m : List S) (a : Int) (n : Int), chain lo l = true →
    (has (addm (l.foldl (mst to) (m, a)).1 ((l.foldl (mst to) (m, a)).2, to)) n ↔ has m n ∨ (a ≤ n ∧ n < to ∧ ¬ has l n))
  | [], lo, m, a, n, _ => by
    rw [List.foldl_nil, has_addm]
    have := @has_nil n
    constructor
    · rintro (h | h)
      · exact Or.inl h
      · exact Or.inr ⟨h.1, h.2, this⟩
    · rintro (h | h)
      · exact Or.inl h
      · exact Or.inr ⟨h.1, h.2.1⟩
  | s :: r, lo, m, a, n, hc => by
    obtain ⟨h1, h2, h3⟩ := chain_cons.1 hc
    obtain ⟨c1, c2, c3⟩ := can_iff.1 h2
    rw [List.foldl_cons, show mst to (m, a) s = (addm m (a, min s.1 to), max a s.2) from rfl, missf_has to r s.2 _ _ n h3, has_addm, has_cons]
    have hr : has r n → s.2 < n := has_low h3
    dsimp only
    constructor
    · rintro ((h | h) | h)
      · exact Or.inl h
      · refine Or.inr ⟨h.1, by omega, ?_⟩
        rintro (h4 | h4)
        · omega
        · have := hr h4; omega
      · refine Or.inr ⟨by omega, h.2.1, ?_⟩
        rintro (h4 | h4)
        · omega
        · exact h.2.2 h4
    · rintro (h | ⟨h4, h5, h6⟩)
      · exact Or.inl (Or.inl h)
      · rcases Int.lt_or_le n s.1 with h7 | h7
        · exact Or.inl (Or.inr ⟨h4, by omega⟩)
        · rcases Int.lt_or_le n s.2 with h8 | h8
          · exact absurd (Or.inl ⟨h7, h8⟩) h6
          · exact Or.inr ⟨by omega, h5, fun h9 => h6 (Or.inr h9)⟩
theorem miss_has {u : List S} (h : isSet u = true) (v : S) (n : Int) : has (miss u v) n ↔ v.1 ≤ n ∧ n < v.2 ∧ ¬ has u n := by
  unfold miss missf keepset
  rw [if_pos h, missf_has v.2 u (-1) [] v.1 n h]
  constructor
  · rintro (h1 | h1)
    · exact absurd h1 has_nil
    · exact h1
  · exact Or.inr
theorem covers_one (l : List S) (n : Int) : covers l (n, n + 1) = true ↔ has l n := by
  unfold covers has holdsx
  rw [Bool.or_eq_true, List.any_eq_true]
  constructor
  · rintro (⟨s, hs, h⟩ | h)
    · exact ⟨s, hs, by simp at h; omega⟩
    · simp at h; omega
  · rintro ⟨s, hs, h⟩
    exact Or.inl ⟨s, hs, by simp; omega⟩
theorem bool_iff {a b : Bool} (h : a = true ↔ b = true) : a = b := by cases a <;> cases b <;> simp_all
/-- Bytes of what AddSpan makes. -/
theorem cov_add {l : List S} {x : S} (h : isSet l = true) (hx : 0 ≤ x.1) (n : Int) : covers (add l x) (n, n + 1) = (covers l (n, n + 1) || decide (x.1 ≤ n ∧ n < x.2 ∧ x.2 ≤ 1000000000000)) := by
  refine bool_iff ?_
  rw [Bool.or_eq_true, covers_one, covers_one]
  by_cases hc : can x = true
  · rw [(add_ok h hc).2 n]
    have := can_iff.1 hc
    constructor
    · rintro (h1 | h1)
      · exact Or.inl h1
      · exact Or.inr (by simp; omega)
    · rintro (h1 | h1)
      · exact Or.inl h1
      · exact Or.inr (by simp at h1; omega)
  · rw [add_no (by simp [hc])]
    have h2 : ¬ (0 ≤ x.1 ∧ x.1 < x.2 ∧ x.2 ≤ 1000000000000) := fun h3 => hc (can_iff.2 h3)
    constructor
    · exact Or.inl
    · rintro (h1 | h1)
      · exact h1
      · simp at h1; omega
theorem cov_miss {u : List S} (h : isSet u = true) (v : S) (n : Int) : covers (miss u v) (n, n + 1) = (decide (v.1 ≤ n ∧ n < v.2) && !covers u (n, n + 1)) := by
  refine bool_iff ?_
  rw [covers_one, miss_has h, Bool.and_eq_true, Bool.not_eq_true']
  have h1 := covers_one u n
  constructor
  · rintro ⟨h2, h3, h4⟩
    refine ⟨by simp; omega, ?_⟩
    cases hb : covers u (n, n + 1) with
    | false => rfl
    | true => exact absurd (h1.1 hb) h4
  · rintro ⟨h2, h3⟩
    refine ⟨by simp at h2; omega, by simp at h2; omega, fun h4 => ?_⟩
    rw [h1.2 h4] at h3; cases h3
theorem add_set {l : List S} (x : S) (h : isSet l = true) : isSet (add l x) = true := by
  by_cases hc : can x = true
  · exact (add_ok h hc).1
  · rw [add_no (by simp [hc])]; exact h
/-- Two spans of a set do not touch. -/
theorem chain_apart : ∀ {l : List S} {lo : Int}, chain lo l = true → ∀ s ∈ l, ∀ t ∈ l, s = t ∨ s.2 < t.1 ∨ t.2 < s.1
  | [], _, _, s, hs, _, _ => by cases hs
  | a :: r, lo, h, s, hs, t, ht => by
    obtain ⟨h1, h2, h3⟩ := chain_cons.1 h
    rcases List.mem_cons.1 hs with e | hs
    · rcases List.mem_cons.1 ht with e2 | ht
      · exact Or.inl (e.trans e2.symm)
      · exact Or.inr (Or.inl (by rw [e]; exact (chain_mem h3 t ht).1))
    · rcases List.mem_cons.1 ht with e2 | ht
      · exact Or.inr (Or.inr (by rw [e2]; exact (chain_mem h3 s hs).1))
      · exact chain_apart h3 s hs t ht
theorem cov_set {z : List S} (h : isSet z = true) {s : S} (hall : ∀ n, s.1 ≤ n → n < s.2 → has z n) : covers z s = true := by
  unfold covers
  by_cases he : s.2 ≤ s.1
  · simp [he]
  · obtain ⟨t, ht, h1, h2⟩ := hall s.1 (Int.le_refl _) (by omega)
    have h3 : s.2 ≤ t.2 := by
      rcases Int.lt_or_le t.2 s.2 with h4 | h4
      · obtain ⟨t', ht', h5, h6⟩ := hall t.2 (by omega) h4
        rcases chain_apart h t ht t' ht' with e | e | e
        · subst e; omega
        · omega
        · omega
      · exact h4
    rw [Bool.or_eq_true, List.any_eq_true]
    exact Or.inl ⟨t, ht, by unfold holdsx; simp; omega⟩
theorem cov_unite {w : List S} {s : S} (hs : s ∈ w) (h0 : 0 ≤ s.1) (h1 : s.2 ≤ 1000000000000) : covers (unite w) s = true := by
  obtain ⟨u1, u2⟩ := unite_ok w
  refine cov_set u1 (fun n h2 h3 => (u2 n).2 ⟨s, List.mem_filter.2 ⟨hs, can_iff.2 ⟨h0, by omega, h1⟩⟩, h2, h3⟩)

/-! sizes -/
open Classical in
noncomputable def cnt (l : List S) (M : Nat) : Nat := (List.range M).countP (fun n : Nat => decide (has l (n : Int)))
theorem cnt_mono {l m : List S} (M : Nat) (h : ∀ n, has l n → has m n) : cnt l M ≤ cnt m M := by
  unfold cnt
  refine List.countP_mono_left (fun x _ hx => ?_)
  simp at hx ⊢; exact h _ hx
theorem range_cnt (a b : Nat) : ∀ M : Nat, b ≤ M → (List.range M).countP (fun n => decide (a ≤ n ∧ n < b)) = b - a
  | 0, h => by simp; omega
  | M + 1, h => by
    rw [List.range_succ, List.countP_append]
    by_cases hb : b ≤ M
    · rw [range_cnt a b M hb]
      have : ([M].countP (fun n => decide (a ≤ n ∧ n < b))) = 0 := by simp; omega
      omega
    · have e : b = M + 1 := by omega
      subst e
      have h2 := range_cnt a M M (Nat.le_refl _)
      have h3 : (List.range M).countP (fun n => decide (a ≤ n ∧ n < M + 1)) = (List.range M).countP (fun n => decide (a ≤ n ∧ n < M)) := by
        refine List.countP_congr (fun x hx => ?_)
        have := List.mem_range.1 hx
        simp; omega
      rw [h3, h2]
      by_cases ha : a ≤ M
      · have : ([M].countP (fun n => decide (a ≤ n ∧ n < M + 1))) = 1 := by simp; omega
        omega
      · have : ([M].countP (fun n => decide (a ≤ n ∧ n < M + 1))) = 0 := by simp; omega
        omega
theorem countP_or {α : Type} (p q r : α → Bool) (hd : ∀ x, p x = true → q x = true → False) (hr : ∀ x, r x = (p x || q x)) : ∀ l : List α, l.countP r = l.countP p + l.countP q
  | [] => rfl
  | a :: l => by
    rw [List.countP_cons, List.countP_cons, List.countP_cons, countP_or p q r hd hr l, hr a]
    have := hd a
    cases hp : p a <;> cases hq : q a <;> simp_all <;> omega
theorem countP_le {α : Type} (p q r : α → Bool) (hr : ∀ x, r x = (p x || q x)) : ∀ l : List α, l.countP r ≤ l.countP p + l.countP q
  | [] => by simp
  | a :: l => by
    rw [List.countP_cons, List.countP_cons, List.countP_cons, hr a]
    have := countP_le p q r hr l
    cases hp : p a <;> cases hq : q a <;> simp <;> omega
theorem cnt_chain : ∀ {l : List S} {lo : Int} (M : Nat), chain lo l = true → -1 ≤ lo → (∀ s ∈ l, s.2 ≤ (M : Int)) → ssum l = (cnt l M : Int)
  | [], lo, M, _, _, _ => by unfold cnt ssum; simp [has_nil]
  | s :: r, lo, M, h, hlo, hM => by
    obtain ⟨h1, h2, h3⟩ := chain_cons.1 h
    obtain ⟨c1, c2, c3⟩ := can_iff.1 h2
    have hs := hM s (List.mem_cons_self ..)
    have ih := cnt_chain M h3 (by omega) (fun t ht => hM t (List.mem_cons_of_mem _ ht))
    have e : cnt (s :: r) M = (List.range M).countP (fun n => decide (s.1.toNat ≤ n ∧ n < s.2.toNat)) + cnt r M := by
      unfold cnt
      refine countP_or _ _ _ (fun x hx hy => ?_) (fun x => ?_) _
      · simp at hx hy
        have := has_low h3 hy
        omega
      · refine bool_iff ?_
        rw [Bool.or_eq_true]; simp only [decide_eq_true_eq]
        rw [has_cons]
        constructor
        · rintro (h4 | h4)
          · exact Or.inl (by omega)
          · exact Or.inr h4
        · rintro (h4 | h4)
          · exact Or.inl (by omega)
          · exact Or.inr h4
    rw [range_cnt _ _ M (by omega)] at e
    have e2 : ssum (s :: r) = (s.2 - s.1) + ssum r := by unfold ssum; simp
    rw [e2, e, ih]; omega
theorem cnt_all (M : Nat) : ∀ (l : List S), (∀ s ∈ l, 0 ≤ s.1 ∧ s.1 ≤ s.2 ∧ s.2 ≤ (M : Int)) → (cnt l M : Int) ≤ ssum l
  | [], _ => by unfold cnt ssum; simp [has_nil]
  | s :: r, h => by
    have hs := h s (List.mem_cons_self ..)
    have ih := cnt_all M r (fun t ht => h t (List.mem_cons_of_mem _ ht))
    have e : cnt (s :: r) M ≤ (List.range M).countP (fun n => decide (s.1.toNat ≤ n ∧ n < s.2.toNat)) + cnt r M := by
      unfold cnt
      refine countP_le _ _ _ (fun x => ?_) _
      refine bool_iff ?_
      rw [Bool.or_eq_true]; simp only [decide_eq_true_eq]
      rw [has_cons]
      constructor
      · rintro (h4 | h4)
        · exact Or.inl (by omega)
        · exact Or.inr h4
      · rintro (h4 | h4)
        · exact Or.inl (by omega)
        · exact Or.inr h4
    rw [range_cnt _ _ M (by omega)] at e
    have e2 : ssum (s :: r) = (s.2 - s.1) + ssum r := by unfold ssum; simp
    rw [e2]; omega
theorem unite_bound {w : List S} {M : Nat} (h : ∀ s ∈ w, s.2 ≤ (M : Int)) : ∀ s ∈ unite w, s.2 ≤ (M : Int) := by
  obtain ⟨u1, u2⟩ := unite_ok w
  intro s hs
  have hc := can_iff.1 (chain_mem u1 s hs).2
  obtain ⟨t, ht, h1, h2⟩ := (u2 (s.2 - 1)).1 ⟨s, hs, by omega, by omega⟩
  have := h t (List.mem_filter.1 ht).1
  omega
theorem unite_small {w : List S} {M : Nat} (h : ∀ s ∈ w, 0 ≤ s.1 ∧ s.1 ≤ s.2 ∧ s.2 ≤ (M : Int)) : 0 ≤ ssum (unite w) ∧ ssum (unite w) ≤ ssum w := by
  obtain ⟨u1, u2⟩ := unite_ok w
  have h1 := cnt_chain M u1 (by omega) (unite_bound (fun s hs => (h s hs).2.2))
  have h2 := cnt_all M w h
  have h3 : cnt (unite w) M ≤ cnt w M := cnt_mono M (fun n hn => by
    obtain ⟨t, ht, h4⟩ := (u2 n).1 hn
    exact ⟨t, (List.mem_filter.1 ht).1, h4⟩)
  omega
theorem ssum_le {w : List S} {m : Int} (h : ∀ s ∈ w, s.2 - s.1 ≤ m) : ssum w ≤ m * w.length := by
  induction w with
  | nil => simp [ssum]
  | cons a r ih =>
    have := ih (fun s hs => h s (List.mem_cons_of_mem _ hs))
    have h2 := h a (List.mem_cons_self ..)
    have e2 : ssum (a :: r) = (a.2 - a.1) + ssum r := by unfold ssum; simp
    rw [e2, List.length_cons]
    have h3 : m * ((r.length + 1 : Nat) : Int) = m * (r.length : Int) + m := by rw [Int.natCast_add, Int.mul_add]; simp
    omega
end Go.Proofs.Ytegaakgmfphcaaa.Spn
