/-
  PLAIN FACTS on sets of spans: such a set is told by the bytes that it has; what is added, united, missing.
-/
import Derived.Test.YtegaakgmfphcaaaBase
namespace Go.Proofs.Ytegaakgmfphcaaa.Spn
set_option linter.unusedVariables false
set_option maxRecDepth 1000000

abbrev S : Type := Int × Int
def can (x : S) : Bool := decide (0 ≤ x.1 ∧ x.1 < x.2 ∧ x.2 ≤ 1000000000000)
theorem can_iff {x : S} : can x = true ↔ 0 ≤ x.1 ∧ x.1 < x.2 ∧ x.2 ≤ 1000000000000 := by unfold can; simp
/-- Spans in order, each of which begins behind lo, with gaps. -/
def chain : Int → List S → Bool
  | _, [] => true
  | lo, s :: r => decide (lo < s.1) && can s && chain s.2 r
def isSet (l : List S) : Bool := chain (-1) l
def has (l : List S) (n : Int) : Prop := ∃ s ∈ l, s.1 ≤ n ∧ n < s.2
theorem chain_cons {lo : Int} {s : S} {r : List S} : chain lo (s :: r) = true ↔ lo < s.1 ∧ can s = true ∧ chain s.2 r = true := by
  show (decide (lo < s.1) && can s && chain s.2 r) = true ↔ _
  rw [Bool.and_eq_true, Bool.and_eq_true, decide_eq_true_eq, and_assoc]
theorem chain_low {lo lo' : Int} {l : List S} (h : chain lo l = true) (hl : lo' ≤ lo) : chain lo' l = true := by
  cases l with
  | nil => rfl
  | cons s r => rw [chain_cons] at *; exact ⟨by omega, h.2⟩
theorem chain_mem {lo : Int} {l : List S} (h : chain lo l = true) : ∀ s ∈ l, lo < s.1 ∧ can s = true := by
  induction l generalizing lo with
  | nil => intro s hs; cases hs
  | cons a r ih =>
    rw [chain_cons] at h
    have ha := can_iff.1 h.2.1
    intro s hs
    rcases List.mem_cons.1 hs with rfl | hs
    · exact ⟨h.1, h.2.1⟩
    · have := ih h.2.2 s hs; exact ⟨by omega, this.2⟩
theorem has_cons {s : S} {r : List S} {n : Int} : has (s :: r) n ↔ (s.1 ≤ n ∧ n < s.2) ∨ has r n := by unfold has; simp
theorem has_nil {n : Int} : ¬ has [] n := by unfold has; simp
theorem has_append {l r : List S} {n : Int} : has (l ++ r) n ↔ has l n ∨ has r n := by
  unfold has; constructor
  · rintro ⟨s, hs, h⟩; rcases List.mem_append.1 hs with h1 | h1
    · exact Or.inl ⟨s, h1, h⟩
    · exact Or.inr ⟨s, h1, h⟩
  · rintro (⟨s, hs, h⟩ | ⟨s, hs, h⟩)
    · exact ⟨s, by simp [hs], h⟩
    · exact ⟨s, by simp [hs], h⟩
theorem has_low {lo : Int} {l : List S} (h : chain lo l = true) {n : Int} (hn : has l n) : lo < n := by
  obtain ⟨s, hs, h1, h2⟩ := hn
  have := (chain_mem h s hs).1; omega
/-- A set of spans is told by its bytes. -/
theorem uniq : ∀ {l m : List S} {lo lo' : Int}, chain lo l = true → chain lo' m = true → (∀ n, has l n ↔ has m n) → l = m
  | [], [], _, _, _, _, _ => rfl
  | [], t :: q, _, _, _, hm, h => by
    rw [chain_cons] at hm
    have ht := can_iff.1 hm.2.1
    exact absurd ((h t.1).2 (has_cons.2 (Or.inl ⟨Int.le_refl _, by omega⟩))) has_nil
  | s :: r, [], _, _, hl, _, h => by
    rw [chain_cons] at hl
    have hs := can_iff.1 hl.2.1
    exact absurd ((h s.1).1 (has_cons.2 (Or.inl ⟨Int.le_refl _, by omega⟩))) has_nil
  | s :: r, t :: q, lo, lo', hl, hm, h => by
    rw [chain_cons] at hl hm
    have hs := can_iff.1 hl.2.1
    have ht := can_iff.1 hm.2.1
    have e1 : s.1 = t.1 := by
      have h1 := has_cons.1 ((h s.1).1 (has_cons.2 (Or.inl ⟨Int.le_refl _, by omega⟩)))
      have h2 := has_cons.1 ((h t.1).2 (has_cons.2 (Or.inl ⟨Int.le_refl _, by omega⟩)))
      rcases h1 with h1 | h1
      · rcases h2 with h2 | h2
        · omega
        · have := has_low hl.2.2 h2; omega
      · have := has_low hm.2.2 h1
        rcases h2 with h2 | h2
        · omega
        · have := has_low hl.2.2 h2; omega
    have e2 : s.2 = t.2 := by
      rcases Int.lt_trichotomy s.2 t.2 with hlt | he | hgt
      · have h1 := has_cons.1 ((h s.2).2 (has_cons.2 (Or.inl ⟨by omega, hlt⟩)))
        rcases h1 with h1 | h1
        · omega
        · have := has_low hl.2.2 h1; omega
      · exact he
      · have h1 := has_cons.1 ((h t.2).1 (has_cons.2 (Or.inl ⟨by omega, hgt⟩)))
        rcases h1 with h1 | h1
        · omega
        · have := has_low hm.2.2 h1; omega
    have est : s = t := Prod.ext e1 e2
    have hr : ∀ n, has r n ↔ has q n := by
      intro n
      constructor
      · intro hn
        have hlow := has_low hl.2.2 hn
        rcases has_cons.1 ((h n).1 (has_cons.2 (Or.inr hn))) with h1 | h1
        · omega
        · exact h1
      · intro hn
        have hlow := has_low hm.2.2 hn
        rcases has_cons.1 ((h n).2 (has_cons.2 (Or.inr hn))) with h1 | h1
        · omega
        · exact h1
    rw [est, uniq hl.2.2 hm.2.2 hr]

/-! Adding, as the model does it. -/
def mstep (x s : S) : S := if x.1 ≤ s.2 ∧ s.1 ≤ x.2 then (min x.1 s.1, max x.2 s.2) else x
def merged (l : List S) (x : S) : S := l.foldl mstep x
def res (l : List S) (x : S) : List S := l.filter (fun s => decide (s.2 < x.1)) ++ [merged l x] ++ l.filter (fun s => decide ((merged l x).2 < s.1))
theorem merged_cons (s : S) (r : List S) (x : S) : merged (s :: r) x = merged r (mstep x s) := rfl
theorem merged_grow (l : List S) (x : S) : (merged l x).1 ≤ x.1 ∧ x.2 ≤ (merged l x).2 := by
  induction l generalizing x with
  | nil => exact ⟨Int.le_refl _, Int.le_refl _⟩
  | cons s r ih =>
    rw [merged_cons]
    have h := ih (mstep x s)
    have h2 : (mstep x s).1 ≤ x.1 ∧ x.2 ≤ (mstep x s).2 := by
      unfold mstep; split
      · exact ⟨by simp only; omega, by simp only; omega⟩
      · exact ⟨Int.le_refl _, Int.le_refl _⟩
    exact ⟨by omega, by omega⟩
theorem mstep_can {x s : S} (hx : can x = true) (hs : can s = true) : can (mstep x s) = true := by
  have h1 := can_iff.1 hx
  have h2 := can_iff.1 hs
  unfold mstep; split
  · rw [can_iff]; simp only; omega
  · exact hx
theorem filter_none {l : List S} {p : S → Bool} (h : ∀ s ∈ l, p s = false) : l.filter p = [] := by
  rw [List.filter_eq_nil_iff]; intro s hs; rw [h s hs]; decide
theorem filter_every {l : List S} {p : S → Bool} (h : ∀ s ∈ l, p s = true) : l.filter p = l := List.filter_eq_self.2 h
theorem merged_far {lo : Int} {l : List S} {x : S} (h : chain lo l = true) (hx : x.2 ≤ lo) : merged l x = x := by
  induction l generalizing lo with
  | nil => rfl
  | cons s r ih =>
    rw [chain_cons] at h
    have hs := can_iff.1 h.2.1
    rw [merged_cons, show mstep x s = x by unfold mstep; rw [if_neg (by omega)]]
    exact ih h.2.2 (by omega)
/-- Adding keeps the set, and its bytes are those of both. -/
theorem res_ok : ∀ {l : List S} {lo : Int} {x : S}, chain lo l = true → lo < x.1 → can x = true → chain lo (res l x) = true ∧ ∀ n, has (res l x) n ↔ has l n ∨ (x.1 ≤ n ∧ n < x.2)
  | [], lo, x, _, hlo, hx => by
    have e : res [] x = [x] := rfl
    rw [e]
    refine ⟨by rw [chain_cons]; exact ⟨hlo, hx, rfl⟩, fun n => ?_⟩
    rw [has_cons]; simp [has_nil]
  | s :: r, lo, x, h, hlo, hx => by
    have h' := chain_cons.1 h
    have hs := can_iff.1 h'.2.1
    have hxx := can_iff.1 hx
    by_cases c1 : s.2 < x.1
    · have em : mstep x s = x := by unfold mstep; rw [if_neg (by omega)]
      have hg := merged_grow r x
      have e : res (s :: r) x = s :: res r x := by
        unfold res
        rw [merged_cons, em, List.filter_cons_of_pos (by simpa using c1), List.filter_cons_of_neg (by simp; omega)]
        rfl
      have ih := res_ok (x := x) h'.2.2 c1 hx
      rw [e]
      refine ⟨by rw [chain_cons]; exact ⟨h'.1, h'.2.1, ih.1⟩, fun n => ?_⟩
      rw [has_cons, ih.2 n, has_cons, or_assoc]
    · by_cases c2 : s.1 ≤ x.2
      · have em : mstep x s = (min x.1 s.1, max x.2 s.2) := by unfold mstep; rw [if_pos ⟨by omega, c2⟩]
        have hcan := mstep_can hx h'.2.1
        have hg := merged_grow r (mstep x s)
        rw [em] at hcan hg
        simp only at hg
        have f1 : r.filter (fun s => decide (s.2 < x.1)) = [] := filter_none (fun t ht => by
          have := chain_mem h'.2.2 t ht; have := can_iff.1 this.2; simp; omega)
        have f2 : r.filter (fun t => decide (t.2 < (min x.1 s.1, max x.2 s.2).1)) = [] := filter_none (fun t ht => by
          have := chain_mem h'.2.2 t ht; have := can_iff.1 this.2; simp; omega)
        have e : res (s :: r) x = res r (min x.1 s.1, max x.2 s.2) := by
          unfold res
          rw [merged_cons, em, List.filter_cons_of_neg (by simpa using c1), List.filter_cons_of_neg (by simp; omega), f1, f2]
        have ih := res_ok (x := (min x.1 s.1, max x.2 s.2)) (chain_low h'.2.2 (by omega : lo ≤ s.2)) (by simp only; omega) hcan
        rw [e]
        refine ⟨ih.1, fun n => ?_⟩
        rw [ih.2 n, has_cons]
        simp only
        constructor
        · rintro (h1 | h1)
          · exact Or.inl (Or.inr h1)
          · by_cases q : x.1 ≤ n ∧ n < x.2
            · exact Or.inr q
            · exact Or.inl (Or.inl (by omega))
        · rintro ((h1 | h1) | h1)
          · exact Or.inr (by omega)
          · exact Or.inl h1
          · exact Or.inr (by omega)
      · have em : mstep x s = x := by unfold mstep; rw [if_neg (by omega)]
        have em2 : merged r x = x := merged_far h'.2.2 (by omega)
        have e : res (s :: r) x = x :: s :: r := by
          unfold res
          rw [merged_cons, em, em2, List.filter_cons_of_neg (by simpa using c1), List.filter_cons_of_pos (by simp; omega),
            filter_none (fun t ht => by have := chain_mem h'.2.2 t ht; have := can_iff.1 this.2; simp; omega),
            filter_every (fun t ht => by have := chain_mem h'.2.2 t ht; have := can_iff.1 this.2; simp; omega)]
          rfl
        rw [e]
        refine ⟨by rw [chain_cons, chain_cons]; exact ⟨hlo, hx, by omega, h'.2.1, h'.2.2⟩, fun n => ?_⟩
        rw [has_cons, has_cons, Or.comm]
def add (l : List S) (x : S) : List S := if isSet l && can x then res l x else l
theorem add_yes {l : List S} {x : S} (h : isSet l = true) (hx : can x = true) : add l x = res l x := by unfold add; simp [h, hx]
theorem add_no {l : List S} {x : S} (h : (isSet l && can x) = false) : add l x = l := by unfold add; simp [h]
theorem add_ok {l : List S} {x : S} (h : isSet l = true) (hx : can x = true) : isSet (add l x) = true ∧ ∀ n, has (add l x) n ↔ has l n ∨ (x.1 ≤ n ∧ n < x.2) := by
  rw [add_yes h hx]
  exact res_ok h (by have := can_iff.1 hx; omega) hx

/-! Joining spans that come in the order of their beginnings, as the program does it. -/
def jstep (acc : List S) (x : S) : List S :=
  match acc.getLast? with
  | none => acc ++ [x]
  | some t => if x.1 ≤ t.2 then acc.dropLast ++ [(t.1, max t.2 x.2)] else acc ++ [x]
def join (d : List S) : List S := d.foldl jstep []
theorem join_more (d : List S) (x : S) : join (d ++ [x]) = jstep (join d) x := by unfold join; rw [List.foldl_append]; rfl
theorem jstep_nil (x : S) : jstep [] x = [x] := rfl
theorem jstep_hit (a : List S) {t x : S} (h : x.1 ≤ t.2) : jstep (a ++ [t]) x = a ++ [(t.1, max t.2 x.2)] := by unfold jstep; simp [h]
theorem jstep_miss (a : List S) {t x : S} (h : ¬ x.1 ≤ t.2) : jstep (a ++ [t]) x = a ++ [t] ++ [x] := by unfold jstep; simp [h]
theorem chain_snoc {lo : Int} {l : List S} {t : S} : chain lo (l ++ [t]) = true ↔ chain lo l = true ∧ can t = true ∧ lo < t.1 ∧ ∀ s ∈ l, s.2 < t.1 := by
  induction l generalizing lo with
  | nil => rw [List.nil_append, chain_cons]; simp [chain]; exact ⟨fun h => ⟨h.2, h.1⟩, fun h => ⟨h.2, h.1⟩⟩
  | cons a r ih =>
    rw [List.cons_append, chain_cons, chain_cons, ih]
    constructor
    · rintro ⟨h1, h2, h3, h4, h5, h6⟩
      have := can_iff.1 h2
      refine ⟨⟨h1, h2, h3⟩, h4, by omega, fun s hs => ?_⟩
      rcases List.mem_cons.1 hs with rfl | hs
      · exact h5
      · exact h6 s hs
    · rintro ⟨⟨h1, h2, h3⟩, h4, h5, h6⟩
      exact ⟨h1, h2, h3, h4, h6 a (by simp), fun s hs => h6 s (by simp [hs])⟩
theorem jstep_ok {acc : List S} {x : S} (hx : can x = true) (h : isSet acc = true) (ho : ∀ s ∈ acc, s.1 ≤ x.1) : isSet (jstep acc x) = true ∧ (∀ n, has (jstep acc x) n ↔ has acc n ∨ (x.1 ≤ n ∧ n < x.2)) ∧ ∀ s ∈ jstep acc x, s.1 ≤ x.1 := by
  have hxx := can_iff.1 hx
  rcases List.eq_nil_or_concat acc with rfl | ⟨a, t, rfl⟩
  · rw [jstep_nil]
    refine ⟨by unfold isSet; rw [chain_cons]; exact ⟨by omega, hx, rfl⟩, fun n => ?_, fun s hs => ?_⟩
    · rw [has_cons]; simp [has_nil]
    · simp at hs; subst hs; exact Int.le_refl _
  · rw [List.concat_eq_append] at *
    have h' := chain_snoc.1 h
    have ht := can_iff.1 h'.2.1
    have hto := ho t (by simp)
    by_cases c : x.1 ≤ t.2
    · rw [jstep_hit a c]
      refine ⟨?_, fun n => ?_, fun s hs => ?_⟩
      · unfold isSet; rw [chain_snoc]
        exact ⟨h'.1, by rw [can_iff]; simp only; omega, h'.2.2.1, h'.2.2.2⟩
      · rw [has_append, has_append, has_cons, has_cons]
        simp only [has_nil, or_false]
        constructor
        · rintro (h1 | h1)
          · exact Or.inl (Or.inl h1)
          · by_cases q : x.1 ≤ n ∧ n < x.2
            · exact Or.inr q
            · exact Or.inl (Or.inr (by omega))
        · rintro ((h1 | h1) | h1)
          · exact Or.inl h1
          · exact Or.inr (by omega)
          · exact Or.inr (by omega)
      · rcases List.mem_append.1 hs with hs | hs
        · exact ho s (by simp [hs])
        · simp at hs; subst hs; exact hto
    · rw [jstep_miss a c]
      refine ⟨?_, fun n => ?_, fun s hs => ?_⟩
      · unfold isSet; rw [chain_snoc]
        refine ⟨h, hx, by omega, fun s hs => ?_⟩
        rcases List.mem_append.1 hs with hs | hs
        · have := h'.2.2.2 s hs; omega
        · simp at hs; subst hs; omega
      · rw [has_append, has_cons]; simp [has_nil]
      · rcases List.mem_append.1 hs with hs | hs
        · exact ho s hs
        · simp at hs; subst hs; exact Int.le_refl _
def sorted (d : List S) : Prop := d.Pairwise (fun a b => a.1 ≤ b.1)
theorem join_ok (d : List S) (hd : ∀ x ∈ d, can x = true) (hs : sorted d) : isSet (join d) = true ∧ ∀ n, has (join d) n ↔ has d n := by
  have key : ∀ k, k ≤ d.length → isSet (join (d.take k)) = true ∧ (∀ n, has (join (d.take k)) n ↔ has (d.take k) n) ∧ ∀ s ∈ join (d.take k), ∃ y ∈ d.take k, s.1 = y.1 := by
    intro k
    induction k with
    | zero => intro _; exact ⟨rfl, fun n => Iff.rfl, fun s hs => by cases hs⟩
    | succ k ih =>
      intro hk
      obtain ⟨h1, h2, h3⟩ := ih (by omega)
      have ho : ∀ s ∈ join (d.take k), s.1 ≤ (d[k]).1 := by
        intro s hs'
        obtain ⟨y, hy, e⟩ := h3 s hs'
        obtain ⟨i, hi, rfl⟩ := List.getElem_of_mem hy
        rw [List.length_take] at hi
        rw [e, List.getElem_take]
        exact List.pairwise_iff_getElem.1 hs i k (by omega) (by omega) (by omega)
      have hj := jstep_ok (hd d[k] (List.getElem_mem _)) h1 ho
      rw [List.take_succ_eq_append_getElem (by omega), join_more]
      refine ⟨hj.1, fun n => ?_, fun s hs' => ?_⟩
      · rw [hj.2.1, h2, has_append, has_cons]; simp [has_nil]
      · rcases List.eq_nil_or_concat (join (d.take k)) with e | ⟨a, t, e⟩
        · rw [e, jstep_nil] at hs'
          simp at hs'; subst hs'; exact ⟨_, List.mem_append_right _ (List.mem_singleton.2 rfl), rfl⟩
        · rw [List.concat_eq_append] at e
          rw [e] at hs' h3
          by_cases c : (d[k]).1 ≤ t.2
          · rw [jstep_hit a c] at hs'
            rcases List.mem_append.1 hs' with hs' | hs'
            · obtain ⟨y, hy, ey⟩ := h3 s (by simp [hs']); exact ⟨y, List.mem_append_left _ hy, ey⟩
            · simp at hs'; subst hs'
              obtain ⟨y, hy, ey⟩ := h3 t (by simp); exact ⟨y, List.mem_append_left _ hy, ey⟩
          · rw [jstep_miss a c] at hs'
            rcases List.mem_append.1 hs' with hs' | hs'
            · obtain ⟨y, hy, ey⟩ := h3 s hs'; exact ⟨y, List.mem_append_left _ hy, ey⟩
            · simp at hs'; subst hs'; exact ⟨_, List.mem_append_right _ (List.mem_singleton.2 rfl), rfl⟩
  have := key d.length (Nat.le_refl _)
  rw [List.take_length] at this
  exact ⟨this.1, this.2.1⟩
theorem has_perm {l m : List S} (h : l.Perm m) (n : Int) : has l n ↔ has m n := by
  unfold has; constructor
  · rintro ⟨s, hs, hn⟩; exact ⟨s, h.mem_iff.1 hs, hn⟩
  · rintro ⟨s, hs, hn⟩; exact ⟨s, h.mem_iff.2 hs, hn⟩
/-- What the program makes of a set and a span is what the model makes of them. -/
theorem add_join {l : List S} {x : S} (h : isSet l = true) (hx : can x = true) {d : List S} (hp : d.Perm (x :: l)) (hs : sorted d) : join d = add l x := by
  have hc : ∀ y ∈ d, can y = true := by
    intro y hy
    rcases List.mem_cons.1 (hp.mem_iff.1 hy) with rfl | hy
    · exact hx
    · exact (chain_mem h y hy).2
  have h1 := join_ok d hc hs
  have h2 := add_ok h hx
  refine uniq h1.1 h2.1 (fun n => ?_)
  rw [h1.2, h2.2, has_perm hp, has_cons, Or.comm]
/-- The set of all the spans that can be in one. -/
def unite (l : List S) : List S := l.foldl add []
theorem unite_more (l : List S) (x : S) : unite (l ++ [x]) = add (unite l) x := by unfold unite; rw [List.foldl_append]; rfl
theorem unite_ok (l : List S) : isSet (unite l) = true ∧ ∀ n, has (unite l) n ↔ has (l.filter can) n := by
  have key : ∀ k, k ≤ l.length → isSet (unite (l.take k)) = true ∧ ∀ n, has (unite (l.take k)) n ↔ has ((l.take k).filter can) n := by
    intro k
    induction k with
    | zero => intro _; exact ⟨rfl, fun n => Iff.rfl⟩
    | succ k ih =>
      intro hk
      obtain ⟨h1, h2⟩ := ih (by omega)
      rw [List.take_succ_eq_append_getElem (by omega), unite_more, List.filter_append]
      rcases hc : can l[k] with _ | _
      · rw [add_no (by rw [hc]; simp), List.filter_cons_of_neg (by simp [hc])]
        exact ⟨h1, fun n => by rw [h2]; simp⟩
      · have := add_ok h1 hc
        refine ⟨this.1, fun n => ?_⟩
        rw [this.2, h2, has_append, List.filter_cons_of_pos hc, has_cons]
        simp [has_nil]
  have := key l.length (Nat.le_refl _)
  rw [List.take_length] at this
  exact this
theorem unite_join {l d : List S} (hp : d.Perm (l.filter can)) (hs : sorted d) : join d = unite l := by
  have h1 := join_ok d (fun y hy => (List.mem_filter.1 (hp.mem_iff.1 hy)).2) hs
  have h2 := unite_ok l
  exact uniq h1.1 h2.1 (fun n => by rw [h1.2, h2.2, has_perm hp])
theorem join_len (d : List S) : (join d).length ≤ d.length := by
  have key : ∀ k, (join (d.take k)).length ≤ k := by
    intro k
    induction k with
    | zero => simp [join]
    | succ k ih =>
      rcases Nat.lt_or_ge k d.length with h | h
      · rw [List.take_succ_eq_append_getElem h, join_more]
        rcases List.eq_nil_or_concat (join (d.take k)) with e | ⟨a, t, e⟩
        · rw [e, jstep_nil]; simp
        · rw [List.concat_eq_append] at e
          rw [e] at ih ⊢
          by_cases c : (d[k]).1 ≤ t.2
          · rw [jstep_hit a c]; simp at ih ⊢; omega
          · rw [jstep_miss a c]; simp at ih ⊢; omega
      · rw [List.take_of_length_le (by omega)]
        have := ih
        rw [List.take_of_length_le h] at this; omega
  have := key d.length
  rwa [List.take_length] at this
theorem res_len (l : List S) (x : S) : (res l x).length ≤ 2 * l.length + 1 := by
  unfold res
  have h1 := List.length_filter_le (fun s : S => decide (s.2 < x.1)) l
  have h2 := List.length_filter_le (fun s : S => decide ((merged l x).2 < s.1)) l
  simp only [List.length_append, List.length_cons, List.length_nil]; omega
theorem res_len1 {l : List S} {x : S} (h : isSet l = true) (hx : can x = true) : (res l x).length ≤ l.length + 1 := by
  have : ∀ {l : List S} {lo : Int} {x : S}, chain lo l = true → can x = true → (res l x).length ≤ l.length + 1 := by
    intro l
    induction l with
    | nil => intro lo x _ _; simp [res, merged]
    | cons s r ih =>
      intro lo x h hx
      unfold res
      have d : ∀ t ∈ s :: r, ¬ (t.2 < x.1 ∧ (merged (s :: r) x).2 < t.1) := by
        intro t ht hh
        have h1 := can_iff.1 (chain_mem h t ht).2
        have h2 := merged_grow (s :: r) x
        have h3 := can_iff.1 hx
        omega
      have : ∀ m : List S, (∀ t ∈ m, ¬ (t.2 < x.1 ∧ (merged (s :: r) x).2 < t.1)) → (m.filter (fun s => decide (s.2 < x.1))).length + (m.filter (fun t => decide ((merged (s :: r) x).2 < t.1))).length ≤ m.length := by
        intro m hm
        induction m with
        | nil => simp
        | cons a q ihq =>
          have h4 := ihq (fun t ht => hm t (by simp [ht]))
          have h5 := hm a (by simp)
          simp only [List.filter_cons, decide_eq_true_eq, List.length_cons]
          split <;> split <;> (try simp only [List.length_cons]) <;> omega
      have := this (s :: r) d
      simp only [List.length_append, List.length_cons, List.length_nil] at this ⊢; omega
  exact this h hx
end Go.Proofs.Ytegaakgmfphcaaa.Spn
