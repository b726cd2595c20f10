/-
  CONTRACTS AND PLAIN FACTS, several texts in one; each says in its own words what it proves.
-/
import Derived.Test.YtobhdfkhfmpdlaaDoorPartD
import Derived.Test.YtobhdfkhfmpdlaaDoorPartA
import Derived.Laws.Concat
import Derived.Test.YtobhdfkhfmpdlaaDoorPartB
set_option linter.unusedSimpArgs false
set_option linter.unusedVariables false

/-
  PLAIN FACTS on lists of texts at commas: how a text is cut at the commas outside quoted strings; what is cut, trimmed, joined and cut again is the same.
-/
namespace Go.Proofs.YtobhdfkhfmpdlaaDoor.Tx
open Go
set_option linter.unusedVariables false
set_option maxRecDepth 1000000

/-- Put in front of the first of a list of texts. -/
def push (p : List UInt8) : List (List UInt8) → List (List UInt8)
  | [] => []
  | h :: t => (p ++ h) :: t
theorem push_nil (L : List (List UInt8)) : push [] L = L := by cases L <;> rfl
theorem push_push (p q : List UInt8) (L : List (List UInt8)) : push p (push q L) = push (p ++ q) L := by cases L <;> simp [push]
theorem push_inj {p : List UInt8} {L M : List (List UInt8)} (h : push p L = push p M) : L = M := by
  cases L <;> cases M <;> simp_all [push]

/-- The parts of a text between the commas outside quoted strings; 'inq': within one. -/
def cuts (inq : Bool) (l : List UInt8) : List (List UInt8) :=
  match l with
  | [] => [[]]
  | c :: r =>
    if inq && c == 92 then push (c :: r.take 1) (cuts true (r.drop 1))
    else if c == 34 then push [c] (cuts (!inq) r)
    else if !inq && c == 44 then [] :: cuts false r
    else push [c] (cuts inq r)
  termination_by l.length
  decreasing_by all_goals simp_wf; all_goals omega

theorem cuts_nil (q : Bool) : cuts q [] = [[]] := by rw [cuts]
theorem cuts_esc {c : UInt8} (r : List UInt8) (h : c = 92) : cuts true (c :: r) = push (c :: r.take 1) (cuts true (r.drop 1)) := by rw [cuts, if_pos (by simp [h])]
theorem cuts_quote (q : Bool) {c : UInt8} (r : List UInt8) (h : c = 34) : cuts q (c :: r) = push [c] (cuts (!q) r) := by
  rw [cuts, if_neg (by subst h; simp), if_pos (by simp [h])]
theorem cuts_comma {c : UInt8} (r : List UInt8) (h : c = 44) : cuts false (c :: r) = [] :: cuts false r := by
  rw [cuts, if_neg (by simp), if_neg (by subst h; simp), if_pos (by simp [h])]
theorem cuts_plain (q : Bool) {c : UInt8} (r : List UInt8) (h1 : q = true → c ≠ 92) (h2 : c ≠ 34) (h3 : q = false → c ≠ 44) : cuts q (c :: r) = push [c] (cuts q r) := by
  rw [cuts, if_neg (by cases q <;> simp_all), if_neg (by simpa using h2), if_neg (by cases q <;> simp_all)]
theorem cuts_ne (q : Bool) (l : List UInt8) : cuts q l ≠ [] := by
  have hp : ∀ p (L : List (List UInt8)), L ≠ [] → push p L ≠ [] := by intro p L h; cases L <;> simp_all [push]
  have key : ∀ n q (l : List UInt8), l.length ≤ n → cuts q l ≠ [] := by
    intro n
    induction n with
    | zero => intro q l hl; rw [List.length_eq_zero_iff.1 (by omega : l.length = 0), cuts_nil]; simp
    | succ n ih =>
      intro q l hl
      cases l with
      | nil => rw [cuts_nil]; simp
      | cons c r =>
        simp at hl
        rw [cuts]
        split
        · exact hp _ _ (ih _ _ (by simp; omega))
        · split
          · exact hp _ _ (ih _ _ hl)
          · split
            · simp
            · exact hp _ _ (ih _ _ hl)
  exact key _ q l (Nat.le_refl _)

/-- How a text is read that holds no such comma: where it ends. -/
def scan (inq : Bool) (l : List UInt8) : Option Bool :=
  match l with
  | [] => some inq
  | c :: r =>
    if inq && c == 92 then (if r.isEmpty then none else scan true (r.drop 1))
    else if c == 34 then scan (!inq) r
    else if !inq && c == 44 then none
    else scan inq r
  termination_by l.length
  decreasing_by all_goals simp_wf; all_goals omega

theorem scan_nil (q : Bool) : scan q [] = some q := by rw [scan]
theorem scan_cons (q : Bool) (c : UInt8) (r : List UInt8) : scan q (c :: r) = if q && c == 92 then (if r.isEmpty then none else scan true (r.drop 1)) else if c == 34 then scan (!q) r else if !q && c == 44 then none else scan q r := by rw [scan]
theorem cuts_cons (q : Bool) (c : UInt8) (r : List UInt8) : cuts q (c :: r) = if q && c == 92 then push (c :: r.take 1) (cuts true (r.drop 1)) else if c == 34 then push [c] (cuts (!q) r) else if !q && c == 44 then [] :: cuts false r else push [c] (cuts q r) := by rw [cuts]

theorem cuts_scan : ∀ n q (x : List UInt8), x.length ≤ n → ∀ b, scan q x = some b → ∀ r, cuts q (x ++ r) = push x (cuts b r) := by
  intro n
  induction n with
  | zero =>
    intro q x hx b h r
    rw [List.length_eq_zero_iff.1 (by omega : x.length = 0)] at h ⊢
    rw [scan_nil] at h; injection h with h; subst h
    rw [List.nil_append, push_nil]
  | succ n ih =>
    intro q x hx b h r
    cases x with
    | nil => rw [scan_nil] at h; injection h with h; subst h; rw [List.nil_append, push_nil]
    | cons c t =>
      simp at hx
      rw [scan_cons] at h
      rw [List.cons_append, cuts_cons]
      by_cases h1 : (q && c == 92) = true
      · rw [if_pos h1] at h ⊢
        cases t with
        | nil => simp at h
        | cons d u =>
          simp at h hx
          simp only [List.cons_append, List.take_succ_cons, List.take_zero, List.drop_succ_cons, List.drop_zero]
          rw [ih true u (by omega) b h r, push_push]; rfl
      · rw [if_neg h1] at h ⊢
        by_cases h2 : (c == 34) = true
        · rw [if_pos h2] at h ⊢
          rw [ih _ t hx b h r, push_push]; rfl
        · rw [if_neg h2] at h ⊢
          by_cases h3 : (!q && c == 44) = true
          · rw [if_pos h3] at h; cases h
          · rw [if_neg h3] at h ⊢
            rw [ih _ t hx b h r, push_push]; rfl
theorem cuts_of_scan {q b : Bool} {x : List UInt8} (h : scan q x = some b) (r : List UInt8) : cuts q (x ++ r) = push x (cuts b r) := cuts_scan _ q x (Nat.le_refl _) b h r

/-- A text is one part, or a part that ends, a comma, and the rest. -/
theorem cuts_or : ∀ n q (s : List UInt8), s.length ≤ n → cuts q s = [s] ∨ ∃ x t, s = x ++ 44 :: t ∧ scan q x = some false ∧ cuts q s = x :: cuts false t := by
  intro n
  induction n with
  | zero => intro q s hs; rw [List.length_eq_zero_iff.1 (by omega : s.length = 0), cuts_nil]; exact Or.inl rfl
  | succ n ih =>
    intro q s hs
    cases s with
    | nil => rw [cuts_nil]; exact Or.inl rfl
    | cons c r =>
      simp at hs
      rw [cuts_cons]
      by_cases h1 : (q && c == 92) = true
      · rw [if_pos h1]
        cases r with
        | nil => exact Or.inl (by simp [cuts_nil, push])
        | cons d u =>
          simp at hs
          simp only [List.take_succ_cons, List.take_zero, List.drop_succ_cons, List.drop_zero]
          rcases ih true u (by omega) with h | ⟨x, t, e, hx, h⟩
          · rw [h]; exact Or.inl rfl
          · refine Or.inr ⟨c :: d :: x, t, by rw [e]; rfl, ?_, by rw [h]; rfl⟩
            rw [scan_cons, if_pos h1]; simpa using hx
      · rw [if_neg h1]
        by_cases h2 : (c == 34) = true
        · rw [if_pos h2]
          rcases ih (!q) r hs with h | ⟨x, t, e, hx, h⟩
          · rw [h]; exact Or.inl rfl
          · refine Or.inr ⟨c :: x, t, by rw [e]; rfl, ?_, by rw [h]; rfl⟩
            rw [scan_cons, if_neg h1, if_pos h2]; exact hx
        · rw [if_neg h2]
          by_cases h3 : (!q && c == 44) = true
          · rw [if_pos h3]
            have hq : q = false := by cases q <;> simp_all
            have hc : c = 44 := by cases q <;> simp_all
            subst hq; subst hc
            exact Or.inr ⟨[], r, rfl, scan_nil _, rfl⟩
          · rw [if_neg h3]
            rcases ih q r hs with h | ⟨x, t, e, hx, h⟩
            · rw [h]; exact Or.inl rfl
            · refine Or.inr ⟨c :: x, t, by rw [e]; rfl, ?_, by rw [h]; rfl⟩
              rw [scan_cons, if_neg h1, if_neg h2, if_neg h3]; exact hx

theorem cuts_shape : ∀ n (s : List UInt8), s.length ≤ n → ∃ xs y, cuts false s = xs ++ [y] ∧ (∀ x ∈ xs, scan false x = some false) ∧ cuts false y = [y] := by
  intro n
  induction n with
  | zero => intro s hs; rw [List.length_eq_zero_iff.1 (by omega : s.length = 0)]; exact ⟨[], [], cuts_nil _, by simp, cuts_nil _⟩
  | succ n ih =>
    intro s hs
    rcases cuts_or _ false s (Nat.le_refl _) with h | ⟨x, t, e, hx, h⟩
    · exact ⟨[], s, h, by simp, h⟩
    · obtain ⟨xs, y, e2, h2, h3⟩ := ih t (by rw [e] at hs; simp at hs; omega)
      refine ⟨x :: xs, y, by rw [h, e2]; rfl, ?_, h3⟩
      intro z hz
      rcases List.mem_cons.1 hz with rfl | hz
      · exact hx
      · exact h2 z hz

/-! what trimming leaves -/
theorem blk_ne {c : UInt8} (h : blk c = true) : c ≠ 92 ∧ c ≠ 34 ∧ c ≠ 44 := by
  unfold blk at h
  refine ⟨?_, ?_, ?_⟩ <;> (rintro rfl; revert h; decide)
theorem scan_blk {q : Bool} {c : UInt8} {x : List UInt8} (h : blk c = true) : scan q (c :: x) = scan q x := by
  obtain ⟨h1, h2, h3⟩ := blk_ne h
  rw [scan_cons, if_neg (by simp [h1]), if_neg (by simpa using h2), if_neg (by simp [h3])]
theorem cuts_blk {q : Bool} {c : UInt8} {x : List UInt8} (h : blk c = true) : cuts q (c :: x) = push [c] (cuts q x) := by
  obtain ⟨h1, h2, h3⟩ := blk_ne h
  exact cuts_plain q x (fun _ => h1) h2 (fun _ => h3)
theorem scan_triml {x : List UInt8} {q b : Bool} (h : scan q x = some b) : scan q (triml x) = some b := by
  induction x with
  | nil => exact h
  | cons c t ih =>
    by_cases hc : blk c = true
    · rw [triml_cons_blk hc]; rw [scan_blk hc] at h; exact ih h
    · rw [triml_cons_no (by simpa using hc)]; exact h
theorem one_triml {x : List UInt8} {q : Bool} (h : cuts q x = [x]) : cuts q (triml x) = [triml x] := by
  induction x with
  | nil => exact h
  | cons c t ih =>
    by_cases hc : blk c = true
    · rw [triml_cons_blk hc]; rw [cuts_blk hc] at h; exact ih (push_inj (p := [c]) (by rw [h]; rfl))
    · rw [triml_cons_no (by simpa using hc)]; exact h
theorem scan_snoc : ∀ n q (x : List UInt8), x.length ≤ n → ∀ c, blk c = true → scan q (x ++ [c]) = some false → scan q x = some false := by
  intro n
  induction n with
  | zero =>
    intro q x hx c hc h
    rw [List.length_eq_zero_iff.1 (by omega : x.length = 0)] at h ⊢
    rw [List.nil_append, scan_blk hc] at h; exact h
  | succ n ih =>
    intro q x hx c hc h
    cases x with
    | nil => rw [List.nil_append, scan_blk hc] at h; exact h
    | cons a t =>
      simp at hx
      rw [List.cons_append, scan_cons] at h
      rw [scan_cons]
      by_cases h1 : (q && a == 92) = true
      · rw [if_pos h1] at h ⊢
        cases t with
        | nil => simp [scan_nil] at h
        | cons d u => simp at h hx ⊢; exact ih true u (by omega) c hc h
      · rw [if_neg h1] at h ⊢
        by_cases h2 : (a == 34) = true
        · rw [if_pos h2] at h ⊢; exact ih _ t hx c hc h
        · rw [if_neg h2] at h ⊢
          by_cases h3 : (!q && a == 44) = true
          · rw [if_pos h3] at h; cases h
          · rw [if_neg h3] at h ⊢; exact ih _ t hx c hc h
theorem one_prefix : ∀ n q (x : List UInt8), x.length ≤ n → ∀ y, cuts q (x ++ y) = [x ++ y] → cuts q x = [x] := by
  intro n
  induction n with
  | zero => intro q x hx y _; rw [List.length_eq_zero_iff.1 (by omega : x.length = 0)]; exact cuts_nil _
  | succ n ih =>
    intro q x hx y h
    cases x with
    | nil => exact cuts_nil _
    | cons a t =>
      simp at hx
      rw [List.cons_append, cuts_cons] at h
      rw [cuts_cons]
      by_cases h1 : (q && a == 92) = true
      · rw [if_pos h1] at h ⊢
        cases t with
        | nil => simp [cuts_nil, push]
        | cons d u =>
          simp at hx
          simp only [List.cons_append, List.take_succ_cons, List.take_zero, List.drop_succ_cons, List.drop_zero] at h ⊢
          rw [ih true u (by omega) y (push_inj (p := [a, d]) (by rw [h]; rfl))]; rfl
      · rw [if_neg h1] at h ⊢
        by_cases h2 : (a == 34) = true
        · rw [if_pos h2] at h ⊢; rw [ih _ t hx y (push_inj (p := [a]) (by rw [h]; rfl))]; rfl
        · rw [if_neg h2] at h ⊢
          by_cases h3 : (!q && a == 44) = true
          · rw [if_pos h3] at h; simp at h
          · rw [if_neg h3] at h ⊢; rw [ih _ t hx y (push_inj (p := [a]) (by rw [h]; rfl))]; rfl
theorem scan_trimr {x : List UInt8} (h : scan false x = some false) : scan false (trimr x) = some false := by
  have key : ∀ n (x : List UInt8), x.length = n → scan false x = some false → scan false (trimr x) = some false := by
    intro n
    induction n with
    | zero => intro x hx h; rw [List.length_eq_zero_iff.1 hx] at h ⊢; exact h
    | succ n ih =>
      intro x hx h
      rcases snoc_cases x with rfl | ⟨t, c, rfl⟩
      · exact h
      · by_cases hc : blk c = true
        · rw [trimr_snoc_blk hc]; exact ih t (by simp at hx; omega) (scan_snoc _ _ t (Nat.le_refl _) c hc h)
        · rw [trimr_snoc_no (by simpa using hc)]; exact h
  exact key _ x rfl h
theorem scan_trim {x : List UInt8} (h : scan false x = some false) : scan false (trim x) = some false := scan_triml (scan_trimr h)
theorem one_trim {x : List UInt8} (h : cuts false x = [x]) : cuts false (trim x) = [trim x] := by
  unfold trim
  refine one_triml ?_
  obtain ⟨q, e, _⟩ := trimr_prefix x
  exact one_prefix _ _ _ (Nat.le_refl _) q (by rw [← e]; exact h)
theorem one_of_scan {x : List UInt8} {q b : Bool} (h : scan q x = some b) : cuts q x = [x] := by
  have := cuts_of_scan h []
  rw [List.append_nil, cuts_nil] at this
  rw [this]; simp [push]

/-! the parts that are kept -/
def keep (xs : List (List UInt8)) : List (List UInt8) := (xs.map trim).filter (fun x => !x.isEmpty)
def split (s : List UInt8) : List (List UInt8) := keep (cuts false s)
theorem keep_append (xs ys : List (List UInt8)) : keep (xs ++ ys) = keep xs ++ keep ys := by unfold keep; rw [List.map_append, List.filter_append]
theorem keep_one (x : List UInt8) : keep [x] = if trim x = [] then [] else [trim x] := by
  unfold keep
  by_cases h : trim x = [] <;> simp [h, List.filter_cons]
theorem keep_ok {xs : List (List UInt8)} {x : List UInt8} (h : x ∈ keep xs) : x ≠ [] ∧ trim x = x := by
  unfold keep at h
  rw [List.mem_filter] at h
  obtain ⟨h1, h2⟩ := h
  obtain ⟨y, _, rfl⟩ := List.mem_map.1 h1
  exact ⟨by simpa using h2, trim_trim y⟩
theorem split_ok {s x : List UInt8} (h : x ∈ split s) : x ≠ [] ∧ trim x = x := keep_ok h
theorem trim_blk {c : UInt8} {x : List UInt8} (h : blk c = true) : trim (c :: x) = trim x := by
  rw [← trimr_triml, triml_cons_blk h, trimr_triml]
theorem keep_push {c : UInt8} {L : List (List UInt8)} (h : blk c = true) : keep (push [c] L) = keep L := by
  cases L with
  | nil => rfl
  | cons a r => unfold keep push; simp [trim_blk h]

def join (xs : List (List UInt8)) : List UInt8 := Lib.join xs [44, 32]
theorem join_one (x : List UInt8) : join [x] = x := Lib.join_one x _
theorem join_cons (x : List UInt8) (ys : List (List UInt8)) (h : ys ≠ []) : join (x :: ys) = x ++ 44 :: 32 :: join ys := by
  cases ys with
  | nil => exact absurd rfl h
  | cons y r => unfold join Lib.join; simp [List.intercalate]
theorem split_join_chain (xs : List (List UInt8)) (y : List UInt8) (hx : ∀ x ∈ xs, scan false x = some false ∧ x ≠ [] ∧ trim x = x) (hy : cuts false y = [y]) (h0 : y ≠ []) (ht : trim y = y) :
    split (join (xs ++ [y])) = xs ++ [y] := by
  induction xs with
  | nil =>
    rw [List.nil_append, join_one]
    unfold split
    rw [hy, keep_one, ht, if_neg h0]
  | cons x r ih =>
    obtain ⟨h1, h2, h3⟩ := hx x (by simp)
    have ih' := ih (fun z hz => hx z (by simp [hz]))
    rw [List.cons_append, join_cons _ _ (by simp)]
    unfold split at ih' ⊢
    rw [cuts_of_scan h1, cuts_comma _ rfl, cuts_blk (by decide)]
    show keep ((x ++ []) :: push [32] (cuts false (join (r ++ [y])))) = _
    rw [List.append_nil, show ∀ (a : List UInt8) L, a :: L = [a] ++ L from fun _ _ => rfl, keep_append, keep_push (by decide), ih', keep_one, h3, if_neg h2]
    rfl
theorem split_join (s : List UInt8) : split (join (split s)) = split s := by
  obtain ⟨xs, y, e, hx, hy⟩ := cuts_shape _ s (Nat.le_refl _)
  have hs : split s = keep xs ++ keep [y] := by unfold split; rw [e, keep_append]
  have hk : ∀ x ∈ keep xs, scan false x = some false ∧ x ≠ [] ∧ trim x = x := by
    intro x h
    refine ⟨?_, keep_ok h⟩
    unfold keep at h
    obtain ⟨z, hz, rfl⟩ := List.mem_map.1 (List.mem_filter.1 h).1
    exact scan_trim (hx z hz)
  by_cases hy0 : trim y = []
  · rw [keep_one, if_pos hy0, List.append_nil] at hs
    rw [hs]
    rcases List.eq_nil_or_concat (keep xs) with h0 | ⟨t, z, h⟩
    · rw [h0]; unfold join Lib.join split; rw [show [44, 32].intercalate ([] : List (List UInt8)) = [] from rfl, cuts_nil]; rfl
    · have h' : keep xs = t ++ [z] := by simpa using h
      rw [h'] at hk ⊢
      obtain ⟨a, b, c⟩ := hk z (by simp)
      exact split_join_chain t z (fun x hx => hk x (by simp [hx])) (one_of_scan a) b c
  · rw [keep_one, if_neg hy0] at hs
    rw [hs]
    exact split_join_chain _ _ hk (one_trim hy) hy0 (trim_trim y)

/-! where a quoted string ends -/
/-- How many bytes stand before the closing sign; all where there is none. -/
def qlen (l : List UInt8) : Nat :=
  match l with
  | [] => 0
  | c :: r => if c == 34 then 0 else if c == 92 then (if r.isEmpty then 1 else qlen (r.drop 1) + 2) else qlen r + 1
  termination_by l.length
  decreasing_by all_goals simp_wf; all_goals omega
theorem qlen_cons (c : UInt8) (r : List UInt8) : qlen (c :: r) = if c == 34 then 0 else if c == 92 then (if r.isEmpty then 1 else qlen (r.drop 1) + 2) else qlen r + 1 := by rw [qlen]
theorem qlen_nil : qlen [] = 0 := by rw [qlen]
theorem cuts_qlen : ∀ n (r : List UInt8), r.length ≤ n → qlen r ≤ r.length ∧ cuts true r = if qlen r < r.length then push (r.take (qlen r + 1)) (cuts false (r.drop (qlen r + 1))) else [r] := by
  intro n
  induction n with
  | zero => intro r hr; rw [List.length_eq_zero_iff.1 (by omega : r.length = 0), qlen_nil, cuts_nil]; simp
  | succ n ih =>
    intro r hr
    cases r with
    | nil => rw [qlen_nil, cuts_nil]; simp
    | cons c t =>
      simp at hr
      rw [qlen_cons, cuts_cons]
      by_cases h34 : (c == 34) = true
      · have : c = 34 := by simpa using h34
        subst this
        simp
      · rw [if_neg h34, if_neg h34]
        by_cases h92 : (c == 92) = true
        · rw [if_pos h92, if_pos (show (true && c == 92) = true by simpa using h92)]
          cases t with
          | nil => simp [cuts_nil, push]
          | cons d u =>
            simp at hr
            obtain ⟨a, b⟩ := ih u (by omega)
            simp only [List.isEmpty_cons, Bool.false_eq_true, if_false, List.drop_succ_cons, List.drop_zero, List.take_succ_cons, List.take_zero, List.length_cons]
            refine ⟨by omega, ?_⟩
            rw [b]
            by_cases hq : qlen u < u.length
            · rw [if_pos hq, if_pos (by omega), push_push]; rfl
            · rw [if_neg hq, if_neg (by omega)]; rfl
        · rw [if_neg h92, if_neg (show ¬ (true && c == 92) = true by simpa using h92), if_neg (show ¬ (!true && c == 44) = true by simp)]
          obtain ⟨a, b⟩ := ih t hr
          simp only [List.length_cons, List.take_succ_cons, List.drop_succ_cons]
          refine ⟨by omega, ?_⟩
          rw [b]
          by_cases hq : qlen t < t.length
          · rw [if_pos hq, if_pos (by omega), push_push]; rfl
          · rw [if_neg hq, if_neg (by omega)]; rfl
end Go.Proofs.YtobhdfkhfmpdlaaDoor.Tx

/-
  PLAIN FACTS on the size of a list of texts.
-/
namespace Go.Proofs.YtobhdfkhfmpdlaaDoor.Strs
open Go Go.RowKit
set_option linter.unusedVariables false
set_option maxRecDepth 1000000

/-! the size -/
def total (xs : List (List UInt8)) : Nat := (xs.map (·.length)).sum + xs.length
theorem total_nil : total [] = 0 := rfl
def pre (xs : List (List UInt8)) (k : Nat) : Nat := ((xs.take k).map (·.length)).sum
theorem pre_zero (xs : List (List UInt8)) : pre xs 0 = 0 := by unfold pre; simp
theorem pre_more {xs : List (List UInt8)} {k : Nat} (h : k < xs.length) : pre xs (k + 1) = pre xs k + (xs.getD k []).length := by
  unfold pre; rw [List.take_succ_eq_append_getElem h, List.map_append, List.sum_append]; simp [List.getD, h]
theorem pre_all {xs : List (List UInt8)} {k : Nat} (h : k = xs.length) : total xs = pre xs k + xs.length := by unfold pre total; subst h; simp
end Go.Proofs.YtobhdfkhfmpdlaaDoor.Strs

/-
  PLAIN FACTS on joined texts.
-/
namespace Go.Proofs.YtobhdfkhfmpdlaaDoor.Tx
open Go Go.RowKit Strs
set_option linter.unusedVariables false
set_option maxRecDepth 1000000

theorem addtwo (a b : List UInt8) (h : a.length + b.length ≤ 1000000000) (W : World) :
    (Op.stringOp .add ⟨a.toArray⟩ ⟨b.toArray⟩).run Tryd.prog W = .ok (.string ⟨(a ++ b).toArray⟩) W := by
  rw [run_string_add_sum W _ _ (by simp [ByteArray.size]; omega)]
  congr 2
theorem join_snoc {xs : List (List UInt8)} (x : List UInt8) (h : xs ≠ []) : join (xs ++ [x]) = join xs ++ [44, 32] ++ x := by
  induction xs with
  | nil => exact absurd rfl h
  | cons a r ih =>
    by_cases hr : r = []
    · subst hr; rw [List.singleton_append, join_cons _ _ (by simp), join_one, join_one]; simp
    · rw [List.cons_append, join_cons _ _ (by simp), join_cons _ _ hr, ih hr]; simp
theorem join_more {xs : List (List UInt8)} {k : Nat} (h : k < xs.length) (h0 : 0 < k) : join (xs.take (k + 1)) = join (xs.take k) ++ [44, 32] ++ xs.getD k [] := by
  rw [List.take_succ_eq_append_getElem h, join_snoc _ (by intro e; have h' := congrArg List.length e; rw [List.length_take, List.length_nil] at h'; omega)]
  simp [List.getD, h]
theorem join_first {xs : List (List UInt8)} (h : 0 < xs.length) : join (xs.take 1) = xs.getD 0 [] := by
  cases xs with
  | nil => simp at h
  | cons a r => simp [join_one]
theorem join_nil : join [] = [] := rfl
theorem pre_le (xs : List (List UInt8)) (k : Nat) : pre xs k ≤ (xs.map (·.length)).sum := by
  unfold pre
  conv => rhs; rw [← List.take_append_drop k xs]
  rw [List.map_append, List.sum_append]; omega
theorem join_len (xs : List (List UInt8)) (k : Nat) (hk : k ≤ xs.length) : (join (xs.take k)).length ≤ pre xs k + 2 * k := by
  induction k with
  | zero => simp [join_nil]
  | succ k ih =>
    have ih := ih (by omega)
    have hp := pre_more (xs := xs) (k := k) (by omega)
    by_cases h0 : 0 < k
    · rw [join_more (by omega) h0]; simp only [List.length_append, List.length_cons, List.length_nil]; omega
    · have : k = 0 := by omega
      subst this
      rw [join_first (by omega)]; rw [hp]; omega

def JoinEnd (xs : List (List UInt8)) (w : World) (e : Ending) (w' : World) : Prop := e = .returned (.string ⟨(join xs).toArray⟩) ∧ Below w.heap.size w w'
theorem ret_join {a b : List UInt8} (h : a = b) : Ending.returned (.string ⟨a.toArray⟩) = .returned (.string ⟨b.toArray⟩) := by rw [h]

end Go.Proofs.YtobhdfkhfmpdlaaDoor.Tx

/-
  CONTRACTS of the draws of chapter 6 (l6Text, DrawParseDirectives), as functions of the bytes of the draw: the same bytes give the same text, in whatever world.
-/
namespace Go.Proofs.YtobhdfkhfmpdlaaDoor.Cf
open Go Go.RowKit Cur
set_option linter.unusedVariables false
set_option maxRecDepth 1000000

def ddirs : List (List UInt8) := [[109, 97, 120, 45, 97, 103, 101, 61, 54, 48], [77, 97, 120, 45, 65, 103, 101, 61, 49, 48], [115, 45, 109, 97, 120, 97, 103, 101, 61, 53], [110, 111, 45, 99, 97, 99, 104, 101], [110, 111, 45, 115, 116, 111, 114, 101], [112, 114, 105, 118, 97, 116, 101], [112, 117, 98, 108, 105, 99], [112, 114, 105, 118, 97, 116, 101, 61, 34, 97, 44, 32, 98, 34], [109, 97, 120, 45, 115, 116, 97, 108, 101], [109, 97, 120, 45, 115, 116, 97, 108, 101, 61, 55], [109, 105, 110, 45, 102, 114, 101, 115, 104, 61, 51], [109, 117, 115, 116, 45, 114, 101, 118, 97, 108, 105, 100, 97, 116, 101], [115, 116, 97, 108, 101, 45, 119, 104, 105, 108, 101, 45, 114, 101, 118, 97, 108, 105, 100, 97, 116, 101, 61, 57], [115, 116, 97, 108, 101, 45, 105, 102, 45, 101, 114, 114, 111, 114, 61, 50, 48], [111, 110, 108, 121, 45, 105, 102, 45, 99, 97, 99, 104, 101, 100], [109, 97, 120, 45, 97, 103, 101, 61, 57, 57, 57, 57, 57, 57, 57, 57, 57, 57, 57], [109, 97, 120, 45, 97, 103, 101, 61, 120], [109, 97, 120, 45, 97, 103, 101, 61, 34, 55, 34], [109, 97, 120, 45, 97, 103, 101, 61], [61, 51], [97, 32, 98], [120, 61, 34, 111, 112, 101, 110]]
def dseps : List (List UInt8) := [[44], [44, 32], [44, 32, 44, 32]]
theorem ddirs_len (x : List UInt8) (h : x ∈ ddirs) : x.length ≤ 24 := by
  have hall : ddirs.all (fun x => decide (x.length ≤ 24)) = true := by decide
  have := List.all_eq_true.1 hall x h
  simpa using this
theorem dseps_len (x : List UInt8) (h : x ∈ dseps) : x.length ≤ 4 := by
  have hall : dseps.all (fun x => decide (x.length ≤ 4)) = true := by decide
  have := List.all_eq_true.1 hall x h
  simpa using this

/-- k more directives behind the text s. -/
def dirsF (κ : Src) : Nat → List UInt8 → Int × Int → List UInt8 × (Int × Int)
  | 0, s, st => (s, st)
  | k + 1, s, st => dirsF κ k (s ++ (strF κ ddirs st).1 ++ (strF κ dseps (strF κ ddirs st).2).1) (strF κ dseps (strF κ ddirs st).2).2
def text6F (κ : Src) (st : Int × Int) : List UInt8 × (Int × Int) := dirsF κ (belowF κ 5 st).1.toNat [] (belowF κ 5 st).2
theorem dirsF_len (κ : Src) : ∀ (k : Nat) (s : List UInt8) (st : Int × Int), (dirsF κ k s st).1.length ≤ s.length + 28 * k
  | 0, s, st => Nat.le_refl _
  | k + 1, s, st => by
    unfold dirsF
    have h1 := ddirs_len _ (strF_mem κ ddirs st (by decide))
    have h2 := dseps_len _ (strF_mem κ dseps (strF κ ddirs st).2 (by decide))
    have h3 := dirsF_len κ k (s ++ (strF κ ddirs st).1 ++ (strF κ dseps (strF κ ddirs st).2).1) (strF κ dseps (strF κ ddirs st).2).2
    simp only [List.length_append] at h3
    omega
theorem text6F_len (κ : Src) (st : Int × Int) : (text6F κ st).1.length ≤ 112 := by
  unfold text6F
  have h := dirsF_len κ (belowF κ 5 st).1.toNat [] (belowF κ 5 st).2
  have hu := belowF_under κ 5 st
  have h1 := hu.1; have h2 := hu.2
  simp at h
  omega

set_option maxHeartbeats 2000000 in
theorem text6_fn (c B : Nat) (bv : Value) (κ : Src) (st : Int × Int) (w : World) (hcur : CurS w c bv st) (hby : BytesS w B bv κ) (hB : B ≤ c) :
    Calls Tryd.prog 29 #[.pointer (some ⟨c, 0, none⟩)] w (DrawnT (text6F κ st) c bv w) := by
  generalize hR : text6F κ st = R
  unfold text6F at hR
  have k1 := below_fn c B bv κ st 5 w hcur hby hB (by omega)
  have hx := belowF_under κ 5 st
  generalize belowF κ 5 st = p at hR k1 hx
  obtain ⟨x, st1⟩ := p
  have hx0 : (0 : Int) ≤ x := hx.1
  have hx1 : x < 5 ∨ _ := hx.2
  obtain ⟨n, rfl, hn⟩ : ∃ n : Nat, x = (n : Int) ∧ n ≤ 4 := ⟨x.toNat, by omega, by omega⟩
  have hR : dirsF κ n [] st1 = R := hR
  clear hx hx0 hx1
  go_enter Tryd.func29, Tryd.ntmps29
  go_wp2_with (fail)
  go_at_call 66
  refine k1.mono ?_
  rintro e w2 ⟨rfl, hc2, hg2⟩
  have HI := Lib.hid (And.intro hR (And.intro hc2 hg2))
  have HBY := Lib.hid hby
  clear hc2 hg2 hby hcur hR k1
  go_wp2
  go_loopw [3, 4] (fun s i wr => ∃ (k : Nat) (l : List UInt8) (sk : Int × Int), i = .int .i64 (k : Int) ∧ s = .string ⟨l.toArray⟩ ∧ l.length + 28 * k ≤ 112 ∧ dirsF κ k l sk = R ∧ CurS wr c bv sk ∧ w.grownBy wr (some c)) (fun _ i _ => (intOf i).toNat)
  case atStart => exact ⟨n, [], st1, rfl, rfl, by simp; omega, HI.out.1, HI.out.2.1, HI.out.2.2⟩
  case round =>
    clear HI
    obtain ⟨k, l, sk, rfl, rfl, hl, hR, hcu, hg⟩ := hrel
    by_cases hz : 0 < k
    · obtain ⟨m, rfl⟩ : ∃ m, k = m + 1 := ⟨k - 1, by omega⟩
      have hzi : 0 < ((m + 1 : Nat) : Int) := by omega
      have hby2 := bytesS_kept HBY.out hg hB
      have HG := Lib.hid hg
      clear hg
      unfold dirsF at hR
      have H1 := str_new c B bv κ sk ddirs 22 rfl wr hcu hby2 hB (by decide) (by decide) 9
      have hx8 := ddirs_len _ (strF_mem κ ddirs sk (by decide))
      generalize strF κ ddirs sk = p at hR H1 hx8
      obtain ⟨x, s2⟩ := p
      dsimp only at hR hx8
      go_wp2_with (fail)
      go_at_call 41
      refine H1.mono ?_
      rintro e w3 ⟨rfl, hc3, hg3⟩
      have hby3 := bytesS_kept hby2 hg3 hB
      have HG3 := Lib.hid (gb_trans HG.out hg3)
      have hadd1 := Tx.addtwo l x (by omega)
      have hxl : (l ++ x).length ≤ l.length + 24 := by rw [List.length_append]; omega
      generalize l ++ x = lx at hadd1 hxl hR
      have H2 := str_new c B bv κ s2 dseps 3 rfl w3 hc3 hby3 hB (by decide) (by decide) 9
      have hy8 := dseps_len _ (strF_mem κ dseps s2 (by decide))
      generalize strF κ dseps s2 = p at hR H2 hy8
      obtain ⟨y, s3⟩ := p
      dsimp only at hR hy8
      clear hg3 hcu hby2 H1 HG
      go_wp2_with (fail)
      go_at_call 41
      refine H2.mono ?_
      rintro e w4 ⟨rfl, hc4, hg4⟩
      have hadd2 := Tx.addtwo lx y (by omega)
      have HE := Lib.hid (And.intro (show (lx ++ y).length + 28 * m ≤ 112 by rw [List.length_append]; omega) (And.intro hR (And.intro hc4 (gb_trans HG3.out hg4))))
      have HK := Lib.hid (show ((m + 1 : Nat) : Int) - 1 = (m : Int) by omega)
      clear hR hc3 hby3 hc4 hg4 H2 HG3 hx8 hy8 hxl
      go_wp2
      go_roundw
      case rel => exact ⟨m, lx ++ y, s3, by rw [← HK.out], by simp, HE.out.1, HE.out.2.1, HE.out.2.2.1, HE.out.2.2.2⟩
      case measure => simp [intOf]
    · have hzi : ¬ 0 < (k : Int) := by omega
      obtain rfl : k = 0 := by omega
      have hR : (l, sk) = R := hR
      subst hR
      have HE := Lib.hid (And.intro hcu hg)
      clear hcu hg hl
      go_wp2
      go_ret
      exact ⟨rfl, HE.out.1, HE.out.2⟩

/-- The text that DrawParseDirectives makes of the bytes. -/
def draw6F (κ : Src) : List UInt8 := (bentF κ (text6F κ (0, newH κ)).1 (text6F κ (0, newH κ)).2).1
theorem draw6F_len (κ : Src) : (draw6F κ).length ≤ 113 := by
  have h1 := text6F_len κ (0, newH κ)
  have h2 := bentF_len κ (text6F κ (0, newH κ)).1 (text6F κ (0, newH κ)).2
  unfold draw6F; omega
def TextEnd (x : List UInt8) (w : World) (e : Ending) (w' : World) : Prop := e = .returned (.string ⟨x.toArray⟩) ∧ Below w.heap.size w w'
theorem draw6_fn (B : Nat) (bv : Value) (κ : Src) (w : World) (hby : BytesS w B bv κ) (hB : B ≤ w.heap.size) :
    Calls Tryd.prog 7 #[bv] w (TextEnd (draw6F κ) w) := by
  generalize hR : draw6F κ = R
  unfold draw6F at hR
  have k1 := text6_fn w.heap.size B bv κ (0, newH κ) _ (made_curS bv (newH κ) w) (bytesS_alloc hby _) hB
  have hl := text6F_len κ (0, newH κ)
  generalize text6F κ (0, newH κ) = p at hR k1 hl
  obtain ⟨s, st1⟩ := p
  dsimp only at hR hl
  have HR := Lib.hid hR
  clear hR
  go_enter Tryd.func7, Tryd.ntmps7
  go_wp2_with (fail)
  go_at_call 27
  refine (new_fn B bv κ _ hby).mono ?_
  rintro e w1 ⟨rfl, rfl⟩
  go_wp2_with (fail)
  go_at_call 29
  refine k1.mono ?_
  rintro e w2 ⟨rfl, hc2, hg2⟩
  have hy2 := bytesS_kept (bytesS_alloc hby _) hg2 hB
  have HG := Lib.hid hg2
  clear hg2 k1
  go_wp2_with (fail)
  go_at_call 28
  refine (bent_fn w.heap.size B bv κ st1 s _ hc2 hy2 hB (by omega)).mono ?_
  rintro e w3 ⟨rfl, hc3, hg3⟩
  rw [HR.out]
  have HE := Lib.hid (below_gb ((Below.refl _ _).alloc (Nat.le_refl _) _) (gb_trans HG.out hg3) (by simp) (Nat.le_refl _))
  clear hc2 hy2 hc3 hg3
  go_wp2
  go_ret
  exact ⟨rfl, HE.out⟩
end Go.Proofs.YtobhdfkhfmpdlaaDoor.Cf

/-
  PLAIN FACTS on slices of Directive (written by rec.py): what a slice holds, how that is kept, and how a slice that the call itself has built is such a one.
-/
namespace Go.Proofs.YtobhdfkhfmpdlaaDoor.Dir
open Go Go.RowKit
set_option linter.unusedVariables false
set_option maxRecDepth 1000000

theorem info_r : (Tryd.prog.info? 29).map (fun i => (i.zero, i.size, i.bytes)) = some (some (.agg #[.string ⟨#[]⟩, .string ⟨#[]⟩, .bool false]), 3, 40) := by kernel_rfl

abbrev T : Type := List UInt8 × List UInt8 × Bool
def nov : T := ([], [], false)
def cs (f : T) : List Value := [.string ⟨(f.1).toArray⟩, .string ⟨(f.2.1).toArray⟩, .bool (f.2.2)]
def fv (f : T) : Value := .agg #[.string ⟨(f.1).toArray⟩, .string ⟨(f.2.1).toArray⟩, .bool (f.2.2)]
theorem cs_len (f : T) : (cs f).length = 3 := rfl
theorem cs_one (f : T) : ∀ u ∈ cs f, u.oneCell' = true := by
  intro u hu; simp [cs] at hu; rcases hu with rfl | rfl | rfl <;> rfl
def fcs (l : List T) : List Value := Rec.flat cs l
theorem fcs_len (l : List T) : (fcs l).length = l.length * 3 := Rec.flat_len cs_len l
theorem fcs_more (l : List T) (f : T) : fcs (l ++ [f]) = fcs l ++ [.string ⟨(f.1).toArray⟩, .string ⟨(f.2.1).toArray⟩, .bool (f.2.2)] := Rec.flat_more l f
theorem fcs_one (l : List T) : ∀ u ∈ fcs l, u.oneCell' = true := Rec.flat_one cs_one l
theorem fcs_put {l : List T} {k : Nat} (f : T) (h : k < l.length) : (((fcs l).set (k * 3) (.string ⟨(f.1).toArray⟩)).set (k * 3 + 1) (.string ⟨(f.2.1).toArray⟩)).set (k * 3 + 2) (.bool (f.2.2)) = fcs (l.set k f) := Rec.flat_put cs_len f h
def Ok (f : T) : Prop := f.1.length ≤ maxLen ∧ f.2.1.length ≤ maxLen
/-- The cells from (b, off) on are these. -/
def At (w : World) (b off : Nat) (l : List T) : Prop := Rec.At 3 cs nov w b off l
/-- The slice v reads as l; its cells lie below block B. -/
def Holds (w : World) (B : Nat) (v : Value) (l : List T) : Prop := Rec.Holds 3 cs nov w B v l
abbrev Own (w : World) (B : Nat) (v : Value) (l : List T) : Prop := w.ownsRow B 29 3 v l.length (fcs l)
theorem holds_iff {w : World} {B : Nat} {v : Value} {l : List T} (h : Holds w B v l) : (l = [] ∧ ∃ a cap, v = .slice a 0 cap) ∨ (0 < l.length ∧ ∃ b off cap, v = .slice (some ⟨b, off, none⟩) l.length cap ∧ b < B ∧ l.length ≤ cap ∧ At w b off l) := h
theorem holds_nil (w : World) (B : Nat) (a : Option Addr) (cap : Nat) : Holds w B (.slice a 0 cap) [] := Or.inl ⟨rfl, _, _, rfl⟩
theorem at_cells {w : World} {b off : Nat} {l : List T} (h : At w b off l) {j : Nat} (hj : j < l.length) : w.cell? ⟨b, off + j * 3, none⟩ = some (.string ⟨((l.getD j nov).1).toArray⟩) ∧ w.cell? ⟨b, off + j * 3 + 1, none⟩ = some (.string ⟨((l.getD j nov).2.1).toArray⟩) ∧ w.cell? ⟨b, off + j * 3 + 2, none⟩ = some (.bool ((l.getD j nov).2.2)) := ⟨h j hj 0 _ rfl, h j hj 1 _ rfl, h j hj 2 _ rfl⟩
theorem at_lt {w : World} {b off : Nat} {l : List T} (h : At w b off l) (h0 : 0 < l.length) : b < w.heap.size := Rec.at_lt cs_len (by decide) h h0
theorem at_below {w w' : World} {B b off : Nat} {l : List T} (h : At w b off l) (hb : Below B w w') (hlt : b < B) : At w' b off l := Rec.at_below h hb hlt
theorem holds_more {w : World} {B B' : Nat} {v : Value} {l : List T} (h : Holds w B v l) (hB : B ≤ B') : Holds w B' v l := Rec.holds_more h hB
theorem holds_below {w w' : World} {B : Nat} {v : Value} {l : List T} (h : Holds w B v l) (hb : Below B w w') : Holds w' B v l := Rec.holds_below h hb
theorem holds_grown {w w' : World} {B : Nat} {v : Value} {l : List T} {row : Option Nat} (h : Holds w B v l) (hg : w.grownBy w' row) (hr : ∀ k, row = some k → B ≤ k) : Holds w' B v l := Rec.holds_grown h hg hr
theorem own_len {w : World} {B : Nat} {v : Value} {l : List T} {n : Nat} (h : w.ownsRow B 29 3 v n (fcs l)) : n = l.length := Rec.own_len cs_len (by decide) h
theorem own_cells {w : World} {B g cap : Nat} {l : List T} {n : Nat} (h : w.ownsRow B 29 3 (.slice (some ⟨g, 0, none⟩) n cap) n (fcs l)) {j : Nat} (hj : j < n) : w.cell? ⟨g, j * 3, none⟩ = some (.string ⟨((l.getD j nov).1).toArray⟩) ∧ w.cell? ⟨g, j * 3 + 1, none⟩ = some (.string ⟨((l.getD j nov).2.1).toArray⟩) ∧ w.cell? ⟨g, j * 3 + 2, none⟩ = some (.bool ((l.getD j nov).2.2)) :=
  ⟨Rec.own_cell (z := nov) (i := 0) cs_len (by decide) h hj rfl, Rec.own_cell (z := nov) (i := 1) cs_len (by decide) h hj rfl, Rec.own_cell (z := nov) (i := 2) cs_len (by decide) h hj rfl⟩
theorem own_holds {w : World} {B : Nat} {v : Value} {l : List T} (h : Own w B v l) : Holds w w.heap.size v l := Rec.own_holds cs_len (by decide) h
theorem own_mono {w : World} {B B' : Nat} {v : Value} {l : List T} (h : Own w B v l) (hB : B' ≤ B) : Own w B' v l := Rec.own_mono h hB
theorem row_below {w w' : World} {B n : Nat} {v : Value} {xs : List Value} (h : w.ownsRow B 29 3 v n xs) (hb : Below w.heap.size w w') : w'.ownsRow B 29 3 v n xs := Rec.row_below h hb
theorem row_grown {w w' : World} {B n : Nat} {v : Value} {xs : List Value} {row : Option Nat} (h : w.ownsRow B 29 3 v n xs) (hg : w.grownBy w' row) (hr : ∀ g, v.ownBlock = some g → some g ≠ row) : w'.ownsRow B 29 3 v n xs := Rec.row_grown h hg hr
theorem push_own {B : Nat} {a w w1 : World} {v v' : Value} {l : List T} {f : T} {o : Obj} (hown : Own w B v l) (hb : Below a.heap.size a w) (hB : a.heap.size ≤ B)
    (h' : w1.ownsRow B 29 3 v' (l.length + 1) (fcs l ++ [.string ⟨(f.1).toArray⟩, .string ⟨(f.2.1).toArray⟩, .bool (f.2.2)])) (hg : (w.alloc o).grownBy w1 v.ownBlock) : Own w1 B v' (l ++ [f]) ∧ Below a.heap.size a w1 := Rec.push_own hown hb hB h' hg
theorem own_lit_nil (w : World) : Own (w.alloc (.cells #[] 29)) w.heap.size (.slice (some ⟨w.heap.size, 0, none⟩) 0 0) [] := Rec.own_lit_nil w _
theorem holds_drew {w : World} {B : Nat} {v : Value} {l : List T} (h : Holds w B v l) : Holds w.drew B v l := h
theorem row_drew {w : World} {B n : Nat} {v : Value} {xs : List Value} (h : w.ownsRow B 29 3 v n xs) : w.drew.ownsRow B 29 3 v n xs := h
def part (l : List T) (k : Nat) : List T := Rec.part nov l k
theorem part_len (l : List T) {k : Nat} (h : k ≤ l.length) : (part l k).length = l.length := Rec.part_len l h
theorem part_all (l : List T) : part l l.length = l := Rec.part_all l
theorem part_more {l : List T} {k : Nat} (h : k < l.length) : (part l k).set k (l.getD k nov) = part l (k + 1) := Rec.part_more h
theorem made_part (l : List T) : (madeCells (Value.agg #[.string ⟨#[]⟩, .string ⟨#[]⟩, .bool false]).cells (l.length * 3)).toList = fcs (part l 0) := Rec.made_part cs_len (by decide) l _ rfl
def wt (f : T) : Nat := f.1.length + f.2.1.length
def total (l : List T) : Nat := Rec.total wt l
theorem len_le_total (l : List T) : l.length ≤ total l := Rec.len_le_total wt l
theorem mem_total {l : List T} {f : T} (h : f ∈ l) : wt f ≤ total l := Rec.mem_total wt h
end Go.Proofs.YtobhdfkhfmpdlaaDoor.Dir
