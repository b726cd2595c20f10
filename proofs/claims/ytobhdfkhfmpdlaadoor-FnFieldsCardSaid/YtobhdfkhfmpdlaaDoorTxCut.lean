/-
  PLAIN FACTS on lists of texts at commas: how a text is cut at the commas outside quoted strings; what is cut, trimmed, joined and cut again is the same.
-/
import Derived.Test.YtobhdfkhfmpdlaaDoorTxMath
namespace Go.Proofs.YtobhdfkhfmpdlaaDoor.Tx
open Go
set_option linter.unusedVariables false
set_option maxRecDepth 1000000

/-- Put in front of the first of a list of texts. -/
def push (p : List UInt8) : List (List UInt8) → List (List UInt8)
  | [] => []
  | h :: t => (p ++ h) :: t
theorem push_nil (L : List (List UInt8)) : push [] L = L := by cases L <;> rfl
theorem push_push (p q : List UInt8) (L : List (List UInt8)) : push p (push q L) = push (p ++ q) L := by cases L <;> simp [push]
theorem push_inj {p : List UInt8} {L M : List (List UInt8)} (h : push p L = push p M) : L = M := by
  cases L <;> cases M <;> simp_all [push]

/-- The parts of a text between the commas outside quoted strings; 'inq': within one. -/
def cuts (inq : Bool) (l : List UInt8) : List (List UInt8) :=
  match l with
  | [] => [[]]
  | c :: r =>
    if inq && c == 92 then push (c :: r.take 1) (cuts true (r.drop 1))
    else if c == 34 then push [c] (cuts (!inq) r)
    else if !inq && c == 44 then [] :: cuts false r
    else push [c] (cuts inq r)
  termination_by l.length
  decreasing_by all_goals simp_wf; all_goals omega

theorem cuts_nil (q : Bool) : cuts q [] = [[]] := by rw [cuts]
theorem cuts_esc {c : UInt8} (r : List UInt8) (h : c = 92) : cuts true (c :: r) = push (c :: r.take 1) (cuts true (r.drop 1)) := by rw [cuts, if_pos (by simp [h])]
theorem cuts_quote (q : Bool) {c : UInt8} (r : List UInt8) (h : c = 34) : cuts q (c :: r) = push [c] (cuts (!q) r) := by
  rw [cuts, if_neg (by subst h; simp), if_pos (by simp [h])]
theorem cuts_comma {c : UInt8} (r : List UInt8) (h : c = 44) : cuts false (c :: r) = [] :: cuts false r := by
  rw [cuts, if_neg (by simp), if_neg (by subst h; simp), if_pos (by simp [h])]
theorem cuts_plain (q : Bool) {c : UInt8} (r : List UInt8) (h1 : q = true → c ≠ 92) (h2 : c ≠ 34) (h3 : q = false → c ≠ 44) : cuts q (c :: r) = push [c] (cuts q r) := by
  rw [cuts, if_neg (by cases q <;> simp_all), if_neg (by simpa using h2), if_neg (by cases q <;> simp_all)]
theorem cuts_ne (q : Bool) (l : List UInt8) : cuts q l ≠ [] := by
  have hp : ∀ p (L : List (List UInt8)), L ≠ [] → push p L ≠ [] := by intro p L h; cases L <;> simp_all [push]
  have key : ∀ n q (l : List UInt8), l.length ≤ n → cuts q l ≠ [] := by
    intro n
    induction n with
    | zero => intro q l hl; rw [List.length_eq_zero_iff.1 (by omega : l.length = 0), cuts_nil]; simp
    | succ n ih =>
      intro q l hl
      cases l with
      | nil => rw [cuts_nil]; simp
      | cons c r =>
        simp at hl
        rw [cuts]
        split
        · exact hp _ _ (ih _ _ (by simp; omega))
        · split
          · exact hp _ _ (ih _ _ hl)
          · split
            · simp
            · exact hp _ _ (ih _ _ hl)
  exact key _ q l (Nat.le_refl _)

/-- How a text is read that holds no such comma: where it ends. -/
def scan (inq : Bool) (l : List UInt8) : Option Bool :=
  match l with
  | [] => some inq
  | c :: r =>
    if inq && c == 92 then (if r.isEmpty then none else scan true (r.drop 1))
    else if c == 34 then scan (!inq) r
    else if !inq && c == 44 then none
    else scan inq r
  termination_by l.length
  decreasing_by all_goals simp_wf; all_goals omega

theorem scan_nil (q : Bool) : scan q [] = some q := by rw [scan]
theorem scan_cons (q : Bool) (c : UInt8) (r : List UInt8) : scan q (c :: r) = if q && c == 92 then (if r.isEmpty then none else scan true (r.drop 1)) else if c == 34 then scan (!q) r else if !q && c == 44 then none else scan q r := by rw [scan]
theorem cuts_cons (q : Bool) (c : UInt8) (r : List UInt8) : cuts q (c :: r) = if q && c == 92 then push (c :: r.take 1) (cuts true (r.drop 1)) else if c == 34 then push [c] (cuts (!q) r) else if !q && c == 44 then [] :: cuts false r else push [c] (cuts q r) := by rw [cuts]

theorem cuts_scan : ∀ n q (x : List UInt8), x.length ≤ n → ∀ b, scan q x = some b → ∀ r, cuts q (x ++ r) = push x (cuts b r) := by
  intro n
  induction n with
  | zero =>
    intro q x hx b h r
    rw [List.length_eq_zero_iff.1 (by omega : x.length = 0)] at h ⊢
    rw [scan_nil] at h; injection h with h; subst h
    rw [List.nil_append, push_nil]
  | succ n ih =>
    intro q x hx b h r
    cases x with
    | nil => rw [scan_nil] at h; injection h with h; subst h; rw [List.nil_append, push_nil]
    | cons c t =>
      simp at hx
      rw [scan_cons] at h
      rw [List.cons_append, cuts_cons]
      by_cases h1 : (q && c == 92) = true
      · rw [if_pos h1] at h ⊢
        cases t with
        | nil => simp at h
        | cons d u =>
          simp at h hx
          simp only [List.cons_append, List.take_succ_cons, List.take_zero, List.drop_succ_cons, List.drop_zero]
          rw [ih true u (by omega) b h r, push_push]; rfl
      · rw [if_neg h1] at h ⊢
        by_cases h2 : (c == 34) = true
        · rw [if_pos h2] at h ⊢
          rw [ih _ t hx b h r, push_push]; rfl
        · rw [if_neg h2] at h ⊢
          by_cases h3 : (!q && c == 44) = true
          · rw [if_pos h3] at h; cases h
          · rw [if_neg h3] at h ⊢
            rw [ih _ t hx b h r, push_push]; rfl
theorem cuts_of_scan {q b : Bool} {x : List UInt8} (h : scan q x = some b) (r : List UInt8) : cuts q (x ++ r) = push x (cuts b r) := cuts_scan _ q x (Nat.le_refl _) b h r

/-- A text is one part, or a part that ends, a comma, and the rest. -/
theorem cuts_or : ∀ n q (s : List UInt8), s.length ≤ n → cuts q s = [s] ∨ ∃ x t, s = x ++ 44 :: t ∧ scan q x = some false ∧ cuts q s = x :: cuts false t := by
  intro n
  induction n with
  | zero => intro q s hs; rw [List.length_eq_zero_iff.1 (by omega : s.length = 0), cuts_nil]; exact Or.inl rfl
  | succ n ih =>
    intro q s hs
    cases s with
    | nil => rw [cuts_nil]; exact Or.inl rfl
    | cons c r =>
      simp at hs
      rw [cuts_cons]
      by_cases h1 : (q && c == 92) = true
      · rw [if_pos h1]
        cases r with
        | nil => exact Or.inl (by simp [cuts_nil, push])
        | cons d u =>
          simp at hs
          simp only [List.take_succ_cons, List.take_zero, List.drop_succ_cons, List.drop_zero]
          rcases ih true u (by omega) with h | ⟨x, t, e, hx, h⟩
          · rw [h]; exact Or.inl rfl
          · refine Or.inr ⟨c :: d :: x, t, by rw [e]; rfl, ?_, by rw [h]; rfl⟩
            rw [scan_cons, if_pos h1]; simpa using hx
      · rw [if_neg h1]
        by_cases h2 : (c == 34) = true
        · rw [if_pos h2]
          rcases ih (!q) r hs with h | ⟨x, t, e, hx, h⟩
          · rw [h]; exact Or.inl rfl
          · refine Or.inr ⟨c :: x, t, by rw [e]; rfl, ?_, by rw [h]; rfl⟩
            rw [scan_cons, if_neg h1, if_pos h2]; exact hx
        · rw [if_neg h2]
          by_cases h3 : (!q && c == 44) = true
          · rw [if_pos h3]
            have hq : q = false := by cases q <;> simp_all
            have hc : c = 44 := by cases q <;> simp_all
            subst hq; subst hc
            exact Or.inr ⟨[], r, rfl, scan_nil _, rfl⟩
          · rw [if_neg h3]
            rcases ih q r hs with h | ⟨x, t, e, hx, h⟩
            · rw [h]; exact Or.inl rfl
            · refine Or.inr ⟨c :: x, t, by rw [e]; rfl, ?_, by rw [h]; rfl⟩
              rw [scan_cons, if_neg h1, if_neg h2, if_neg h3]; exact hx

theorem cuts_shape : ∀ n (s : List UInt8), s.length ≤ n → ∃ xs y, cuts false s = xs ++ [y] ∧ (∀ x ∈ xs, scan false x = some false) ∧ cuts false y = [y] := by
  intro n
  induction n with
  | zero => intro s hs; rw [List.length_eq_zero_iff.1 (by omega : s.length = 0)]; exact ⟨[], [], cuts_nil _, by simp, cuts_nil _⟩
  | succ n ih =>
    intro s hs
    rcases cuts_or _ false s (Nat.le_refl _) with h | ⟨x, t, e, hx, h⟩
    · exact ⟨[], s, h, by simp, h⟩
    · obtain ⟨xs, y, e2, h2, h3⟩ := ih t (by rw [e] at hs; simp at hs; omega)
      refine ⟨x :: xs, y, by rw [h, e2]; rfl, ?_, h3⟩
      intro z hz
      rcases List.mem_cons.1 hz with rfl | hz
      · exact hx
      · exact h2 z hz

/-! what trimming leaves -/
theorem blk_ne {c : UInt8} (h : blk c = true) : c ≠ 92 ∧ c ≠ 34 ∧ c ≠ 44 := by
  unfold blk at h
  refine ⟨?_, ?_, ?_⟩ <;> (rintro rfl; revert h; decide)
theorem scan_blk {q : Bool} {c : UInt8} {x : List UInt8} (h : blk c = true) : scan q (c :: x) = scan q x := by
  obtain ⟨h1, h2, h3⟩ := blk_ne h
  rw [scan_cons, if_neg (by simp [h1]), if_neg (by simpa using h2), if_neg (by simp [h3])]
theorem cuts_blk {q : Bool} {c : UInt8} {x : List UInt8} (h : blk c = true) : cuts q (c :: x) = push [c] (cuts q x) := by
  obtain ⟨h1, h2, h3⟩ := blk_ne h
  exact cuts_plain q x (fun _ => h1) h2 (fun _ => h3)
theorem scan_triml {x : List UInt8} {q b : Bool} (h : scan q x = some b) : scan q (triml x) = some b := by
  induction x with
  | nil => exact h
  | cons c t ih =>
    by_cases hc : blk c = true
    · rw [triml_cons_blk hc]; rw [scan_blk hc] at h; exact ih h
    · rw [triml_cons_no (by simpa using hc)]; exact h
theorem one_triml {x : List UInt8} {q : Bool} (h : cuts q x = [x]) : cuts q (triml x) = [triml x] := by
  induction x with
  | nil => exact h
  | cons c t ih =>
    by_cases hc : blk c = true
    · rw [triml_cons_blk hc]; rw [cuts_blk hc] at h; exact ih (push_inj (p := [c]) (by rw [h]; rfl))
    · rw [triml_cons_no (by simpa using hc)]; exact h
theorem scan_snoc : ∀ n q (x : List UInt8), x.length ≤ n → ∀ c, blk c = true → scan q (x ++ [c]) = some false → scan q x = some false := by
  intro n
  induction n with
  | zero =>
    intro q x hx c hc h
    rw [List.length_eq_zero_iff.1 (by omega : x.length = 0)] at h ⊢
    rw [List.nil_append, scan_blk hc] at h; exact h
  | succ n ih =>
    intro q x hx c hc h
    cases x with
    | nil => rw [List.nil_append, scan_blk hc] at h; exact h
    | cons a t =>
      simp at hx
      rw [List.cons_append, scan_cons] at h
      rw [scan_cons]
      by_cases h1 : (q && a == 92) = true
      · rw [if_pos h1] at h ⊢
        cases t with
        | nil => simp [scan_nil] at h
        | cons d u => simp at h hx ⊢; exact ih true u (by omega) c hc h
      · rw [if_neg h1] at h ⊢
        by_cases h2 : (a == 34) = true
        · rw [if_pos h2] at h ⊢; exact ih _ t hx c hc h
        · rw [if_neg h2] at h ⊢
          by_cases h3 : (!q && a == 44) = true
          · rw [if_pos h3] at h; cases h
          · rw [if_neg h3] at h ⊢; exact ih _ t hx c hc h
theorem one_prefix : ∀ n q (x : List UInt8), x.length ≤ n → ∀ y, cuts q (x ++ y) = [x ++ y] → cuts q x = [x] := by
  intro n
  induction n with
  | zero => intro q x hx y _; rw [List.length_eq_zero_iff.1 (by omega : x.length = 0)]; exact cuts_nil _
  | succ n ih =>
    intro q x hx y h
    cases x with
    | nil => exact cuts_nil _
    | cons a t =>
      simp at hx
      rw [List.cons_append, cuts_cons] at h
      rw [cuts_cons]
      by_cases h1 : (q && a == 92) = true
      · rw [if_pos h1] at h ⊢
        cases t with
        | nil => simp [cuts_nil, push]
        | cons d u =>
          simp at hx
          simp only [List.cons_append, List.take_succ_cons, List.take_zero, List.drop_succ_cons, List.drop_zero] at h ⊢
          rw [ih true u (by omega) y (push_inj (p := [a, d]) (by rw [h]; rfl))]; rfl
      · rw [if_neg h1] at h ⊢
        by_cases h2 : (a == 34) = true
        · rw [if_pos h2] at h ⊢; rw [ih _ t hx y (push_inj (p := [a]) (by rw [h]; rfl))]; rfl
        · rw [if_neg h2] at h ⊢
          by_cases h3 : (!q && a == 44) = true
          · rw [if_pos h3] at h; simp at h
          · rw [if_neg h3] at h ⊢; rw [ih _ t hx y (push_inj (p := [a]) (by rw [h]; rfl))]; rfl
theorem scan_trimr {x : List UInt8} (h : scan false x = some false) : scan false (trimr x) = some false := by
  have key : ∀ n (x : List UInt8), x.length = n → scan false x = some false → scan false (trimr x) = some false := by
    intro n
    induction n with
    | zero => intro x hx h; rw [List.length_eq_zero_iff.1 hx] at h ⊢; exact h
    | succ n ih =>
      intro x hx h
      rcases snoc_cases x with rfl | ⟨t, c, rfl⟩
      · exact h
      · by_cases hc : blk c = true
        · rw [trimr_snoc_blk hc]; exact ih t (by simp at hx; omega) (scan_snoc _ _ t (Nat.le_refl _) c hc h)
        · rw [trimr_snoc_no (by simpa using hc)]; exact h
  exact key _ x rfl h
theorem scan_trim {x : List UInt8} (h : scan false x = some false) : scan false (trim x) = some false := scan_triml (scan_trimr h)
theorem one_trim {x : List UInt8} (h : cuts false x = [x]) : cuts false (trim x) = [trim x] := by
  unfold trim
  refine one_triml ?_
  obtain ⟨q, e, _⟩ := trimr_prefix x
  exact one_prefix _ _ _ (Nat.le_refl _) q (by rw [← e]; exact h)
theorem one_of_scan {x : List UInt8} {q b : Bool} (h : scan q x = some b) : cuts q x = [x] := by
  have := cuts_of_scan h []
  rw [List.append_nil, cuts_nil] at this
  rw [this]; simp [push]

/-! the parts that are kept -/
def keep (xs : List (List UInt8)) : List (List UInt8) := (xs.map trim).filter (fun x => !x.isEmpty)
def split (s : List UInt8) : List (List UInt8) := keep (cuts false s)
theorem keep_append (xs ys : List (List UInt8)) : keep (xs ++ ys) = keep xs ++ keep ys := by unfold keep; rw [List.map_append, List.filter_append]
theorem keep_one (x : List UInt8) : keep [x] = if trim x = [] then [] else [trim x] := by
  unfold keep
  by_cases h : trim x = [] <;> simp [h, List.filter_cons]
theorem keep_ok {xs : List (List UInt8)} {x : List UInt8} (h : x ∈ keep xs) : x ≠ [] ∧ trim x = x := by
  unfold keep at h
  rw [List.mem_filter] at h
  obtain ⟨h1, h2⟩ := h
  obtain ⟨y, _, rfl⟩ := List.mem_map.1 h1
  exact ⟨by simpa using h2, trim_trim y⟩
theorem split_ok {s x : List UInt8} (h : x ∈ split s) : x ≠ [] ∧ trim x = x := keep_ok h
theorem trim_blk {c : UInt8} {x : List UInt8} (h : blk c = true) : trim (c :: x) = trim x := by
  rw [← trimr_triml, triml_cons_blk h, trimr_triml]
theorem keep_push {c : UInt8} {L : List (List UInt8)} (h : blk c = true) : keep (push [c] L) = keep L := by
  cases L with
  | nil => rfl
  | cons a r => unfold keep push; simp [trim_blk h]

def join (xs : List (List UInt8)) : List UInt8 := Lib.join xs [44, 32]
theorem join_one (x : List UInt8) : join [x] = x := Lib.join_one x _
theorem join_cons (x : List UInt8) (ys : List (List UInt8)) (h : ys ≠ []) : join (x :: ys) = x ++ 44 :: 32 :: join ys := by
  cases ys with
  | nil => exact absurd rfl h
  | cons y r => unfold join Lib.join; simp [List.intercalate]
theorem split_join_chain (xs : List (List UInt8)) (y : List UInt8) (hx : ∀ x ∈ xs, scan false x = some false ∧ x ≠ [] ∧ trim x = x) (hy : cuts false y = [y]) (h0 : y ≠ []) (ht : trim y = y) :
    split (join (xs ++ [y])) = xs ++ [y] := by
  induction xs with
  | nil =>
    rw [List.nil_append, join_one]
    unfold split
    rw [hy, keep_one, ht, if_neg h0]
  | cons x r ih =>
    obtain ⟨h1, h2, h3⟩ := hx x (by simp)
    have ih' := ih (fun z hz => hx z (by simp [hz]))
    rw [List.cons_append, join_cons _ _ (by simp)]
    unfold split at ih' ⊢
    rw [cuts_of_scan h1, cuts_comma _ rfl, cuts_blk (by decide)]
    show keep ((x ++ []) :: push [32] (cuts false (join (r ++ [y])))) = _
    rw [List.append_nil, show ∀ (a : List UInt8) L, a :: L = [a] ++ L from fun _ _ => rfl, keep_append, keep_push (by decide), ih', keep_one, h3, if_neg h2]
    rfl
theorem split_join (s : List UInt8) : split (join (split s)) = split s := by
  obtain ⟨xs, y, e, hx, hy⟩ := cuts_shape _ s (Nat.le_refl _)
  have hs : split s = keep xs ++ keep [y] := by unfold split; rw [e, keep_append]
  have hk : ∀ x ∈ keep xs, scan false x = some false ∧ x ≠ [] ∧ trim x = x := by
    intro x h
    refine ⟨?_, keep_ok h⟩
    unfold keep at h
    obtain ⟨z, hz, rfl⟩ := List.mem_map.1 (List.mem_filter.1 h).1
    exact scan_trim (hx z hz)
  by_cases hy0 : trim y = []
  · rw [keep_one, if_pos hy0, List.append_nil] at hs
    rw [hs]
    rcases List.eq_nil_or_concat (keep xs) with h0 | ⟨t, z, h⟩
    · rw [h0]; unfold join Lib.join split; rw [show [44, 32].intercalate ([] : List (List UInt8)) = [] from rfl, cuts_nil]; rfl
    · have h' : keep xs = t ++ [z] := by simpa using h
      rw [h'] at hk ⊢
      obtain ⟨a, b, c⟩ := hk z (by simp)
      exact split_join_chain t z (fun x hx => hk x (by simp [hx])) (one_of_scan a) b c
  · rw [keep_one, if_neg hy0] at hs
    rw [hs]
    exact split_join_chain _ _ hk (one_trim hy) hy0 (trim_trim y)

/-! where a quoted string ends -/
/-- How many bytes stand before the closing sign; all where there is none. -/
def qlen (l : List UInt8) : Nat :=
  match l with
  | [] => 0
  | c :: r => if c == 34 then 0 else if c == 92 then (if r.isEmpty then 1 else qlen (r.drop 1) + 2) else qlen r + 1
  termination_by l.length
  decreasing_by all_goals simp_wf; all_goals omega
theorem qlen_cons (c : UInt8) (r : List UInt8) : qlen (c :: r) = if c == 34 then 0 else if c == 92 then (if r.isEmpty then 1 else qlen (r.drop 1) + 2) else qlen r + 1 := by rw [qlen]
theorem qlen_nil : qlen [] = 0 := by rw [qlen]
theorem cuts_qlen : ∀ n (r : List UInt8), r.length ≤ n → qlen r ≤ r.length ∧ cuts true r = if qlen r < r.length then push (r.take (qlen r + 1)) (cuts false (r.drop (qlen r + 1))) else [r] := by
  intro n
  induction n with
  | zero => intro r hr; rw [List.length_eq_zero_iff.1 (by omega : r.length = 0), qlen_nil, cuts_nil]; simp
  | succ n ih =>
    intro r hr
    cases r with
    | nil => rw [qlen_nil, cuts_nil]; simp
    | cons c t =>
      simp at hr
      rw [qlen_cons, cuts_cons]
      by_cases h34 : (c == 34) = true
      · have : c = 34 := by simpa using h34
        subst this
        simp
      · rw [if_neg h34, if_neg h34]
        by_cases h92 : (c == 92) = true
        · rw [if_pos h92, if_pos (show (true && c == 92) = true by simpa using h92)]
          cases t with
          | nil => simp [cuts_nil, push]
          | cons d u =>
            simp at hr
            obtain ⟨a, b⟩ := ih u (by omega)
            simp only [List.isEmpty_cons, Bool.false_eq_true, if_false, List.drop_succ_cons, List.drop_zero, List.take_succ_cons, List.take_zero, List.length_cons]
            refine ⟨by omega, ?_⟩
            rw [b]
            by_cases hq : qlen u < u.length
            · rw [if_pos hq, if_pos (by omega), push_push]; rfl
            · rw [if_neg hq, if_neg (by omega)]; rfl
        · rw [if_neg h92, if_neg (show ¬ (true && c == 92) = true by simpa using h92), if_neg (show ¬ (!true && c == 44) = true by simp)]
          obtain ⟨a, b⟩ := ih t hr
          simp only [List.length_cons, List.take_succ_cons, List.drop_succ_cons]
          refine ⟨by omega, ?_⟩
          rw [b]
          by_cases hq : qlen t < t.length
          · rw [if_pos hq, if_pos (by omega), push_push]; rfl
          · rw [if_neg hq, if_neg (by omega)]; rfl
end Go.Proofs.YtobhdfkhfmpdlaaDoor.Tx
