/-
  PLAIN FACTS on texts as lists of bytes: tokens, lower case, blanks at both ends, quoted strings, pairs, lists at commas.
-/
import Derived.Lib.SlTrimSet
import Derived.Lib.IndexMore
import Derived.Lib.Join
namespace Go.Proofs.YtobhdfkhfmpdlaaDoor.Tx
open Go
set_option linter.unusedVariables false
set_option maxRecDepth 1000000

/-! tokens -/
def marks : List UInt8 := [33, 35, 36, 37, 38, 39, 42, 43, 45, 46, 94, 95, 124, 126, 96]
def letc (c : UInt8) : Bool := decide (97 ≤ c.toNat ∧ c.toNat ≤ 122) || decide (65 ≤ c.toNat ∧ c.toNat ≤ 90) || decide (48 ≤ c.toNat ∧ c.toNat ≤ 57)
def tokc (c : UInt8) : Bool := marks.contains c || letc c
def token (l : List UInt8) : Bool := l.all tokc && decide (1 ≤ l.length ∧ l.length ≤ 40)

/-! lower case -/
def upc (c : UInt8) : Bool := decide (65 ≤ c.toNat ∧ c.toNat ≤ 90)
def lowc (c : UInt8) : UInt8 := if upc c then c + 32 else c
def lower (l : List UInt8) : List UInt8 := l.map lowc
theorem lowc_up {c : UInt8} (h : upc c = true) : ((lowc c).toNat : Int) = c.toNat + 32 := by
  unfold lowc; rw [if_pos h]
  unfold upc at h; simp at h
  have : (c + 32).toNat = (c.toNat + 32) % 256 := UInt8.toNat_add c 32
  rw [this]; omega
theorem lowc_no {c : UInt8} (h : upc c = false) : lowc c = c := by unfold lowc; simp [h]
theorem upc_low (c : UInt8) : upc (lowc c) = false := by
  by_cases h : upc c = true
  · have e := lowc_up h
    unfold upc at h ⊢; simp at h ⊢; omega
  · rw [lowc_no (by simpa using h)]; simpa using h
theorem lower_lower (l : List UInt8) : lower (lower l) = lower l := by
  unfold lower; rw [List.map_map]
  apply List.map_congr_left; intro c _
  exact lowc_no (upc_low c)

/-! blanks -/
def blk (c : UInt8) : Bool := c == 32 || c == 9
def triml (l : List UInt8) : List UInt8 := l.dropWhile blk
def trimr (l : List UInt8) : List UInt8 := (l.reverse.dropWhile blk).reverse
def trim (l : List UInt8) : List UInt8 := triml (trimr l)
theorem blk_set : (fun b : UInt8 => [32, 9].contains b) = blk := by
  funext b
  unfold blk
  simp only [List.contains, List.elem]
  cases (b == 32) <;> cases (b == 9) <;> rfl
theorem trim_set (l : List UInt8) : Lib.trimS l [32, 9] = trim l := by
  unfold Lib.trimS Lib.trimLeftS Lib.trimRightS trim triml trimr
  rw [show (fun x : UInt8 => [32, 9].contains x) = blk from blk_set]
theorem triml_cons_blk {c : UInt8} {l : List UInt8} (h : blk c = true) : triml (c :: l) = triml l := by unfold triml; rw [List.dropWhile_cons_of_pos h]
theorem triml_cons_no {c : UInt8} {l : List UInt8} (h : blk c = false) : triml (c :: l) = c :: l := by unfold triml; rw [List.dropWhile_cons_of_neg (by simp [h])]
theorem triml_nil : triml [] = [] := rfl
theorem trimr_nil : trimr [] = [] := rfl
theorem trimr_snoc_blk {c : UInt8} {l : List UInt8} (h : blk c = true) : trimr (l ++ [c]) = trimr l := by
  unfold trimr; rw [List.reverse_append]; simp [List.dropWhile_cons_of_pos h]
theorem trimr_snoc_no {c : UInt8} {l : List UInt8} (h : blk c = false) : trimr (l ++ [c]) = l ++ [c] := by
  unfold trimr; rw [List.reverse_append]; simp [List.dropWhile_cons_of_neg (show ¬ blk c = true by simp [h])]
/-- Nothing to trim in front; behind. -/
def Lok (l : List UInt8) : Prop := ∀ c t, l = c :: t → blk c = false
def Rok (l : List UInt8) : Prop := ∀ c t, l = t ++ [c] → blk c = false
theorem triml_lok (l : List UInt8) : Lok (triml l) := by
  induction l with
  | nil => intro c t h; simp [triml] at h
  | cons a r ih =>
    by_cases h : blk a = true
    · rw [triml_cons_blk h]; exact ih
    · rw [triml_cons_no (by simpa using h)]
      intro c t e; injection e with e1 e2; subst e1; simpa using h
theorem triml_of_lok {l : List UInt8} (h : Lok l) : triml l = l := by
  cases l with
  | nil => rfl
  | cons a r => exact triml_cons_no (h a r rfl)
theorem snoc_cases (l : List UInt8) : l = [] ∨ ∃ t c, l = t ++ [c] := by
  rcases List.eq_nil_or_concat l with h | ⟨t, c, h⟩
  · exact Or.inl h
  · exact Or.inr ⟨t, c, by simpa using h⟩
theorem trimr_of_rok {l : List UInt8} (h : Rok l) : trimr l = l := by
  rcases snoc_cases l with rfl | ⟨t, c, rfl⟩
  · rfl
  · exact trimr_snoc_no (h c t rfl)
theorem trimr_rok (l : List UInt8) : Rok (trimr l) := by
  have key : ∀ n (l : List UInt8), l.length = n → Rok (trimr l) := by
    intro n
    induction n with
    | zero => intro l hl; rw [List.length_eq_zero_iff.1 hl]; intro c t e; simp [trimr] at e
    | succ n ih =>
      intro l hl
      rcases snoc_cases l with rfl | ⟨t, c, rfl⟩
      · simp at hl
      · by_cases h : blk c = true
        · rw [trimr_snoc_blk h]; exact ih t (by simp at hl; omega)
        · rw [trimr_snoc_no (by simpa using h)]
          intro c' t' e
          have := List.append_inj_right' e rfl
          simp at this; subst this; simpa using h
  exact key _ l rfl
/-- Taking blanks away in front leaves the end, unless nothing is left. -/
theorem triml_suffix (l : List UInt8) : ∃ p, l = p ++ triml l ∧ ∀ c ∈ p, blk c = true := by
  induction l with
  | nil => exact ⟨[], rfl, by simp⟩
  | cons a r ih =>
    by_cases h : blk a = true
    · rw [triml_cons_blk h]
      obtain ⟨p, e, hp⟩ := ih
      exact ⟨a :: p, by rw [List.cons_append, ← e], by intro c hc; rcases List.mem_cons.1 hc with rfl | hc; exact h; exact hp c hc⟩
    · rw [triml_cons_no (by simpa using h)]; exact ⟨[], rfl, by simp⟩
theorem trimr_prefix (l : List UInt8) : ∃ q, l = trimr l ++ q ∧ ∀ c ∈ q, blk c = true := by
  obtain ⟨p, e, hp⟩ := triml_suffix l.reverse
  refine ⟨p.reverse, ?_, fun c hc => hp c (by simpa using hc)⟩
  have : trimr l = (triml l.reverse).reverse := rfl
  rw [this, ← List.reverse_append, ← e, List.reverse_reverse]
theorem rok_triml {l : List UInt8} (h : Rok l) : Rok (triml l) := by
  intro c t e
  obtain ⟨p, e', _⟩ := triml_suffix l
  rw [e] at e'
  exact h c (p ++ t) (by rw [e', List.append_assoc])
theorem trim_lok (l : List UInt8) : Lok (trim l) := triml_lok _
theorem trim_rok (l : List UInt8) : Rok (trim l) := rok_triml (trimr_rok l)
theorem trim_of_ok {l : List UInt8} (h1 : Lok l) (h2 : Rok l) : trim l = l := by unfold trim; rw [trimr_of_rok h2, triml_of_lok h1]
theorem trim_trim (l : List UInt8) : trim (trim l) = trim l := trim_of_ok (trim_lok l) (trim_rok l)
theorem dw_nil (l : List UInt8) (h : l.dropWhile blk = []) : ∀ c ∈ l, blk c = true := by
  induction l with
  | nil => intro c hc; cases hc
  | cons a r ih =>
    by_cases ha : blk a = true
    · rw [List.dropWhile_cons_of_pos ha] at h
      intro c hc
      rcases List.mem_cons.1 hc with rfl | hc
      · exact ha
      · exact ih h c hc
    · rw [List.dropWhile_cons_of_neg ha] at h; cases h
/-- Both orders give the same. -/
theorem trimr_triml (l : List UInt8) : trimr (triml l) = trim l := by
  have key : ∀ n (l : List UInt8), l.length = n → trimr (triml l) = triml (trimr l) := by
    intro n
    induction n with
    | zero => intro l hl; rw [List.length_eq_zero_iff.1 hl]; rfl
    | succ n ih =>
      intro l hl
      cases l with
      | nil => simp at hl
      | cons a r =>
        by_cases ha : blk a = true
        · rw [triml_cons_blk ha, ih r (by simpa using hl)]
          by_cases hr : ∀ c ∈ r, blk c = true
          · have all_nil : ∀ m : List UInt8, (∀ c ∈ m, blk c = true) → triml m = [] := by
              intro m hm
              induction m with
              | nil => rfl
              | cons x y ih2 => rw [triml_cons_blk (hm x (by simp))]; exact ih2 (fun c hc => hm c (by simp [hc]))
            have t1 : triml (trimr r) = [] := all_nil _ (fun c hc => hr c (by
              obtain ⟨q, e, _⟩ := trimr_prefix r
              rw [e]; exact List.mem_append_left _ hc))
            have t2 : triml (trimr (a :: r)) = [] := all_nil _ (fun c hc => by
              obtain ⟨q, e, _⟩ := trimr_prefix (a :: r)
              have : c ∈ a :: r := by rw [e]; exact List.mem_append_left _ hc
              rcases List.mem_cons.1 this with rfl | h
              · exact ha
              · exact hr c h)
            rw [t1, t2]
          · have e : trimr (a :: r) = a :: trimr r := by
              unfold trimr
              rw [List.reverse_cons]
              have hne : (r.reverse.dropWhile blk) ≠ [] := by
                intro hnil
                apply hr
                intro c hc
                exact dw_nil _ hnil c (by simpa using hc)
              have : (r.reverse ++ [a]).dropWhile blk = r.reverse.dropWhile blk ++ [a] := by
                rw [List.dropWhile_append]
                simp [hne]
              rw [this, List.reverse_append]; rfl
            rw [e, triml_cons_blk ha]
        · have ha' : blk a = false := by simpa using ha
          rw [triml_cons_no ha']
          have e : triml (trimr (a :: r)) = trimr (a :: r) := by
            apply triml_of_lok
            intro c t e
            obtain ⟨q, e', hq⟩ := trimr_prefix (a :: r)
            rw [e] at e'; injection e' with e1 _; subst e1; exact ha'
          rw [e]
  exact key _ l rfl

/-! quoted strings -/
def qot (c : UInt8) : List UInt8 := if c == 34 || c == 92 then [92, c] else [c]
def quo (l : List UInt8) : List UInt8 := 34 :: (l.flatMap qot ++ [34])
/-- What is read behind the first byte; and what stands behind the closing sign. -/
def unq : List UInt8 → List UInt8 × Option (List UInt8)
  | [] => ([], none)
  | [c] => if c == 34 then ([], some []) else ([c], none)
  | c :: d :: r => if c == 34 then ([], some (d :: r)) else if c == 92 then (d :: (unq r).1, (unq r).2) else (c :: (unq (d :: r)).1, (unq (d :: r)).2)
def unqText (l : List UInt8) : List UInt8 := (unq (l.drop 1)).1
def unqOk (l : List UInt8) : Bool := (l.head? == some 34) && ((unq (l.drop 1)).2 == some [])
theorem unq_quote (l r : List UInt8) : unq (l.flatMap qot ++ 34 :: r) = (l, some r) := by
  induction l with
  | nil => cases r <;> simp [unq]
  | cons c t ih =>
    rw [List.flatMap_cons, List.append_assoc]
    by_cases h : c == 34 || c == 92
    · have : qot c = [92, c] := by unfold qot; rw [if_pos h]
      rw [this, List.cons_append, List.cons_append, List.nil_append, unq, if_neg (by decide), if_pos (by decide), ih]
    · have hq : qot c = [c] := by unfold qot; rw [if_neg h]
      rw [hq, List.cons_append, List.nil_append]
      have h34 : ¬ (c == 34) = true := by intro hc; exact h (by simp [hc])
      have h92 : ¬ (c == 92) = true := by intro hc; exact h (by simp [hc])
      cases hx : (t.flatMap qot ++ 34 :: r) with
      | nil => simp at hx
      | cons d u =>
        rw [unq, if_neg h34, if_neg h92, ← hx, ih]
theorem unq_of_quo (l : List UInt8) : unqText (quo l) = l ∧ unqOk (quo l) = true := by
  unfold unqText unqOk quo
  simp [unq_quote l []]

/-! pairs -/
def idx (c : UInt8) : List UInt8 → Nat
  | [] => 0
  | a :: r => if a == c then 0 else idx c r + 1
theorem idx_le (c : UInt8) (l : List UInt8) : idx c l ≤ l.length := by
  induction l with
  | nil => simp [idx]
  | cons a r ih => unfold idx; split <;> simp <;> omega
theorem index_idx (c : UInt8) (l : List UInt8) : Lib.index l [c] = if idx c l < l.length then (idx c l : Int) else -1 := by
  induction l with
  | nil => simp [Lib.index, idx]
  | cons a r ih =>
    unfold Lib.index idx
    by_cases h : a == c
    · have : a = c := by simpa using h
      subst this
      simp [List.isPrefixOf]
    · have hp : List.isPrefixOf [c] (a :: r) = false := by
        have : (c == a) = false := by
          rw [Bool.eq_false_iff]; intro hc; apply h
          have : c = a := by simpa using hc
          subst this; simp
        simp [List.isPrefixOf, this]
      rw [if_neg (by simp [hp]), if_neg h, ih]
      by_cases hl : idx c r < r.length
      · have hn : ((idx c r : Int) == -1) = false := by rw [beq_eq_false_iff_ne]; omega
        rw [if_pos hl, hn, if_neg (by simp), if_pos (by simp; omega)]; omega
      · rw [if_neg hl, if_pos (by decide), if_neg (by simp; omega)]
def cutAt (c : UInt8) (l : List UInt8) : List UInt8 × List UInt8 × Bool :=
  if idx c l < l.length then (l.take (idx c l), l.drop (idx c l + 1), true) else (l, [], false)
theorem cut_at (c : UInt8) (l : List UInt8) : Lib.cut l [c] = cutAt c l := by
  unfold Lib.cut cutAt
  rw [index_idx]
  by_cases h : idx c l < l.length
  · rw [if_pos h, if_pos h, if_pos (by omega)]; simp
  · rw [if_neg h, if_neg h, if_neg (by omega)]
theorem idx_at (c : UInt8) (l : List UInt8) (h : idx c l < l.length) : l[idx c l] = c := by
  induction l with
  | nil => simp at h
  | cons a r ih =>
    unfold idx at h ⊢
    by_cases hc : a == c
    · simp [hc]; simpa using hc
    · simp [hc] at h ⊢; exact ih (by simpa [hc] using h)
theorem idx_before (c : UInt8) (l : List UInt8) (j : Nat) (h : j < idx c l) : ∀ hj : j < l.length, l[j] ≠ c := by
  induction l generalizing j with
  | nil => intro hj; simp at hj
  | cons a r ih =>
    intro hj
    unfold idx at h
    by_cases hc : a == c
    · simp [hc] at h
    · simp [hc] at h
      cases j with
      | zero => simp; simpa using hc
      | succ j => simp; exact ih j (by omega) _
theorem idx_eq {c : UInt8} {l : List UInt8} {k : Nat} (hk : k ≤ l.length) (h1 : ∀ j (hj : j < l.length), j < k → l[j] ≠ c) (h2 : ∀ h : k < l.length, l[k] = c) : idx c l = k := by
  rcases Nat.lt_trichotomy (idx c l) k with h | h | h
  · exact absurd (idx_at c l (by omega)) (h1 _ (by omega) h)
  · exact h
  · have hkl : k < l.length := by have := idx_le c l; omega
    exact absurd (h2 hkl) (idx_before c l k h hkl)
end Go.Proofs.YtobhdfkhfmpdlaaDoor.Tx
