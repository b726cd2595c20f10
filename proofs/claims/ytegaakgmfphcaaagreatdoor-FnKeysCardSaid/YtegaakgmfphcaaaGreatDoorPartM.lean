/-
  CONTRACTS AND PLAIN FACTS, several texts in one; each says in its own words what it proves.
-/
import Derived.Test.YtegaakgmfphcaaaGreatDoorPartL
import Derived.Test.YtegaakgmfphcaaaGreatDoorPartK
import Derived.Test.YtegaakgmfphcaaaGreatDoorPartE
import Derived.Test.YtegaakgmfphcaaaGreatDoorPartG
import Derived.Test.YtegaakgmfphcaaaGreatDoorPartA
import Derived.Deep.QuietTactic
import Derived.BigQuiet
set_option linter.unusedSimpArgs false
set_option linter.unusedVariables false

/-
  PLAIN FACTS for the law of chapter 12: a target in its one way stays as it is, the order of a query does not matter, and what a request may have as its target is one in its one way, too.
-/
namespace Go.Proofs.YtegaakgmfphcaaaGreatDoor.Nt
open Go
set_option linter.unusedVariables false
set_option maxRecDepth 1000000

/-! what is in its one way already -/
abbrev Nrm (l : List UInt8) : Prop := norm l = some l
theorem hexn_dig : ∀ n : Fin 16, hexn (dig n.1) = n.1 := by decide
theorem dig_ne : ∀ n : Fin 16, dig n.1 ≠ 37 ∧ dig n.1 ≠ 63 ∧ dig n.1 ≠ 38 ∧ dig n.1 ≠ 47 ∧ Msg.tb (dig n.1) = true := by decide
theorem byte_all {p : UInt8 → Prop} (h : ∀ n : Fin 256, p (UInt8.ofNat n.1)) (b : UInt8) : p b := by
  have := h ⟨b.toNat, b.toNat_lt⟩
  simpa using this
set_option maxRecDepth 1000000 in
theorem plain_ne (b : UInt8) : plainb b = true → b ≠ 37 ∧ b ≠ 63 ∧ b ≠ 38 ∧ Msg.tb b = true :=
  byte_all (p := fun b => plainb b = true → b ≠ 37 ∧ b ≠ 63 ∧ b ≠ 38 ∧ Msg.tb b = true) (by decide) b
theorem norm_one {b : UInt8} (t : List UInt8) (h : b ≠ 37) : norm ([b] ++ t) = (norm t).map ([b] ++ ·) := norm_plain t h
theorem norm_again : ∀ (n : Nat) (l t : List UInt8), l.length ≤ n → norm l = some t → norm t = some t
  | 0, l, t, hn, h => by
    have : l = [] := List.eq_nil_of_length_eq_zero (by omega)
    subst this; rw [norm_nil] at h; cases h; exact norm_nil
  | n + 1, [], t, hn, h => by rw [norm_nil] at h; cases h; exact norm_nil
  | n + 1, c :: r, t, hn, h => by
    by_cases hc : c = 37
    · subst hc
      match r, hn, h with
      | [], hn, h => rw [norm_short (by simp)] at h; cases h
      | [_], hn, h => rw [norm_short (by simp)] at h; cases h
      | a :: b :: r', hn, h =>
        by_cases hx : hexn a < 16 ∧ hexn b < 16
        · rw [norm_code r' hx.1 hx.2] at h
          cases hr : norm r' with
          | none => rw [hr] at h; cases h
          | some q =>
            rw [hr] at h; cases h
            have ih := norm_again n r' q (by simp at hn; omega) hr
            cases hp : plainb (bt (hexn a) (hexn b)) with
            | true => rw [code_yes hp, norm_one _ (plain_ne _ hp).1, ih]; rfl
            | false =>
              have h1 := hexn_dig ⟨hexn a, hx.1⟩
              have h2 := hexn_dig ⟨hexn b, hx.2⟩
              dsimp only at h1 h2
              have h3 := code_no hp
              rw [h3]
              show norm (37 :: dig (hexn a) :: dig (hexn b) :: q) = some ([37, dig (hexn a), dig (hexn b)] ++ q)
              rw [norm_code q (by rw [h1]; exact hx.1) (by rw [h2]; exact hx.2), h1, h2, h3, ih]; rfl
        · rw [norm_bad r' hx] at h; cases h
    · rw [norm_plain r hc] at h
      cases hr : norm r with
      | none => rw [hr] at h; cases h
      | some q =>
        rw [hr] at h; cases h
        have ih := norm_again n r q (by simp at hn; omega) hr
        rw [norm_one _ hc, ih]; rfl
theorem nrm_of {l t : List UInt8} (h : norm l = some t) : Nrm t := norm_again _ l t (Nat.le_refl _) h
/-- A byte that means nothing behind a percent sign parts the text. -/
theorem norm_sep {c : UInt8} (h1 : c ≠ 37) (h2 : ¬ hexn c < 16) (r : List UInt8) : ∀ (n : Nat) (x : List UInt8), x.length ≤ n → norm (x ++ c :: r) = (norm x).bind (fun a => (norm r).map (fun b => a ++ c :: b))
  | 0, x, hn => by
    have : x = [] := List.eq_nil_of_length_eq_zero (by omega)
    subst this; rw [norm_nil, List.nil_append, norm_plain r h1]; rfl
  | n + 1, [], hn => by rw [norm_nil, List.nil_append, norm_plain r h1]; rfl
  | n + 1, d :: x, hn => by
    by_cases hd : d = 37
    · subst hd
      match x, hn with
      | [], hn =>
        rw [norm_short (r := []) (by simp)]
        cases r with
        | nil => exact norm_short (by simp)
        | cons e t => exact norm_bad t (fun h => h2 h.1)
      | [a], hn =>
        rw [norm_short (r := [a]) (by simp)]
        exact norm_bad r (fun h => h2 h.2)
      | a :: b :: x', hn =>
        by_cases hx : hexn a < 16 ∧ hexn b < 16
        · rw [norm_code x' hx.1 hx.2, show (37 :: a :: b :: x') ++ c :: r = 37 :: a :: b :: (x' ++ c :: r) from rfl, norm_code _ hx.1 hx.2, norm_sep h1 h2 r n x' (by simp at hn; omega)]
          cases norm x' with
          | none => rfl
          | some u => cases norm r with
            | none => rfl
            | some v => simp
        · rw [norm_bad x' hx, show (37 :: a :: b :: x') ++ c :: r = 37 :: a :: b :: (x' ++ c :: r) from rfl, norm_bad _ hx]; rfl
    · rw [norm_plain x hd, List.cons_append, norm_plain _ hd, norm_sep h1 h2 r n x (by simp at hn; omega)]
      cases norm x with
      | none => rfl
      | some u => cases norm r with
        | none => rfl
        | some v => simp
theorem nrm_join {c : UInt8} (h1 : c ≠ 37) (h2 : ¬ hexn c < 16) {x r : List UInt8} (hx : Nrm x) (hr : Nrm r) : Nrm (x ++ c :: r) := by
  show norm _ = _
  rw [norm_sep h1 h2 r _ x (Nat.le_refl _), hx, hr]; rfl
theorem nrm_part {c : UInt8} (h1 : c ≠ 37) (h2 : ¬ hexn c < 16) {x r : List UInt8} (h : Nrm (x ++ c :: r)) : Nrm x ∧ Nrm r := by
  have h' : norm (x ++ c :: r) = some (x ++ c :: r) := h
  rw [norm_sep h1 h2 r _ x (Nat.le_refl _)] at h'
  cases ha : norm x with
  | none => rw [ha] at h'; cases h'
  | some a =>
    cases hb : norm r with
    | none => rw [ha, hb] at h'; cases h'
    | some b =>
      rw [ha, hb] at h'
      have e : a ++ c :: b = x ++ c :: r := Option.some.inj h'
      have l1 := norm_len _ x a (Nat.le_refl _) ha
      have l2 := norm_len _ r b (Nat.le_refl _) hb
      have l3 := congrArg List.length e
      rw [List.length_append, List.length_append, List.length_cons, List.length_cons] at l3
      obtain ⟨e1, e2⟩ := List.append_inj e (by omega)
      subst e1
      cases e2
      exact ⟨ha, hb⟩

/-! texts cut at a byte -/
theorem spl_app (c : UInt8) : ∀ x r : List UInt8, Spc.spl c (x ++ c :: r) = Spc.spl c x ++ Spc.spl c r
  | [], r => by rw [List.nil_append, Spc.spl_hit r rfl]; rfl
  | d :: x, r => by
    by_cases hd : d = c
    · rw [List.cons_append, Spc.spl_hit _ hd, Spc.spl_hit _ hd, spl_app c x r]; rfl
    · rw [List.cons_append, Spc.spl_miss _ hd, Spc.spl_miss _ hd, spl_app c x r]
      cases h : Spc.spl c x with
      | nil => exact absurd h (Spc.spl_ne c x)
      | cons a b => simp [Tx.push]
theorem spl_none {c : UInt8} : ∀ {x : List UInt8}, (∀ d ∈ x, d ≠ c) → Spc.spl c x = [x]
  | [], _ => by simp [Spc.spl]
  | d :: x, h => by
    rw [Spc.spl_miss _ (h d (List.mem_cons_self ..)), spl_none (fun e he => h e (List.mem_cons_of_mem _ he))]
    rfl
theorem cut_cases (c : UInt8) : ∀ l : List UInt8, (∀ d ∈ l, d ≠ c) ∨ ∃ x r, l = x ++ c :: r ∧ ∀ d ∈ x, d ≠ c
  | [] => Or.inl (fun d hd => by cases hd)
  | a :: l => by
    by_cases ha : a = c
    · exact Or.inr ⟨[], l, by rw [ha]; rfl, fun d hd => by cases hd⟩
    · rcases cut_cases c l with h | ⟨x, r, e, h⟩
      · exact Or.inl (fun d hd => by rcases List.mem_cons.1 hd with e | hd; rw [e]; exact ha; exact h d hd)
      · exact Or.inr ⟨a :: x, r, by rw [e]; rfl, fun d hd => by rcases List.mem_cons.1 hd with e | hd; rw [e]; exact ha; exact h d hd⟩
theorem spl_free {c : UInt8} {p : UInt8 → Prop} : ∀ (n : Nat) (l : List UInt8), l.length ≤ n → (∀ d ∈ l, p d) → ∀ x ∈ Spc.spl c l, ∀ d ∈ x, d ≠ c ∧ p d
  | 0, l, hn, hp, x, hx, d, hd => by
    have : l = [] := List.eq_nil_of_length_eq_zero (by omega)
    subst this
    rw [show Spc.spl c [] = [[]] by simp [Spc.spl]] at hx
    rw [List.mem_singleton] at hx; subst hx; cases hd
  | n + 1, l, hn, hp, x, hx, d, hd => by
    rcases cut_cases c l with h | ⟨a, r, e, h⟩
    · rw [spl_none h, List.mem_singleton] at hx; subst hx; exact ⟨h d hd, hp d hd⟩
    · subst e
      rw [spl_app, spl_none h] at hx
      rcases List.mem_append.1 hx with hx | hx
      · rw [List.mem_singleton] at hx; subst hx; exact ⟨h d hd, hp d (List.mem_append_left _ hd)⟩
      · exact spl_free n r (by simp at hn; omega) (fun d hd => hp d (List.mem_append_right _ (List.mem_cons_of_mem _ hd))) x hx d hd
theorem spl_nrm {c : UInt8} (h1 : c ≠ 37) (h2 : ¬ hexn c < 16) : ∀ (n : Nat) (l : List UInt8), l.length ≤ n → Nrm l → ∀ x ∈ Spc.spl c l, Nrm x
  | 0, l, hn, hl, x, hx => by
    have : l = [] := List.eq_nil_of_length_eq_zero (by omega)
    subst this
    rw [show Spc.spl c [] = [[]] by simp [Spc.spl]] at hx
    rw [List.mem_singleton] at hx; subst hx; exact norm_nil
  | n + 1, l, hn, hl, x, hx => by
    rcases cut_cases c l with h | ⟨a, r, e, h⟩
    · rw [spl_none h, List.mem_singleton] at hx; subst hx; exact hl
    · subst e
      obtain ⟨ha, hr⟩ := nrm_part h1 h2 hl
      rw [spl_app, spl_none h] at hx
      rcases List.mem_append.1 hx with hx | hx
      · rw [List.mem_singleton] at hx; subst hx; exact ha
      · exact spl_nrm h1 h2 n r (by simp at hn; omega) hr x hx
theorem join_two (c : UInt8) (x y : List UInt8) (ys : List (List UInt8)) : Lib.join (x :: y :: ys) [c] = x ++ c :: Lib.join (y :: ys) [c] := by
  simp [Lib.join]
theorem spl_join {c : UInt8} : ∀ {xs : List (List UInt8)}, xs ≠ [] → (∀ x ∈ xs, ∀ d ∈ x, d ≠ c) → Spc.spl c (Lib.join xs [c]) = xs
  | [], h, _ => absurd rfl h
  | [x], _, h => by rw [Lib.join_one]; exact spl_none (h x (List.mem_cons_self ..))
  | x :: y :: ys, _, h => by
    rw [join_two, spl_app, spl_none (h x (List.mem_cons_self ..)), spl_join (by simp) (fun z hz => h z (List.mem_cons_of_mem _ hz))]; rfl
theorem join_nrm {c : UInt8} (h1 : c ≠ 37) (h2 : ¬ hexn c < 16) : ∀ {xs : List (List UInt8)}, (∀ x ∈ xs, Nrm x) → Nrm (Lib.join xs [c])
  | [], _ => norm_nil
  | [x], h => by rw [Lib.join_one]; exact h x (List.mem_cons_self ..)
  | x :: y :: ys, h => by
    rw [join_two]; exact nrm_join h1 h2 (h x (List.mem_cons_self ..)) (join_nrm h1 h2 (fun z hz => h z (List.mem_cons_of_mem _ hz)))
theorem join_bytes {c : UInt8} {p : UInt8 → Prop} (hc : p c) : ∀ {xs : List (List UInt8)}, (∀ x ∈ xs, ∀ d ∈ x, p d) → ∀ d ∈ Lib.join xs [c], p d
  | [], _, d, hd => by cases hd
  | [x], h, d, hd => by rw [Lib.join_one] at hd; exact h x (List.mem_cons_self ..) d hd
  | x :: y :: ys, h, d, hd => by
    rw [join_two] at hd
    rcases List.mem_append.1 hd with hd | hd
    · exact h x (List.mem_cons_self ..) d hd
    · rcases List.mem_cons.1 hd with e | hd
      · rw [e]; exact hc
      · exact join_bytes hc (fun z hz => h z (List.mem_cons_of_mem _ hz)) d hd

/-! paths -/
theorem kf_mem : ∀ (l k : List (List UInt8)), (∀ x ∈ k, isdot x = false) → ∀ x ∈ l.foldl kstep k, isdot x = false ∧ (x ∈ k ∨ x ∈ l)
  | [], k, hk, x, hx => ⟨hk x hx, Or.inl hx⟩
  | a :: l, k, hk, x, hx => by
    rw [List.foldl_cons] at hx
    have hk' : ∀ x ∈ kstep k a, isdot x = false ∧ (x ∈ k ∨ x = a) := by
      intro x hx
      by_cases h1 : a = [46]
      · rw [h1, kstep_dot] at hx; exact ⟨hk x hx, Or.inl hx⟩
      · by_cases h2 : a = [46, 46]
        · rw [h2, kstep_two] at hx
          have := (List.dropLast_sublist k).subset hx
          exact ⟨hk x this, Or.inl this⟩
        · rw [kstep_other h1 h2] at hx
          rcases List.mem_append.1 hx with hx | hx
          · exact ⟨hk x hx, Or.inl hx⟩
          · rw [List.mem_singleton] at hx; subst hx; exact ⟨isdot_no h1 h2, Or.inr rfl⟩
    obtain ⟨h1, h2⟩ := kf_mem l (kstep k a) (fun x hx => (hk' x hx).1) x hx
    refine ⟨h1, ?_⟩
    rcases h2 with h2 | h2
    · rcases (hk' x h2).2 with h3 | h3
      · exact Or.inl h3
      · exact Or.inr (by rw [h3]; exact List.mem_cons_self ..)
    · exact Or.inr (List.mem_cons_of_mem _ h2)
theorem fin_mem {l : List (List UInt8)} : ∀ x ∈ fin l, isdot x = false ∧ (x = [] ∨ x ∈ l) := by
  intro x hx
  unfold fin at hx
  have hk : ∀ x ∈ kf l, isdot x = false ∧ (x = [] ∨ x ∈ l) := fun x hx => by
    obtain ⟨h1, h2⟩ := kf_mem l [] (fun x hx => by cases hx) x hx
    rcases h2 with h2 | h2
    · cases h2
    · exact ⟨h1, Or.inr h2⟩
  split at hx
  · rcases List.mem_append.1 hx with hx | hx
    · exact hk x hx
    · rw [List.mem_singleton] at hx; subst hx; exact ⟨rfl, Or.inl rfl⟩
  · exact hk x hx
theorem kf_same : ∀ (l k : List (List UInt8)), (∀ x ∈ l, isdot x = false) → l.foldl kstep k = k ++ l
  | [], k, _ => by simp
  | a :: l, k, h => by
    have ha := h a (List.mem_cons_self ..)
    have h1 : a ≠ [46] := fun e => by subst e; exact absurd ha (by decide)
    have h2 : a ≠ [46, 46] := fun e => by subst e; exact absurd ha (by decide)
    rw [List.foldl_cons, kstep_other h1 h2, kf_same l _ (fun x hx => h x (List.mem_cons_of_mem _ hx))]; simp
theorem fin_same {l : List (List UInt8)} (h : ∀ x ∈ l, isdot x = false) : fin l = l := by
  unfold fin
  have h1 : kf l = l := by unfold kf; rw [kf_same l [] h]; rfl
  rw [h1, if_neg]
  intro hd
  by_cases h0 : l.length = 0
  · rw [List.eq_nil_of_length_eq_zero h0] at hd; exact absurd hd (by decide)
  · have : l.getD (l.length - 1) [] ∈ l := by
      rw [show l.getD (l.length - 1) [] = l[l.length - 1]'(by omega) by simp [List.getD, show l.length - 1 < l.length by omega]]
      exact List.getElem_mem _
    rw [h _ this] at hd; cases hd
theorem snoc_of {l : List (List UInt8)} (h : l ≠ []) : ∃ d p, l = d ++ [p] := by
  rcases List.eq_nil_or_concat l with e | ⟨a, x, e⟩
  · exact absurd e h
  · exact ⟨a, x, by rw [e, List.concat_eq_append]⟩
theorem ws_fin2 {l : List (List UInt8)} (h : l ≠ []) : ws (fin l) ≤ ws l := by
  obtain ⟨d, p, rfl⟩ := snoc_of h
  have hk := ws_kf d d.length (Nat.le_refl _)
  rw [List.take_length] at hk
  rw [fin_snoc]
  split
  · rename_i hp
    have h1 : ws (kstep (kf d) p) ≤ ws (kf d) := by
      unfold isdot at hp
      rw [Bool.or_eq_true, beq_iff_eq, beq_iff_eq] at hp
      rcases hp with e | e
      · rw [e, kstep_dot]; exact Nat.le_refl _
      · rw [e, kstep_two]; exact ws_drop _
    rw [ws_app, ws_one, ws_app, ws_one]; simp; omega
  · have := ws_kstep (kf d) p
    rw [ws_app]; omega
theorem fin_ne2 {l : List (List UInt8)} (h : l ≠ []) : fin l ≠ [] := by
  obtain ⟨d, p, rfl⟩ := snoc_of h
  exact fin_ne d p
theorem path_form {p : List UInt8} (h : [47].isPrefixOf p = true) : ∃ q, p = 47 :: q := by
  cases p with
  | nil => simp at h
  | cons a q => simp at h; exact ⟨q, by rw [← h]⟩
theorem pathd_cons (q : List UInt8) : pathd (47 :: q) = 47 :: Lib.join (fin (Spc.spl 47 q)) [47] := by
  show slash (fin (Spc.spl 47 ((47 :: q).drop 1))) = _
  rw [List.drop_one, List.tail_cons, slash_join _ (fin_ne2 (Spc.spl_ne 47 q))]
theorem fin_free {q : List UInt8} {p : UInt8 → Prop} (hp : ∀ d ∈ q, p d) : ∀ x ∈ fin (Spc.spl 47 q), ∀ d ∈ x, d ≠ 47 ∧ p d := by
  intro x hx d hd
  rcases (fin_mem x hx).2 with e | h
  · subst e; cases hd
  · exact spl_free _ q (Nat.le_refl _) hp x h d hd
theorem fin_nrm {q : List UInt8} (hq : Nrm q) : ∀ x ∈ fin (Spc.spl 47 q), Nrm x := by
  intro x hx
  rcases (fin_mem x hx).2 with e | h
  · subst e; exact norm_nil
  · exact spl_nrm (by decide) (by decide) _ q (Nat.le_refl _) hq x h
theorem pathd_ok {p : List UInt8} (h : [47].isPrefixOf p = true) (hn : Nrm p) : Nrm (pathd p) ∧ pathd (pathd p) = pathd p ∧ (pathd p).length ≤ p.length ∧ [47].isPrefixOf (pathd p) = true ∧ ∀ q : UInt8 → Prop, (∀ d ∈ p, q d) → ∀ d ∈ pathd p, q d := by
  obtain ⟨q, rfl⟩ := path_form h
  have hq : Nrm q := (nrm_part (c := 47) (x := []) (by decide) (by decide) hn).2
  rw [pathd_cons]
  refine ⟨nrm_join (c := 47) (x := []) (by decide) (by decide) norm_nil (join_nrm (by decide) (by decide) (fin_nrm hq)), ?_, ?_, rfl, ?_⟩
  · rw [pathd_cons, spl_join (fin_ne2 (Spc.spl_ne 47 q)) (fun x hx d hd => (fin_free (p := fun _ => True) (fun _ _ => trivial) x hx d hd).1), fin_same (fun x hx => (fin_mem x hx).1)]
  · have h1 := ws_fin2 (Spc.spl_ne 47 q)
    rw [ws_spl] at h1
    unfold ws at h1
    rw [slash_join _ (fin_ne2 (Spc.spl_ne 47 q))] at h1
    simpa using h1
  · intro r hr d hd
    rcases List.mem_cons.1 hd with e | hd
    · rw [e]; exact hr 47 (List.mem_cons_self ..)
    · exact join_bytes (hr 47 (List.mem_cons_self ..)) (fun x hx d hd => (fin_free (fun d hd => hr d (List.mem_cons_of_mem _ hd)) x hx d hd).2) d hd

/-! queries -/
theorem qpart_mem {q x : List UInt8} (h : x ∈ qsort (qparts (Spc.spl 38 q))) : x ≠ [] ∧ x ∈ Spc.spl 38 q := by
  unfold qsort qparts at h
  have := List.mem_mergeSort.1 h
  have := List.mem_filter.1 this
  exact ⟨by simpa using this.2, this.1⟩
theorem query_nil : query [] = [] := by unfold query qsort qparts; simp [Spc.spl, Lib.join]
theorem query_again (q : List UInt8) : query (query q) = query q := by
  by_cases h0 : qsort (qparts (Spc.spl 38 q)) = []
  · have e : query q = [] := by unfold query; rw [h0]; rfl
    rw [e, query_nil]
  · have hs : Spc.spl 38 (query q) = qsort (qparts (Spc.spl 38 q)) := spl_join h0 (fun x hx d hd => (spl_free (p := fun _ => True) _ q (Nat.le_refl _) (fun _ _ => trivial) x (qpart_mem hx).2 d hd).1)
    have hp : qparts (qsort (qparts (Spc.spl 38 q))) = qsort (qparts (Spc.spl 38 q)) := by
      conv => lhs; unfold qparts
      exact List.filter_eq_self.2 (fun x hx => by simpa using (qpart_mem hx).1)
    have e : query (query q) = Lib.join (qsort (qparts (Spc.spl 38 (query q)))) [38] := rfl
    have e3 : qsort (qsort (qparts (Spc.spl 38 q))) = qsort (qparts (Spc.spl 38 q)) := sorted_uniq (List.mergeSort_perm _ _) (sorted_qsort _) (sorted_qsort _)
    rw [e, hs, hp, e3]; rfl
theorem query_nrm {q : List UInt8} (h : Nrm q) : Nrm (query q) :=
  join_nrm (by decide) (by decide) (fun x hx => spl_nrm (by decide) (by decide) _ q (Nat.le_refl _) h x (qpart_mem hx).2)
theorem query_swap (a b : List UInt8) : query (b ++ 38 :: a) = query (a ++ 38 :: b) := by
  unfold query
  have hp : (qparts (Spc.spl 38 (b ++ 38 :: a))).Perm (qparts (Spc.spl 38 (a ++ 38 :: b))) := by
    rw [spl_app, spl_app]; unfold qparts; exact List.perm_append_comm.filter _
  rw [show qsort (qparts (Spc.spl 38 (b ++ 38 :: a))) = qsort (qparts (Spc.spl 38 (a ++ 38 :: b))) from sorted_uniq ((List.mergeSort_perm _ _).trans (hp.trans (List.mergeSort_perm _ _).symm)) (sorted_qsort _) (sorted_qsort _)]
theorem join_ws1 (s : UInt8) : ∀ xs : List (List UInt8), xs ≠ [] → (Lib.join xs [s]).length + 1 = ws xs
  | [], h => absurd rfl h
  | [x], _ => by rw [Lib.join_one, ws_one]
  | x :: y :: ys, _ => by
    have ih := join_ws1 s (y :: ys) (by simp)
    rw [join_two, show x :: y :: ys = [x] ++ (y :: ys) from rfl, ws_app, ws_one, List.length_append, List.length_cons]; omega
theorem query_short (q : List UInt8) : (query q).length ≤ q.length := by
  by_cases h0 : qsort (qparts (Spc.spl 38 q)) = []
  · unfold query; rw [h0]; exact Nat.zero_le _
  · have h1 := join_ws1 38 _ h0
    have h2 := ws_qparts (Spc.spl 38 q)
    rw [ws_qsort] at h1
    rw [ws_spl] at h2
    show (Lib.join _ [38]).length ≤ _
    omega
theorem query_bytes {q : List UInt8} {p : UInt8 → Prop} (hc : p 38) (h : ∀ d ∈ q, p d) : ∀ d ∈ query q, p d :=
  join_bytes hc (fun x hx d hd => (spl_free _ q (Nat.le_refl _) h x (qpart_mem hx).2 d hd).2)

/-! bytes of what is in its one way -/
theorem norm_bytes {p : UInt8 → Prop} (hp : ∀ b, plainb b = true → p b) (h37 : p 37) (hd : ∀ n : Fin 16, p (dig n.1)) : ∀ (n : Nat) (l t : List UInt8), l.length ≤ n → norm l = some t → (∀ d ∈ l, p d) → ∀ d ∈ t, p d
  | 0, l, t, hn, h, _, d, hm => by
    have : l = [] := List.eq_nil_of_length_eq_zero (by omega)
    subst this; rw [norm_nil] at h; cases h; cases hm
  | n + 1, [], t, hn, h, _, d, hm => by rw [norm_nil] at h; cases h; cases hm
  | n + 1, c :: r, t, hn, h, hl, d, hm => by
    by_cases hc : c = 37
    · subst hc
      match r, hn, h, hl with
      | [], hn, h, _ => rw [norm_short (by simp)] at h; cases h
      | [_], hn, h, _ => rw [norm_short (by simp)] at h; cases h
      | a :: b :: r', hn, h, hl =>
        by_cases hx : hexn a < 16 ∧ hexn b < 16
        · rw [norm_code r' hx.1 hx.2] at h
          cases hr : norm r' with
          | none => rw [hr] at h; cases h
          | some q =>
            rw [hr] at h; cases h
            rcases List.mem_append.1 hm with hm | hm
            · cases hpb : plainb (bt (hexn a) (hexn b)) with
              | true => rw [code_yes hpb, List.mem_singleton] at hm; subst hm; exact hp _ hpb
              | false =>
                rw [code_no hpb] at hm
                simp only [List.mem_cons, List.not_mem_nil, or_false] at hm
                rcases hm with e | e | e
                · rw [e]; exact h37
                · rw [e]; exact hd ⟨hexn a, hx.1⟩
                · rw [e]; exact hd ⟨hexn b, hx.2⟩
            · exact norm_bytes hp h37 hd n r' q (by simp at hn; omega) hr (fun d hd => hl d (by simp [hd])) d hm
        · rw [norm_bad r' hx] at h; cases h
    · rw [norm_plain r hc] at h
      cases hr : norm r with
      | none => rw [hr] at h; cases h
      | some q =>
        rw [hr] at h; cases h
        rcases List.mem_append.1 hm with hm | hm
        · rw [List.mem_singleton] at hm; subst hm; exact hl _ (List.mem_cons_self ..)
        · exact norm_bytes hp h37 hd n r q (by simp at hn; omega) hr (fun d hd => hl d (List.mem_cons_of_mem _ hd)) d hm

/-! targets -/
theorem normp_yes {l : List UInt8} (h : (normp l).2 = true) : norm l = some (normp l).1 := by
  cases hn : norm l with
  | none => rw [normp_none hn] at h; cases h
  | some t => rw [normp_some hn]
theorem cut_no {c : UInt8} {x : List UInt8} (h : ∀ d ∈ x, d ≠ c) : Tx.cutAt c x = (x, [], false) := by
  have hi : Tx.idx c x = x.length := Tx.idx_eq (Nat.le_refl _) (fun j hj _ => h _ (List.getElem_mem _)) (fun h => absurd h (Nat.lt_irrefl _))
  unfold Tx.cutAt; rw [hi, if_neg (Nat.lt_irrefl _)]
theorem cut_yes {c : UInt8} {x : List UInt8} (r : List UInt8) (h : ∀ d ∈ x, d ≠ c) : Tx.cutAt c (x ++ c :: r) = (x, r, true) := by
  have hi : Tx.idx c (x ++ c :: r) = x.length := by
    refine Tx.idx_eq (by simp) (fun j hj hlt => ?_) (fun h => ?_)
    · rw [List.getElem_append_left hlt]; exact h _ (List.getElem_mem _)
    · simp
  unfold Tx.cutAt
  rw [hi, if_pos (by simp)]
  simp
theorem cut_free (c : UInt8) (l : List UInt8) : ∀ d ∈ (Tx.cutAt c l).1, d ≠ c := by
  rcases cut_cases c l with h | ⟨x, r, e, h⟩
  · rw [cut_no h]; exact h
  · rw [e, cut_yes r h]; exact h
theorem cut_sub (c : UInt8) (l : List UInt8) {p : UInt8 → Prop} (hp : ∀ d ∈ l, p d) : (∀ d ∈ (Tx.cutAt c l).1, p d) ∧ ∀ d ∈ (Tx.cutAt c l).2.1, p d := by
  rcases cut_cases c l with h | ⟨x, r, e, h⟩
  · rw [cut_no h]; exact ⟨hp, fun d hd => by cases hd⟩
  · rw [e, cut_yes r h]
    exact ⟨fun d hd => hp d (by rw [e]; exact List.mem_append_left _ hd), fun d hd => hp d (by rw [e]; exact List.mem_append_right _ (List.mem_cons_of_mem _ hd))⟩
theorem cut_total (c : UInt8) (l : List UInt8) : (Tx.cutAt c l).1.length + (if (Tx.cutAt c l).2.1 = [] then 0 else (Tx.cutAt c l).2.1.length + 1) ≤ l.length := by
  rcases cut_cases c l with h | ⟨x, r, e, h⟩
  · rw [cut_no h]; simp
  · rw [e, cut_yes r h]
    split
    · simp
    · simp
def mk (p q : List UInt8) : List UInt8 := if q = [] then p else p ++ [63] ++ q
theorem ntar_eq (l : List UInt8) : ntar l = if (normp (Tx.cutAt 63 l).1).2 = true ∧ (normp (Tx.cutAt 63 l).2.1).2 = true ∧ [47].isPrefixOf (normp (Tx.cutAt 63 l).1).1 = true then (mk (pathd (normp (Tx.cutAt 63 l).1).1) (query (normp (Tx.cutAt 63 l).2.1).1), true) else ([], false) := rfl
theorem mk_cut {p q : List UInt8} (h : ∀ d ∈ p, d ≠ 63) : (Tx.cutAt 63 (mk p q)).1 = p ∧ (Tx.cutAt 63 (mk p q)).2.1 = q := by
  unfold mk
  split
  · rename_i e; rw [cut_no h, e]; exact ⟨rfl, rfl⟩
  · rw [show p ++ [63] ++ q = p ++ 63 :: q by simp, cut_yes q h]; exact ⟨rfl, rfl⟩
structure Good (l : List UInt8) where
  p : List UInt8
  q : List UInt8
  hp : norm (Tx.cutAt 63 l).1 = some p
  hq : norm (Tx.cutAt 63 l).2.1 = some q
  h47 : [47].isPrefixOf p = true
  out : ntar l = (mk (pathd p) (query q), true)
theorem good_of {l : List UInt8} (h : (ntar l).2 = true) : Nonempty (Good l) := by
  rw [ntar_eq] at h
  split at h
  · rename_i hh
    exact ⟨⟨_, _, normp_yes hh.1, normp_yes hh.2.1, hh.2.2, by rw [ntar_eq, if_pos hh]⟩⟩
  · cases h
theorem ntar_mk {p q : List UInt8} (hp : Nrm p) (hq : Nrm q) (h47 : [47].isPrefixOf p = true) (h63 : ∀ d ∈ p, d ≠ 63) : ntar (mk p q) = (mk (pathd p) (query q), true) := by
  rw [ntar_eq, (mk_cut h63).1, (mk_cut h63).2, normp_some hp, normp_some hq, if_pos ⟨rfl, rfl, h47⟩]
theorem good_63 {l : List UInt8} (g : Good l) : ∀ d ∈ pathd g.p, d ≠ 63 :=
  (pathd_ok g.h47 (nrm_of g.hp)).2.2.2.2 (fun d => d ≠ 63) (norm_bytes (p := fun d => d ≠ 63) (fun b hb => (plain_ne b hb).2.1) (by decide) (fun n => (dig_ne n).2.1) _ _ _ (Nat.le_refl _) g.hp (cut_free 63 l))
/-- A target in its one way stays as it is. -/
theorem ntar_again {l : List UInt8} (h : (ntar l).2 = true) : ntar (ntar l).1 = ((ntar l).1, true) := by
  obtain ⟨g⟩ := good_of h
  obtain ⟨h1, h2, h3, h4, _⟩ := pathd_ok g.h47 (nrm_of g.hp)
  rw [g.out]
  show ntar (mk _ _) = _
  rw [ntar_mk h1 (query_nrm (nrm_of g.hq)) h4 (good_63 g), h2, query_again]
theorem ntar_head {l : List UInt8} (h : (ntar l).2 = true) : ∃ r, (ntar l).1 = 47 :: r := by
  obtain ⟨g⟩ := good_of h
  obtain ⟨_, _, _, h4, _⟩ := pathd_ok g.h47 (nrm_of g.hp)
  obtain ⟨q, e⟩ := path_form h4
  rw [g.out]
  show ∃ r, mk (pathd g.p) (query g.q) = 47 :: r
  rw [e]; unfold mk; split
  · exact ⟨_, rfl⟩
  · exact ⟨_, rfl⟩
theorem ntar_no {l : List UInt8} (h : (ntar l).2 = false) : ntar l = ([], false) := by
  rw [ntar_eq] at h ⊢
  split at h
  · cases h
  · rename_i hh; rw [if_neg hh]
/-- The order of a query does not matter. -/
theorem ntar_turn {p a b : List UInt8} (hp : ∀ d ∈ p, d ≠ 63) : ntar (p ++ 63 :: (b ++ 38 :: a)) = ntar (p ++ 63 :: (a ++ 38 :: b)) := by
  rw [ntar_eq, ntar_eq, cut_yes _ hp, cut_yes _ hp]
  dsimp only
  have key : ∀ x y : List UInt8, norm (x ++ 38 :: y) = (norm x).bind (fun u => (norm y).map (fun v => u ++ 38 :: v)) := fun x y => norm_sep (by decide) (by decide) y _ x (Nat.le_refl _)
  have h1 := key a b
  have h2 := key b a
  cases ha : norm a with
  | none =>
    rw [ha] at h1 h2
    have e2 : norm (b ++ 38 :: a) = none := by rw [h2]; cases norm b <;> rfl
    rw [normp_none h1, normp_none e2]
  | some u =>
    cases hb : norm b with
    | none =>
      rw [ha, hb] at h1 h2
      rw [normp_none h1, normp_none h2]
    | some v =>
      rw [ha, hb] at h1 h2
      rw [normp_some h1, normp_some h2, query_swap]
/-- A target that a request may have is one in its one way, too. -/
theorem targ_ntar {l : List UInt8} (h : (ntar l).2 = true) (ht : Msg.targOk l = true) : Msg.targOk (ntar l).1 = true := by
  obtain ⟨r, hr⟩ := ntar_head h
  obtain ⟨g⟩ := good_of h
  obtain ⟨_, _, h3, _, h5⟩ := pathd_ok g.h47 (nrm_of g.hp)
  unfold Msg.targOk at ht ⊢
  simp only [Bool.and_eq_true, List.all_eq_true, decide_eq_true_eq] at ht ⊢
  obtain ⟨hb, ⟨hl1, hl2⟩, _⟩ := ht
  have hc := cut_sub 63 l hb
  have nb := fun {x t : List UInt8} (hn : norm x = some t) hx => norm_bytes (p := fun d => Msg.tb d = true) (fun b hb => (plain_ne b hb).2.2.2) (by decide) (fun n => (dig_ne n).2.2.2.2) _ x t (Nat.le_refl _) hn hx
  have bp := h5 (fun d => Msg.tb d = true) (nb g.hp hc.1)
  have bq := query_bytes (p := fun d => Msg.tb d = true) (by decide) (nb g.hq hc.2)
  have hlen : (mk (pathd g.p) (query g.q)).length ≤ l.length := by
    have c1 := cut_total 63 l
    have c2 := norm_len _ _ _ (Nat.le_refl _) g.hp
    have c3 := norm_len _ _ _ (Nat.le_refl _) g.hq
    have c4 := query_short g.q
    unfold mk
    split
    · split at c1 <;> omega
    · rename_i hne
      rw [if_neg (fun e => hne (by rw [e] at c3; have : g.q = [] := List.eq_nil_of_length_eq_zero (by simpa using c3); rw [this, query_nil]))] at c1
      simp only [List.length_append, List.length_cons, List.length_nil]; omega
  refine ⟨?_, ⟨by rw [hr]; simp, by rw [g.out]; exact Nat.le_trans hlen hl2⟩, by rw [hr]; rfl⟩
  rw [g.out]
  show ∀ d ∈ mk _ _, _
  unfold mk
  intro d hd
  split at hd
  · exact bp d hd
  · rcases List.mem_append.1 hd with hd | hd
    · rcases List.mem_append.1 hd with hd | hd
      · exact bp d hd
      · rw [List.mem_singleton] at hd; subst hd; decide
    · exact bq d hd
end Go.Proofs.YtegaakgmfphcaaaGreatDoor.Nt

/-
  CONTRACT of the model's l12Hex; the world stays as it was.
-/
namespace Go.Proofs.YtegaakgmfphcaaaGreatDoor.Nt
open Go Go.RowKit
set_option linter.unusedVariables false
set_option maxRecDepth 1000000

theorem ret_i {a b : Int} (h : a = b) : Ending.returned (.int .i64 a) = .returned (.int .i64 b) := by rw [h]
theorem byte_bd (c : UInt8) : 0 ≤ (c.toNat : Int) ∧ (c.toNat : Int) ≤ 255 := by have := c.toNat_lt; omega

set_option maxHeartbeats 1000000 in
theorem spec_hex (c : UInt8) (w : World) : Calls Tryz.prog 63 #[.int .u8 (c.toNat : Int)] w fun e w' => e = .returned (.int .i64 (hexi c)) ∧ w = w' := by
  have hb := byte_bd c
  have H1 : Hid ((48 ≤ (c.toNat : Int) ∧ (c.toNat : Int) ≤ 57) → hexi c = (c.toNat : Int) - 48) := Lib.hid (fun h => by unfold hexi hexn; rw [if_pos (by omega : 48 ≤ c.toNat ∧ c.toNat ≤ 57), if_pos (by omega)]; omega)
  have H2 : Hid (¬ (48 ≤ (c.toNat : Int) ∧ (c.toNat : Int) ≤ 57) → (97 ≤ (c.toNat : Int) ∧ (c.toNat : Int) ≤ 102) → hexi c = (c.toNat : Int) - 97 + 10) := Lib.hid (fun h h2 => by unfold hexi hexn; rw [if_neg (by omega : ¬ (48 ≤ c.toNat ∧ c.toNat ≤ 57)), if_pos (by omega : 97 ≤ c.toNat ∧ c.toNat ≤ 102), if_pos (by omega)]; omega)
  have H3 : Hid (¬ (48 ≤ (c.toNat : Int) ∧ (c.toNat : Int) ≤ 57) → ¬ (97 ≤ (c.toNat : Int) ∧ (c.toNat : Int) ≤ 102) → (65 ≤ (c.toNat : Int) ∧ (c.toNat : Int) ≤ 70) → hexi c = (c.toNat : Int) - 65 + 10) := Lib.hid (fun h h2 h3 => by unfold hexi hexn; rw [if_neg (by omega : ¬ (48 ≤ c.toNat ∧ c.toNat ≤ 57)), if_neg (by omega : ¬ (97 ≤ c.toNat ∧ c.toNat ≤ 102)), if_pos (by omega : 65 ≤ c.toNat ∧ c.toNat ≤ 70), if_pos (by omega)]; omega)
  have H4 : Hid (¬ (48 ≤ (c.toNat : Int) ∧ (c.toNat : Int) ≤ 57) → ¬ (97 ≤ (c.toNat : Int) ∧ (c.toNat : Int) ≤ 102) → ¬ (65 ≤ (c.toNat : Int) ∧ (c.toNat : Int) ≤ 70) → hexi c = -1) := Lib.hid (fun h h2 h3 => by unfold hexi hexn; rw [if_neg (by omega : ¬ (48 ≤ c.toNat ∧ c.toNat ≤ 57)), if_neg (by omega : ¬ (97 ≤ c.toNat ∧ c.toNat ≤ 102)), if_neg (by omega : ¬ (65 ≤ c.toNat ∧ c.toNat ≤ 70)), if_neg (by omega)])
  generalize hexi c = z at H1 H2 H3 H4 ⊢
  generalize (c.toNat : Int) = n at H1 H2 H3 H4 hb ⊢
  obtain ⟨hb1, hb2⟩ := hb
  by_cases h1 : 48 ≤ n ∧ n ≤ 57
  · have HE := Lib.hid (H1.out h1)
    obtain ⟨p1, p2⟩ := h1
    clear H1 H2 H3 H4
    go_enter Tryz.func63, Tryz.ntmps63
    go_wp2_with (go_at_call 86; refine (NumDiv.in_yes _ _ _ _ p1 p2).mono ?_; rintro e w' ⟨rfl, rfl⟩)
    go_ret
    exact ⟨ret_i HE.out.symm, rfl⟩
  have N1 : Hid (n < 48 ∨ 57 < n) := Lib.hid (by omega)
  by_cases h2 : 97 ≤ n ∧ n ≤ 102
  · have HE := Lib.hid (H2.out h1 h2)
    obtain ⟨p1, p2⟩ := h2
    clear H1 H2 H3 H4 h1
    go_enter Tryz.func63, Tryz.ntmps63
    go_wp2_with (fail)
    go_at_call 86
    refine (NumDiv.in_no _ _ _ _ N1.out).mono ?_
    rintro e w' ⟨rfl, rfl⟩
    go_wp2_with (fail)
    go_at_call 86
    refine (NumDiv.in_yes _ _ _ _ p1 p2).mono ?_
    rintro e w' ⟨rfl, rfl⟩
    go_wp2
    go_ret
    exact ⟨ret_i HE.out.symm, rfl⟩
  have N2 : Hid (n < 97 ∨ 102 < n) := Lib.hid (by omega)
  by_cases h3 : 65 ≤ n ∧ n ≤ 70
  · have HE := Lib.hid (H3.out h1 h2 h3)
    obtain ⟨p1, p2⟩ := h3
    clear H1 H2 H3 H4 h1 h2
    go_enter Tryz.func63, Tryz.ntmps63
    go_wp2_with (fail)
    go_at_call 86
    refine (NumDiv.in_no _ _ _ _ N1.out).mono ?_
    rintro e w' ⟨rfl, rfl⟩
    go_wp2_with (fail)
    go_at_call 86
    refine (NumDiv.in_no _ _ _ _ N2.out).mono ?_
    rintro e w' ⟨rfl, rfl⟩
    go_wp2_with (fail)
    go_at_call 86
    refine (NumDiv.in_yes _ _ _ _ p1 p2).mono ?_
    rintro e w' ⟨rfl, rfl⟩
    go_wp2
    go_ret
    exact ⟨ret_i HE.out.symm, rfl⟩
  have N3 : Hid (n < 65 ∨ 70 < n) := Lib.hid (by omega)
  have HE := Lib.hid (H4.out h1 h2 h3)
  clear H1 H2 H3 H4 h1 h2 h3
  go_enter Tryz.func63, Tryz.ntmps63
  go_wp2_with (fail)
  go_at_call 86
  refine (NumDiv.in_no _ _ _ _ N1.out).mono ?_
  rintro e w' ⟨rfl, rfl⟩
  go_wp2_with (fail)
  go_at_call 86
  refine (NumDiv.in_no _ _ _ _ N2.out).mono ?_
  rintro e w' ⟨rfl, rfl⟩
  go_wp2_with (fail)
  go_at_call 86
  refine (NumDiv.in_no _ _ _ _ N3.out).mono ?_
  rintro e w' ⟨rfl, rfl⟩
  go_wp2
  go_ret
  exact ⟨ret_i HE.out.symm, rfl⟩
end Go.Proofs.YtegaakgmfphcaaaGreatDoor.Nt

/-
  A REGION THAT DRAWS ITS ORDER, ALSO ONE WITH CALLS THAT MAKE MEMORY: one walk, in the order of the text, in whatever world of a class S that each call keeps.
-/
namespace Go.Proofs.YtegaakgmfphcaaaGreatDoor.RegS
open Go Go.RowKit
set_option linter.unusedVariables false
set_option maxRecDepth 1000000

/-- A world of the class. -/
structure In (S : World → Prop) where
  w : World
  h : S w
theorem region {P : Program} {id : Nat} {Q : Exit → Act → World → Prop} {a : Act} {w : World} {l : List Oper} (S : World → Prop) (hm : P.follows .mixedOrders = true) (hB : Region.lexB .any l.toArray = true) (hS : S w.drew)
    (h : wpQuiet P l.toArray (fun w' => ∃ u : In S, w' = u.w) (fun a' => ∀ w', (∃ u : In S, w' = u.w) → Q .normal a' w') l a) : (Code.region id l.toArray true).wp P Q a w :=
  wp_region_quiet (C := fun w' => ∃ u : In S, w' = u.w) hm hB ⟨⟨w.drew, hS⟩, rfl⟩ (by simpa using h)
theorem call {P : Program} {f : FuncId} {args : Array Value} {S : World → Prop} {u : In S} {v : Value} {E : Ending → World → Prop}
    (h : Calls P f args u.w E) (hE : ∀ e w', E e w' → e = .returned v ∧ S w') : Calls P f args u.w fun e w'' => e = .returned v ∧ ∃ m : In S, w'' = m.w :=
  h.mono fun e w' he => ⟨(hE e w' he).1, ⟨w', (hE e w' he).2⟩, rfl⟩
end Go.Proofs.YtegaakgmfphcaaaGreatDoor.RegS
