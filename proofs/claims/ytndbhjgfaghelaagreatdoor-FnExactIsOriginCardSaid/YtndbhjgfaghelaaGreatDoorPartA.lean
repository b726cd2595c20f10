/-
  CONTRACTS AND PLAIN FACTS, several texts in one; each says in its own words what it proves.
-/
import Derived.Test.YtndbhjgfaghelaaGreatDoorRows
import Derived.WalkKit
import Derived.ProofKit
import Derived.OpenShut
import Derived.Lib.Hide
import Derived.Below
import Derived.ChangeSame
import Derived.Sort.Grow
import Derived.Deep.Draws
import Derived.Lib.SlTrimSet
import Derived.Lib.IndexMore
import Derived.Lib.Join
set_option linter.unusedSimpArgs false
set_option linter.unusedVariables false

/-
  SMALL FACTS that the proofs of this seat share: what a new world keeps of an older one, and the last step of a law's row where the world is known to be as it was below its old end.
-/
namespace Go.Proofs.YtndbhjgfaghelaaGreatDoor.Base
open Go Go.RowKit Go.WideShapes Go.ChangeShapes
set_option linter.unusedVariables false
set_option maxRecDepth 1000000

/-- Every old cell and every old mark reads as before. -/
theorem bcell {W w1 : World} (hb : Below W.heap.size W w1) : (∀ b o, b < W.heap.size → w1.cell? ⟨b, o, none⟩ = W.cell? ⟨b, o, none⟩) ∧ (∀ b o, b < W.heap.size → w1.frozen? ⟨b, o, none⟩ = W.frozen? ⟨b, o, none⟩) :=
  ⟨fun b o h => hb.cell (p := ⟨b, o, none⟩) h, fun b o h => hb.frozen (p := ⟨b, o, none⟩) h⟩
/-- Two steps, each of which leaves what was before it. -/
theorem then_below {a b c : World} (h : Below a.heap.size a b) (k : Below b.heap.size b c) : Below a.heap.size a c := h.trans (k.mono h.size)
/-- A package-level variable keeps its cells. -/
theorem var_below {P : Program} {W w1 : World} {name : String} {cs : Array Value} (h : W.var? P name = some cs) (hb : Below W.heap.size W w1) : w1.var? P name = some cs := by
  unfold World.var? at *
  cases hg : P.globalNamed name with
  | none => rw [hg] at h; simp at h
  | some g =>
    rw [hg] at h
    simp only [Option.bind_some] at h ⊢
    have hlt : g < W.heap.size := by
      rcases Nat.lt_or_ge g W.heap.size with h' | h'
      · exact h'
      · rw [Array.getElem?_eq_none h'] at h; simp at h
    rw [hb.block g hlt]
    exact h
/-- Draws, and then new blocks at the end. -/
theorem below_grow_drewN (w : World) (k : Nat) (os : Array Obj) : Below w.heap.size w (Sort.grow (w.drewN k) os) := by
  refine ⟨rfl, rfl, rfl, ?_, fun i hi => ?_⟩
  · show w.heap.size ≤ (w.heap ++ os).size; rw [Array.size_append]; omega
  · show (w.heap ++ os)[i]? = w.heap[i]?; rw [Array.getElem?_append_left hi]

section
variable {H : Type} {enc : TypeId × Value → H} {P : Program}
/-- The row's last step, where of the world behind the call only 'Below' is known. -/
theorem post_below {f : Func} {s : ChangeSpec} {apart fresh handsOn again : Bool} {W W' : World} {args : Array Value} {v : Value} {ds gs : List (DataW H)} {before pa pv : List MemPlace}
    (hW : DataW.Whole enc P f.params.toList s.vars apart W args.toList ds gs before)
    (hres : ∀ (b : Nat) (sp : Nat → Bool) (hd : Bool), DataW.TrodAll enc P W' b sp hd f.resultTypes.toList (v.resultList f.resultTypes.size) (s.fn H (ds ++ gs)).results [])
    (hargs : ∀ sp : Nat → Bool, (∀ p ∈ before, sp p.block = true) → DataW.TrodAll enc P W' 0 sp true f.params.toList args.toList (s.fn H (ds ++ gs)).args pa)
    (hvars : ∀ sp : Nat → Bool, (∀ p ∈ before, sp p.block = true) → DataW.TrodVars enc P W' sp s.vars (s.fn H (ds ++ gs)).vars pv)
    (hps : before = pa ++ pv) (hb : Below W.heap.size W W')
    (hok : ∀ (j : Nat) (t : TypeId) (r : Value), f.resultTypes[j]? = some t → (v.resultList f.resultTypes.size)[j]? = some r → Value.okWide P W' .any 0 t r) :
    s.post enc P f apart fresh handsOn again W args v W' := by
  have hlt : ∀ p ∈ before, p.block < W.heap.size := fun p hp => hW.lt p hp
  have hold : ∀ p ∈ before, (fun b => decide (b < W.heap.size)) p.block = true := fun p hp => by simpa using hlt p hp
  refine ⟨ds, gs, before, [], pa, pv, hW, hres _ _ _, hargs _ hold, hvars _ hold, World.keptBut_mono (fun p hp => ⟨hp, ?_⟩) (hb.frame (· ∈ before)), fun _ => ?_⟩
  · rw [hps, List.mem_append] at hp
    exact Or.inr hp
  · obtain ⟨_, _, _, _, _, hz, hn⟩ := hW
    refine ⟨hok, _, _, ([] ++ pa) ++ pv, ⟨[] ++ pa, pv, trodAll_append (hargs _ (fun _ _ => rfl)) (hres _ _ _), hvars _ (fun _ _ => rfl), rfl, ?_, ?_⟩, ?_⟩
    · intro b off hp
      have hin : MemPlace.cell b off ∈ before := by rw [hps]; simpa using hp
      rw [hb.frozen (hlt _ hin)]
      exact hz b off hin
    · intro ha
      have := hn ha
      rw [hps] at this
      simpa using this
    · intro p hp _
      rw [hps]
      simpa using hp
end
end Go.Proofs.YtndbhjgfaghelaaGreatDoor.Base

/-
  PLAIN FACTS on texts as lists of bytes: tokens, lower case, blanks at both ends, quoted strings, pairs, lists at commas.
-/
namespace Go.Proofs.YtndbhjgfaghelaaGreatDoor.Tx
open Go
set_option linter.unusedVariables false
set_option maxRecDepth 1000000

/-! tokens -/
def marks : List UInt8 := [33, 35, 36, 37, 38, 39, 42, 43, 45, 46, 94, 95, 124, 126, 96]
def letc (c : UInt8) : Bool := decide (97 ≤ c.toNat ∧ c.toNat ≤ 122) || decide (65 ≤ c.toNat ∧ c.toNat ≤ 90) || decide (48 ≤ c.toNat ∧ c.toNat ≤ 57)
def tokc (c : UInt8) : Bool := marks.contains c || letc c
def token (l : List UInt8) : Bool := l.all tokc && decide (1 ≤ l.length ∧ l.length ≤ 40)

/-! lower case -/
def upc (c : UInt8) : Bool := decide (65 ≤ c.toNat ∧ c.toNat ≤ 90)
def lowc (c : UInt8) : UInt8 := if upc c then c + 32 else c
def lower (l : List UInt8) : List UInt8 := l.map lowc
theorem lowc_up {c : UInt8} (h : upc c = true) : ((lowc c).toNat : Int) = c.toNat + 32 := by
  unfold lowc; rw [if_pos h]
  unfold upc at h; simp at h
  have : (c + 32).toNat = (c.toNat + 32) % 256 := UInt8.toNat_add c 32
  rw [this]; omega
theorem lowc_no {c : UInt8} (h : upc c = false) : lowc c = c := by unfold lowc; simp [h]
theorem upc_low (c : UInt8) : upc (lowc c) = false := by
  by_cases h : upc c = true
  · have e := lowc_up h
    unfold upc at h ⊢; simp at h ⊢; omega
  · rw [lowc_no (by simpa using h)]; simpa using h
theorem lower_lower (l : List UInt8) : lower (lower l) = lower l := by
  unfold lower; rw [List.map_map]
  apply List.map_congr_left; intro c _
  exact lowc_no (upc_low c)

/-! blanks -/
def blk (c : UInt8) : Bool := c == 32 || c == 9
def triml (l : List UInt8) : List UInt8 := l.dropWhile blk
def trimr (l : List UInt8) : List UInt8 := (l.reverse.dropWhile blk).reverse
def trim (l : List UInt8) : List UInt8 := triml (trimr l)
theorem blk_set : (fun b : UInt8 => [32, 9].contains b) = blk := by
  funext b
  unfold blk
  simp only [List.contains, List.elem]
  cases (b == 32) <;> cases (b == 9) <;> rfl
theorem trim_set (l : List UInt8) : Lib.trimS l [32, 9] = trim l := by
  unfold Lib.trimS Lib.trimLeftS Lib.trimRightS trim triml trimr
  rw [show (fun x : UInt8 => [32, 9].contains x) = blk from blk_set]
theorem triml_cons_blk {c : UInt8} {l : List UInt8} (h : blk c = true) : triml (c :: l) = triml l := by unfold triml; rw [List.dropWhile_cons_of_pos h]
theorem triml_cons_no {c : UInt8} {l : List UInt8} (h : blk c = false) : triml (c :: l) = c :: l := by unfold triml; rw [List.dropWhile_cons_of_neg (by simp [h])]
theorem triml_nil : triml [] = [] := rfl
theorem trimr_nil : trimr [] = [] := rfl
theorem trimr_snoc_blk {c : UInt8} {l : List UInt8} (h : blk c = true) : trimr (l ++ [c]) = trimr l := by
  unfold trimr; rw [List.reverse_append]; simp [List.dropWhile_cons_of_pos h]
theorem trimr_snoc_no {c : UInt8} {l : List UInt8} (h : blk c = false) : trimr (l ++ [c]) = l ++ [c] := by
  unfold trimr; rw [List.reverse_append]; simp [List.dropWhile_cons_of_neg (show ¬ blk c = true by simp [h])]
/-- Nothing to trim in front; behind. -/
def Lok (l : List UInt8) : Prop := ∀ c t, l = c :: t → blk c = false
def Rok (l : List UInt8) : Prop := ∀ c t, l = t ++ [c] → blk c = false
theorem triml_lok (l : List UInt8) : Lok (triml l) := by
  induction l with
  | nil => intro c t h; simp [triml] at h
  | cons a r ih =>
    by_cases h : blk a = true
    · rw [triml_cons_blk h]; exact ih
    · rw [triml_cons_no (by simpa using h)]
      intro c t e; injection e with e1 e2; subst e1; simpa using h
theorem triml_of_lok {l : List UInt8} (h : Lok l) : triml l = l := by
  cases l with
  | nil => rfl
  | cons a r => exact triml_cons_no (h a r rfl)
theorem snoc_cases (l : List UInt8) : l = [] ∨ ∃ t c, l = t ++ [c] := by
  rcases List.eq_nil_or_concat l with h | ⟨t, c, h⟩
  · exact Or.inl h
  · exact Or.inr ⟨t, c, by simpa using h⟩
theorem trimr_of_rok {l : List UInt8} (h : Rok l) : trimr l = l := by
  rcases snoc_cases l with rfl | ⟨t, c, rfl⟩
  · rfl
  · exact trimr_snoc_no (h c t rfl)
theorem trimr_rok (l : List UInt8) : Rok (trimr l) := by
  have key : ∀ n (l : List UInt8), l.length = n → Rok (trimr l) := by
    intro n
    induction n with
    | zero => intro l hl; rw [List.length_eq_zero_iff.1 hl]; intro c t e; simp [trimr] at e
    | succ n ih =>
      intro l hl
      rcases snoc_cases l with rfl | ⟨t, c, rfl⟩
      · simp at hl
      · by_cases h : blk c = true
        · rw [trimr_snoc_blk h]; exact ih t (by simp at hl; omega)
        · rw [trimr_snoc_no (by simpa using h)]
          intro c' t' e
          have := List.append_inj_right' e rfl
          simp at this; subst this; simpa using h
  exact key _ l rfl
/-- Taking blanks away in front leaves the end, unless nothing is left. -/
theorem triml_suffix (l : List UInt8) : ∃ p, l = p ++ triml l ∧ ∀ c ∈ p, blk c = true := by
  induction l with
  | nil => exact ⟨[], rfl, by simp⟩
  | cons a r ih =>
    by_cases h : blk a = true
    · rw [triml_cons_blk h]
      obtain ⟨p, e, hp⟩ := ih
      exact ⟨a :: p, by rw [List.cons_append, ← e], by intro c hc; rcases List.mem_cons.1 hc with rfl | hc; exact h; exact hp c hc⟩
    · rw [triml_cons_no (by simpa using h)]; exact ⟨[], rfl, by simp⟩
theorem trimr_prefix (l : List UInt8) : ∃ q, l = trimr l ++ q ∧ ∀ c ∈ q, blk c = true := by
  obtain ⟨p, e, hp⟩ := triml_suffix l.reverse
  refine ⟨p.reverse, ?_, fun c hc => hp c (by simpa using hc)⟩
  have : trimr l = (triml l.reverse).reverse := rfl
  rw [this, ← List.reverse_append, ← e, List.reverse_reverse]
theorem rok_triml {l : List UInt8} (h : Rok l) : Rok (triml l) := by
  intro c t e
  obtain ⟨p, e', _⟩ := triml_suffix l
  rw [e] at e'
  exact h c (p ++ t) (by rw [e', List.append_assoc])
theorem trim_lok (l : List UInt8) : Lok (trim l) := triml_lok _
theorem trim_rok (l : List UInt8) : Rok (trim l) := rok_triml (trimr_rok l)
theorem trim_of_ok {l : List UInt8} (h1 : Lok l) (h2 : Rok l) : trim l = l := by unfold trim; rw [trimr_of_rok h2, triml_of_lok h1]
theorem trim_trim (l : List UInt8) : trim (trim l) = trim l := trim_of_ok (trim_lok l) (trim_rok l)
theorem dw_nil (l : List UInt8) (h : l.dropWhile blk = []) : ∀ c ∈ l, blk c = true := by
  induction l with
  | nil => intro c hc; cases hc
  | cons a r ih =>
    by_cases ha : blk a = true
    · rw [List.dropWhile_cons_of_pos ha] at h
      intro c hc
      rcases List.mem_cons.1 hc with rfl | hc
      · exact ha
      · exact ih h c hc
    · rw [List.dropWhile_cons_of_neg ha] at h; cases h
/-- Both orders give the same. -/
theorem trimr_triml (l : List UInt8) : trimr (triml l) = trim l := by
  have key : ∀ n (l : List UInt8), l.length = n → trimr (triml l) = triml (trimr l) := by
    intro n
    induction n with
    | zero => intro l hl; rw [List.length_eq_zero_iff.1 hl]; rfl
    | succ n ih =>
      intro l hl
      cases l with
      | nil => simp at hl
      | cons a r =>
        by_cases ha : blk a = true
        · rw [triml_cons_blk ha, ih r (by simpa using hl)]
          by_cases hr : ∀ c ∈ r, blk c = true
          · have all_nil : ∀ m : List UInt8, (∀ c ∈ m, blk c = true) → triml m = [] := by
              intro m hm
              induction m with
              | nil => rfl
              | cons x y ih2 => rw [triml_cons_blk (hm x (by simp))]; exact ih2 (fun c hc => hm c (by simp [hc]))
            have t1 : triml (trimr r) = [] := all_nil _ (fun c hc => hr c (by
              obtain ⟨q, e, _⟩ := trimr_prefix r
              rw [e]; exact List.mem_append_left _ hc))
            have t2 : triml (trimr (a :: r)) = [] := all_nil _ (fun c hc => by
              obtain ⟨q, e, _⟩ := trimr_prefix (a :: r)
              have : c ∈ a :: r := by rw [e]; exact List.mem_append_left _ hc
              rcases List.mem_cons.1 this with rfl | h
              · exact ha
              · exact hr c h)
            rw [t1, t2]
          · have e : trimr (a :: r) = a :: trimr r := by
              unfold trimr
              rw [List.reverse_cons]
              have hne : (r.reverse.dropWhile blk) ≠ [] := by
                intro hnil
                apply hr
                intro c hc
                exact dw_nil _ hnil c (by simpa using hc)
              have : (r.reverse ++ [a]).dropWhile blk = r.reverse.dropWhile blk ++ [a] := by
                rw [List.dropWhile_append]
                simp [hne]
              rw [this, List.reverse_append]; rfl
            rw [e, triml_cons_blk ha]
        · have ha' : blk a = false := by simpa using ha
          rw [triml_cons_no ha']
          have e : triml (trimr (a :: r)) = trimr (a :: r) := by
            apply triml_of_lok
            intro c t e
            obtain ⟨q, e', hq⟩ := trimr_prefix (a :: r)
            rw [e] at e'; injection e' with e1 _; subst e1; exact ha'
          rw [e]
  exact key _ l rfl

/-! quoted strings -/
def qot (c : UInt8) : List UInt8 := if c == 34 || c == 92 then [92, c] else [c]
def quo (l : List UInt8) : List UInt8 := 34 :: (l.flatMap qot ++ [34])
/-- What is read behind the first byte; and what stands behind the closing sign. -/
def unq : List UInt8 → List UInt8 × Option (List UInt8)
  | [] => ([], none)
  | [c] => if c == 34 then ([], some []) else ([c], none)
  | c :: d :: r => if c == 34 then ([], some (d :: r)) else if c == 92 then (d :: (unq r).1, (unq r).2) else (c :: (unq (d :: r)).1, (unq (d :: r)).2)
def unqText (l : List UInt8) : List UInt8 := (unq (l.drop 1)).1
def unqOk (l : List UInt8) : Bool := (l.head? == some 34) && ((unq (l.drop 1)).2 == some [])
theorem unq_quote (l r : List UInt8) : unq (l.flatMap qot ++ 34 :: r) = (l, some r) := by
  induction l with
  | nil => cases r <;> simp [unq]
  | cons c t ih =>
    rw [List.flatMap_cons, List.append_assoc]
    by_cases h : c == 34 || c == 92
    · have : qot c = [92, c] := by unfold qot; rw [if_pos h]
      rw [this, List.cons_append, List.cons_append, List.nil_append, unq, if_neg (by decide), if_pos (by decide), ih]
    · have hq : qot c = [c] := by unfold qot; rw [if_neg h]
      rw [hq, List.cons_append, List.nil_append]
      have h34 : ¬ (c == 34) = true := by intro hc; exact h (by simp [hc])
      have h92 : ¬ (c == 92) = true := by intro hc; exact h (by simp [hc])
      cases hx : (t.flatMap qot ++ 34 :: r) with
      | nil => simp at hx
      | cons d u =>
        rw [unq, if_neg h34, if_neg h92, ← hx, ih]
theorem unq_of_quo (l : List UInt8) : unqText (quo l) = l ∧ unqOk (quo l) = true := by
  unfold unqText unqOk quo
  simp [unq_quote l []]

/-! pairs -/
def idx (c : UInt8) : List UInt8 → Nat
  | [] => 0
  | a :: r => if a == c then 0 else idx c r + 1
theorem idx_le (c : UInt8) (l : List UInt8) : idx c l ≤ l.length := by
  induction l with
  | nil => simp [idx]
  | cons a r ih => unfold idx; split <;> simp <;> omega
theorem index_idx (c : UInt8) (l : List UInt8) : Lib.index l [c] = if idx c l < l.length then (idx c l : Int) else -1 := by
  induction l with
  | nil => simp [Lib.index, idx]
  | cons a r ih =>
    unfold Lib.index idx
    by_cases h : a == c
    · have : a = c := by simpa using h
      subst this
      simp [List.isPrefixOf]
    · have hp : List.isPrefixOf [c] (a :: r) = false := by
        have : (c == a) = false := by
          rw [Bool.eq_false_iff]; intro hc; apply h
          have : c = a := by simpa using hc
          subst this; simp
        simp [List.isPrefixOf, this]
      rw [if_neg (by simp [hp]), if_neg h, ih]
      by_cases hl : idx c r < r.length
      · have hn : ((idx c r : Int) == -1) = false := by rw [beq_eq_false_iff_ne]; omega
        rw [if_pos hl, hn, if_neg (by simp), if_pos (by simp; omega)]; omega
      · rw [if_neg hl, if_pos (by decide), if_neg (by simp; omega)]
def cutAt (c : UInt8) (l : List UInt8) : List UInt8 × List UInt8 × Bool :=
  if idx c l < l.length then (l.take (idx c l), l.drop (idx c l + 1), true) else (l, [], false)
theorem cut_at (c : UInt8) (l : List UInt8) : Lib.cut l [c] = cutAt c l := by
  unfold Lib.cut cutAt
  rw [index_idx]
  by_cases h : idx c l < l.length
  · rw [if_pos h, if_pos h, if_pos (by omega)]; simp
  · rw [if_neg h, if_neg h, if_neg (by omega)]
theorem idx_at (c : UInt8) (l : List UInt8) (h : idx c l < l.length) : l[idx c l] = c := by
  induction l with
  | nil => simp at h
  | cons a r ih =>
    unfold idx at h ⊢
    by_cases hc : a == c
    · simp [hc]; simpa using hc
    · simp [hc] at h ⊢; exact ih (by simpa [hc] using h)
theorem idx_before (c : UInt8) (l : List UInt8) (j : Nat) (h : j < idx c l) : ∀ hj : j < l.length, l[j] ≠ c := by
  induction l generalizing j with
  | nil => intro hj; simp at hj
  | cons a r ih =>
    intro hj
    unfold idx at h
    by_cases hc : a == c
    · simp [hc] at h
    · simp [hc] at h
      cases j with
      | zero => simp; simpa using hc
      | succ j => simp; exact ih j (by omega) _
theorem idx_eq {c : UInt8} {l : List UInt8} {k : Nat} (hk : k ≤ l.length) (h1 : ∀ j (hj : j < l.length), j < k → l[j] ≠ c) (h2 : ∀ h : k < l.length, l[k] = c) : idx c l = k := by
  rcases Nat.lt_trichotomy (idx c l) k with h | h | h
  · exact absurd (idx_at c l (by omega)) (h1 _ (by omega) h)
  · exact h
  · have hkl : k < l.length := by have := idx_le c l; omega
    exact absurd (h2 hkl) (idx_before c l k h hkl)
end Go.Proofs.YtndbhjgfaghelaaGreatDoor.Tx

/-
  PLAIN FACTS on lists of texts at commas: how a text is cut at the commas outside quoted strings; what is cut, trimmed, joined and cut again is the same.
-/
namespace Go.Proofs.YtndbhjgfaghelaaGreatDoor.Tx
open Go
set_option linter.unusedVariables false
set_option maxRecDepth 1000000

/-- Put in front of the first of a list of texts. -/
def push (p : List UInt8) : List (List UInt8) → List (List UInt8)
  | [] => []
  | h :: t => (p ++ h) :: t
theorem push_nil (L : List (List UInt8)) : push [] L = L := by cases L <;> rfl
theorem push_push (p q : List UInt8) (L : List (List UInt8)) : push p (push q L) = push (p ++ q) L := by cases L <;> simp [push]
theorem push_inj {p : List UInt8} {L M : List (List UInt8)} (h : push p L = push p M) : L = M := by
  cases L <;> cases M <;> simp_all [push]

/-- The parts of a text between the commas outside quoted strings; 'inq': within one. -/
def cuts (inq : Bool) (l : List UInt8) : List (List UInt8) :=
  match l with
  | [] => [[]]
  | c :: r =>
    if inq && c == 92 then push (c :: r.take 1) (cuts true (r.drop 1))
    else if c == 34 then push [c] (cuts (!inq) r)
    else if !inq && c == 44 then [] :: cuts false r
    else push [c] (cuts inq r)
  termination_by l.length
  decreasing_by all_goals simp_wf; all_goals omega

theorem cuts_nil (q : Bool) : cuts q [] = [[]] := by rw [cuts]
theorem cuts_esc {c : UInt8} (r : List UInt8) (h : c = 92) : cuts true (c :: r) = push (c :: r.take 1) (cuts true (r.drop 1)) := by rw [cuts, if_pos (by simp [h])]
theorem cuts_quote (q : Bool) {c : UInt8} (r : List UInt8) (h : c = 34) : cuts q (c :: r) = push [c] (cuts (!q) r) := by
  rw [cuts, if_neg (by subst h; simp), if_pos (by simp [h])]
theorem cuts_comma {c : UInt8} (r : List UInt8) (h : c = 44) : cuts false (c :: r) = [] :: cuts false r := by
  rw [cuts, if_neg (by simp), if_neg (by subst h; simp), if_pos (by simp [h])]
theorem cuts_plain (q : Bool) {c : UInt8} (r : List UInt8) (h1 : q = true → c ≠ 92) (h2 : c ≠ 34) (h3 : q = false → c ≠ 44) : cuts q (c :: r) = push [c] (cuts q r) := by
  rw [cuts, if_neg (by cases q <;> simp_all), if_neg (by simpa using h2), if_neg (by cases q <;> simp_all)]
theorem cuts_ne (q : Bool) (l : List UInt8) : cuts q l ≠ [] := by
  have hp : ∀ p (L : List (List UInt8)), L ≠ [] → push p L ≠ [] := by intro p L h; cases L <;> simp_all [push]
  have key : ∀ n q (l : List UInt8), l.length ≤ n → cuts q l ≠ [] := by
    intro n
    induction n with
    | zero => intro q l hl; rw [List.length_eq_zero_iff.1 (by omega : l.length = 0), cuts_nil]; simp
    | succ n ih =>
      intro q l hl
      cases l with
      | nil => rw [cuts_nil]; simp
      | cons c r =>
        simp at hl
        rw [cuts]
        split
        · exact hp _ _ (ih _ _ (by simp; omega))
        · split
          · exact hp _ _ (ih _ _ hl)
          · split
            · simp
            · exact hp _ _ (ih _ _ hl)
  exact key _ q l (Nat.le_refl _)

/-- How a text is read that holds no such comma: where it ends. -/
def scan (inq : Bool) (l : List UInt8) : Option Bool :=
  match l with
  | [] => some inq
  | c :: r =>
    if inq && c == 92 then (if r.isEmpty then none else scan true (r.drop 1))
    else if c == 34 then scan (!inq) r
    else if !inq && c == 44 then none
    else scan inq r
  termination_by l.length
  decreasing_by all_goals simp_wf; all_goals omega

theorem scan_nil (q : Bool) : scan q [] = some q := by rw [scan]
theorem scan_cons (q : Bool) (c : UInt8) (r : List UInt8) : scan q (c :: r) = if q && c == 92 then (if r.isEmpty then none else scan true (r.drop 1)) else if c == 34 then scan (!q) r else if !q && c == 44 then none else scan q r := by rw [scan]
theorem cuts_cons (q : Bool) (c : UInt8) (r : List UInt8) : cuts q (c :: r) = if q && c == 92 then push (c :: r.take 1) (cuts true (r.drop 1)) else if c == 34 then push [c] (cuts (!q) r) else if !q && c == 44 then [] :: cuts false r else push [c] (cuts q r) := by rw [cuts]

theorem cuts_scan : ∀ n q (x : List UInt8), x.length ≤ n → ∀ b, scan q x = some b → ∀ r, cuts q (x ++ r) = push x (cuts b r) := by
  intro n
  induction n with
  | zero =>
    intro q x hx b h r
    rw [List.length_eq_zero_iff.1 (by omega : x.length = 0)] at h ⊢
    rw [scan_nil] at h; injection h with h; subst h
    rw [List.nil_append, push_nil]
  | succ n ih =>
    intro q x hx b h r
    cases x with
    | nil => rw [scan_nil] at h; injection h with h; subst h; rw [List.nil_append, push_nil]
    | cons c t =>
      simp at hx
      rw [scan_cons] at h
      rw [List.cons_append, cuts_cons]
      by_cases h1 : (q && c == 92) = true
      · rw [if_pos h1] at h ⊢
        cases t with
        | nil => simp at h
        | cons d u =>
          simp at h hx
          simp only [List.cons_append, List.take_succ_cons, List.take_zero, List.drop_succ_cons, List.drop_zero]
          rw [ih true u (by omega) b h r, push_push]; rfl
      · rw [if_neg h1] at h ⊢
        by_cases h2 : (c == 34) = true
        · rw [if_pos h2] at h ⊢
          rw [ih _ t hx b h r, push_push]; rfl
        · rw [if_neg h2] at h ⊢
          by_cases h3 : (!q && c == 44) = true
          · rw [if_pos h3] at h; cases h
          · rw [if_neg h3] at h ⊢
            rw [ih _ t hx b h r, push_push]; rfl
theorem cuts_of_scan {q b : Bool} {x : List UInt8} (h : scan q x = some b) (r : List UInt8) : cuts q (x ++ r) = push x (cuts b r) := cuts_scan _ q x (Nat.le_refl _) b h r

/-- A text is one part, or a part that ends, a comma, and the rest. -/
theorem cuts_or : ∀ n q (s : List UInt8), s.length ≤ n → cuts q s = [s] ∨ ∃ x t, s = x ++ 44 :: t ∧ scan q x = some false ∧ cuts q s = x :: cuts false t := by
  intro n
  induction n with
  | zero => intro q s hs; rw [List.length_eq_zero_iff.1 (by omega : s.length = 0), cuts_nil]; exact Or.inl rfl
  | succ n ih =>
    intro q s hs
    cases s with
    | nil => rw [cuts_nil]; exact Or.inl rfl
    | cons c r =>
      simp at hs
      rw [cuts_cons]
      by_cases h1 : (q && c == 92) = true
      · rw [if_pos h1]
        cases r with
        | nil => exact Or.inl (by simp [cuts_nil, push])
        | cons d u =>
          simp at hs
          simp only [List.take_succ_cons, List.take_zero, List.drop_succ_cons, List.drop_zero]
          rcases ih true u (by omega) with h | ⟨x, t, e, hx, h⟩
          · rw [h]; exact Or.inl rfl
          · refine Or.inr ⟨c :: d :: x, t, by rw [e]; rfl, ?_, by rw [h]; rfl⟩
            rw [scan_cons, if_pos h1]; simpa using hx
      · rw [if_neg h1]
        by_cases h2 : (c == 34) = true
        · rw [if_pos h2]
          rcases ih (!q) r hs with h | ⟨x, t, e, hx, h⟩
          · rw [h]; exact Or.inl rfl
          · refine Or.inr ⟨c :: x, t, by rw [e]; rfl, ?_, by rw [h]; rfl⟩
            rw [scan_cons, if_neg h1, if_pos h2]; exact hx
        · rw [if_neg h2]
          by_cases h3 : (!q && c == 44) = true
          · rw [if_pos h3]
            have hq : q = false := by cases q <;> simp_all
            have hc : c = 44 := by cases q <;> simp_all
            subst hq; subst hc
            exact Or.inr ⟨[], r, rfl, scan_nil _, rfl⟩
          · rw [if_neg h3]
            rcases ih q r hs with h | ⟨x, t, e, hx, h⟩
            · rw [h]; exact Or.inl rfl
            · refine Or.inr ⟨c :: x, t, by rw [e]; rfl, ?_, by rw [h]; rfl⟩
              rw [scan_cons, if_neg h1, if_neg h2, if_neg h3]; exact hx

theorem cuts_shape : ∀ n (s : List UInt8), s.length ≤ n → ∃ xs y, cuts false s = xs ++ [y] ∧ (∀ x ∈ xs, scan false x = some false) ∧ cuts false y = [y] := by
  intro n
  induction n with
  | zero => intro s hs; rw [List.length_eq_zero_iff.1 (by omega : s.length = 0)]; exact ⟨[], [], cuts_nil _, by simp, cuts_nil _⟩
  | succ n ih =>
    intro s hs
    rcases cuts_or _ false s (Nat.le_refl _) with h | ⟨x, t, e, hx, h⟩
    · exact ⟨[], s, h, by simp, h⟩
    · obtain ⟨xs, y, e2, h2, h3⟩ := ih t (by rw [e] at hs; simp at hs; omega)
      refine ⟨x :: xs, y, by rw [h, e2]; rfl, ?_, h3⟩
      intro z hz
      rcases List.mem_cons.1 hz with rfl | hz
      · exact hx
      · exact h2 z hz

/-! what trimming leaves -/
theorem blk_ne {c : UInt8} (h : blk c = true) : c ≠ 92 ∧ c ≠ 34 ∧ c ≠ 44 := by
  unfold blk at h
  refine ⟨?_, ?_, ?_⟩ <;> (rintro rfl; revert h; decide)
theorem scan_blk {q : Bool} {c : UInt8} {x : List UInt8} (h : blk c = true) : scan q (c :: x) = scan q x := by
  obtain ⟨h1, h2, h3⟩ := blk_ne h
  rw [scan_cons, if_neg (by simp [h1]), if_neg (by simpa using h2), if_neg (by simp [h3])]
theorem cuts_blk {q : Bool} {c : UInt8} {x : List UInt8} (h : blk c = true) : cuts q (c :: x) = push [c] (cuts q x) := by
  obtain ⟨h1, h2, h3⟩ := blk_ne h
  exact cuts_plain q x (fun _ => h1) h2 (fun _ => h3)
theorem scan_triml {x : List UInt8} {q b : Bool} (h : scan q x = some b) : scan q (triml x) = some b := by
  induction x with
  | nil => exact h
  | cons c t ih =>
    by_cases hc : blk c = true
    · rw [triml_cons_blk hc]; rw [scan_blk hc] at h; exact ih h
    · rw [triml_cons_no (by simpa using hc)]; exact h
theorem one_triml {x : List UInt8} {q : Bool} (h : cuts q x = [x]) : cuts q (triml x) = [triml x] := by
  induction x with
  | nil => exact h
  | cons c t ih =>
    by_cases hc : blk c = true
    · rw [triml_cons_blk hc]; rw [cuts_blk hc] at h; exact ih (push_inj (p := [c]) (by rw [h]; rfl))
    · rw [triml_cons_no (by simpa using hc)]; exact h
theorem scan_snoc : ∀ n q (x : List UInt8), x.length ≤ n → ∀ c, blk c = true → scan q (x ++ [c]) = some false → scan q x = some false := by
  intro n
  induction n with
  | zero =>
    intro q x hx c hc h
    rw [List.length_eq_zero_iff.1 (by omega : x.length = 0)] at h ⊢
    rw [List.nil_append, scan_blk hc] at h; exact h
  | succ n ih =>
    intro q x hx c hc h
    cases x with
    | nil => rw [List.nil_append, scan_blk hc] at h; exact h
    | cons a t =>
      simp at hx
      rw [List.cons_append, scan_cons] at h
      rw [scan_cons]
      by_cases h1 : (q && a == 92) = true
      · rw [if_pos h1] at h ⊢
        cases t with
        | nil => simp [scan_nil] at h
        | cons d u => simp at h hx ⊢; exact ih true u (by omega) c hc h
      · rw [if_neg h1] at h ⊢
        by_cases h2 : (a == 34) = true
        · rw [if_pos h2] at h ⊢; exact ih _ t hx c hc h
        · rw [if_neg h2] at h ⊢
          by_cases h3 : (!q && a == 44) = true
          · rw [if_pos h3] at h; cases h
          · rw [if_neg h3] at h ⊢; exact ih _ t hx c hc h
theorem one_prefix : ∀ n q (x : List UInt8), x.length ≤ n → ∀ y, cuts q (x ++ y) = [x ++ y] → cuts q x = [x] := by
  intro n
  induction n with
  | zero => intro q x hx y _; rw [List.length_eq_zero_iff.1 (by omega : x.length = 0)]; exact cuts_nil _
  | succ n ih =>
    intro q x hx y h
    cases x with
    | nil => exact cuts_nil _
    | cons a t =>
      simp at hx
      rw [List.cons_append, cuts_cons] at h
      rw [cuts_cons]
      by_cases h1 : (q && a == 92) = true
      · rw [if_pos h1] at h ⊢
        cases t with
        | nil => simp [cuts_nil, push]
        | cons d u =>
          simp at hx
          simp only [List.cons_append, List.take_succ_cons, List.take_zero, List.drop_succ_cons, List.drop_zero] at h ⊢
          rw [ih true u (by omega) y (push_inj (p := [a, d]) (by rw [h]; rfl))]; rfl
      · rw [if_neg h1] at h ⊢
        by_cases h2 : (a == 34) = true
        · rw [if_pos h2] at h ⊢; rw [ih _ t hx y (push_inj (p := [a]) (by rw [h]; rfl))]; rfl
        · rw [if_neg h2] at h ⊢
          by_cases h3 : (!q && a == 44) = true
          · rw [if_pos h3] at h; simp at h
          · rw [if_neg h3] at h ⊢; rw [ih _ t hx y (push_inj (p := [a]) (by rw [h]; rfl))]; rfl
theorem scan_trimr {x : List UInt8} (h : scan false x = some false) : scan false (trimr x) = some false := by
  have key : ∀ n (x : List UInt8), x.length = n → scan false x = some false → scan false (trimr x) = some false := by
    intro n
    induction n with
    | zero => intro x hx h; rw [List.length_eq_zero_iff.1 hx] at h ⊢; exact h
    | succ n ih =>
      intro x hx h
      rcases snoc_cases x with rfl | ⟨t, c, rfl⟩
      · exact h
      · by_cases hc : blk c = true
        · rw [trimr_snoc_blk hc]; exact ih t (by simp at hx; omega) (scan_snoc _ _ t (Nat.le_refl _) c hc h)
        · rw [trimr_snoc_no (by simpa using hc)]; exact h
  exact key _ x rfl h
theorem scan_trim {x : List UInt8} (h : scan false x = some false) : scan false (trim x) = some false := scan_triml (scan_trimr h)
theorem one_trim {x : List UInt8} (h : cuts false x = [x]) : cuts false (trim x) = [trim x] := by
  unfold trim
  refine one_triml ?_
  obtain ⟨q, e, _⟩ := trimr_prefix x
  exact one_prefix _ _ _ (Nat.le_refl _) q (by rw [← e]; exact h)
theorem one_of_scan {x : List UInt8} {q b : Bool} (h : scan q x = some b) : cuts q x = [x] := by
  have := cuts_of_scan h []
  rw [List.append_nil, cuts_nil] at this
  rw [this]; simp [push]

/-! the parts that are kept -/
def keep (xs : List (List UInt8)) : List (List UInt8) := (xs.map trim).filter (fun x => !x.isEmpty)
def split (s : List UInt8) : List (List UInt8) := keep (cuts false s)
theorem keep_append (xs ys : List (List UInt8)) : keep (xs ++ ys) = keep xs ++ keep ys := by unfold keep; rw [List.map_append, List.filter_append]
theorem keep_one (x : List UInt8) : keep [x] = if trim x = [] then [] else [trim x] := by
  unfold keep
  by_cases h : trim x = [] <;> simp [h, List.filter_cons]
theorem keep_ok {xs : List (List UInt8)} {x : List UInt8} (h : x ∈ keep xs) : x ≠ [] ∧ trim x = x := by
  unfold keep at h
  rw [List.mem_filter] at h
  obtain ⟨h1, h2⟩ := h
  obtain ⟨y, _, rfl⟩ := List.mem_map.1 h1
  exact ⟨by simpa using h2, trim_trim y⟩
theorem split_ok {s x : List UInt8} (h : x ∈ split s) : x ≠ [] ∧ trim x = x := keep_ok h
theorem trim_blk {c : UInt8} {x : List UInt8} (h : blk c = true) : trim (c :: x) = trim x := by
  rw [← trimr_triml, triml_cons_blk h, trimr_triml]
theorem keep_push {c : UInt8} {L : List (List UInt8)} (h : blk c = true) : keep (push [c] L) = keep L := by
  cases L with
  | nil => rfl
  | cons a r => unfold keep push; simp [trim_blk h]

def join (xs : List (List UInt8)) : List UInt8 := Lib.join xs [44, 32]
theorem join_one (x : List UInt8) : join [x] = x := Lib.join_one x _
theorem join_cons (x : List UInt8) (ys : List (List UInt8)) (h : ys ≠ []) : join (x :: ys) = x ++ 44 :: 32 :: join ys := by
  cases ys with
  | nil => exact absurd rfl h
  | cons y r => unfold join Lib.join; simp [List.intercalate]
theorem split_join_chain (xs : List (List UInt8)) (y : List UInt8) (hx : ∀ x ∈ xs, scan false x = some false ∧ x ≠ [] ∧ trim x = x) (hy : cuts false y = [y]) (h0 : y ≠ []) (ht : trim y = y) :
    split (join (xs ++ [y])) = xs ++ [y] := by
  induction xs with
  | nil =>
    rw [List.nil_append, join_one]
    unfold split
    rw [hy, keep_one, ht, if_neg h0]
  | cons x r ih =>
    obtain ⟨h1, h2, h3⟩ := hx x (by simp)
    have ih' := ih (fun z hz => hx z (by simp [hz]))
    rw [List.cons_append, join_cons _ _ (by simp)]
    unfold split at ih' ⊢
    rw [cuts_of_scan h1, cuts_comma _ rfl, cuts_blk (by decide)]
    show keep ((x ++ []) :: push [32] (cuts false (join (r ++ [y])))) = _
    rw [List.append_nil, show ∀ (a : List UInt8) L, a :: L = [a] ++ L from fun _ _ => rfl, keep_append, keep_push (by decide), ih', keep_one, h3, if_neg h2]
    rfl
theorem split_join (s : List UInt8) : split (join (split s)) = split s := by
  obtain ⟨xs, y, e, hx, hy⟩ := cuts_shape _ s (Nat.le_refl _)
  have hs : split s = keep xs ++ keep [y] := by unfold split; rw [e, keep_append]
  have hk : ∀ x ∈ keep xs, scan false x = some false ∧ x ≠ [] ∧ trim x = x := by
    intro x h
    refine ⟨?_, keep_ok h⟩
    unfold keep at h
    obtain ⟨z, hz, rfl⟩ := List.mem_map.1 (List.mem_filter.1 h).1
    exact scan_trim (hx z hz)
  by_cases hy0 : trim y = []
  · rw [keep_one, if_pos hy0, List.append_nil] at hs
    rw [hs]
    rcases List.eq_nil_or_concat (keep xs) with h0 | ⟨t, z, h⟩
    · rw [h0]; unfold join Lib.join split; rw [show [44, 32].intercalate ([] : List (List UInt8)) = [] from rfl, cuts_nil]; rfl
    · have h' : keep xs = t ++ [z] := by simpa using h
      rw [h'] at hk ⊢
      obtain ⟨a, b, c⟩ := hk z (by simp)
      exact split_join_chain t z (fun x hx => hk x (by simp [hx])) (one_of_scan a) b c
  · rw [keep_one, if_neg hy0] at hs
    rw [hs]
    exact split_join_chain _ _ hk (one_trim hy) hy0 (trim_trim y)

/-! where a quoted string ends -/
/-- How many bytes stand before the closing sign; all where there is none. -/
def qlen (l : List UInt8) : Nat :=
  match l with
  | [] => 0
  | c :: r => if c == 34 then 0 else if c == 92 then (if r.isEmpty then 1 else qlen (r.drop 1) + 2) else qlen r + 1
  termination_by l.length
  decreasing_by all_goals simp_wf; all_goals omega
theorem qlen_cons (c : UInt8) (r : List UInt8) : qlen (c :: r) = if c == 34 then 0 else if c == 92 then (if r.isEmpty then 1 else qlen (r.drop 1) + 2) else qlen r + 1 := by rw [qlen]
theorem qlen_nil : qlen [] = 0 := by rw [qlen]
theorem cuts_qlen : ∀ n (r : List UInt8), r.length ≤ n → qlen r ≤ r.length ∧ cuts true r = if qlen r < r.length then push (r.take (qlen r + 1)) (cuts false (r.drop (qlen r + 1))) else [r] := by
  intro n
  induction n with
  | zero => intro r hr; rw [List.length_eq_zero_iff.1 (by omega : r.length = 0), qlen_nil, cuts_nil]; simp
  | succ n ih =>
    intro r hr
    cases r with
    | nil => rw [qlen_nil, cuts_nil]; simp
    | cons c t =>
      simp at hr
      rw [qlen_cons, cuts_cons]
      by_cases h34 : (c == 34) = true
      · have : c = 34 := by simpa using h34
        subst this
        simp
      · rw [if_neg h34, if_neg h34]
        by_cases h92 : (c == 92) = true
        · rw [if_pos h92, if_pos (show (true && c == 92) = true by simpa using h92)]
          cases t with
          | nil => simp [cuts_nil, push]
          | cons d u =>
            simp at hr
            obtain ⟨a, b⟩ := ih u (by omega)
            simp only [List.isEmpty_cons, Bool.false_eq_true, if_false, List.drop_succ_cons, List.drop_zero, List.take_succ_cons, List.take_zero, List.length_cons]
            refine ⟨by omega, ?_⟩
            rw [b]
            by_cases hq : qlen u < u.length
            · rw [if_pos hq, if_pos (by omega), push_push]; rfl
            · rw [if_neg hq, if_neg (by omega)]; rfl
        · rw [if_neg h92, if_neg (show ¬ (true && c == 92) = true by simpa using h92), if_neg (show ¬ (!true && c == 44) = true by simp)]
          obtain ⟨a, b⟩ := ih t hr
          simp only [List.length_cons, List.take_succ_cons, List.drop_succ_cons]
          refine ⟨by omega, ?_⟩
          rw [b]
          by_cases hq : qlen t < t.length
          · rw [if_pos hq, if_pos (by omega), push_push]; rfl
          · rw [if_neg hq, if_neg (by omega)]; rfl
end Go.Proofs.YtndbhjgfaghelaaGreatDoor.Tx

/-
  PLAIN FACTS on the bytes of a text, one by one.
-/
namespace Go.Proofs.YtndbhjgfaghelaaGreatDoor.Tx
open Go
set_option linter.unusedVariables false
set_option maxRecDepth 1000000

theorem take_snoc (s : ByteArray) (k : Nat) (h : k < s.size) : s.data.toList.take (k + 1) = s.data.toList.take k ++ [s[k]] := by
  rw [List.take_succ_eq_append_getElem (by simpa using h)]; rfl
theorem drop_cons (s : ByteArray) (k : Nat) (h : k < s.size) : s.data.toList.drop k = s[k] :: s.data.toList.drop (k + 1) := by
  rw [List.drop_eq_getElem_cons (by simpa using h)]; rfl
theorem list_len (s : ByteArray) : s.data.toList.length = s.size := by rw [Array.length_toList]; rfl
theorem eq_nat {c : UInt8} {n : Nat} (hn : n < 256) : ((c.toNat : Int) == (n : Int)) = (c == UInt8.ofNat n) := by
  rw [Bool.eq_iff_iff, beq_iff_eq, beq_iff_eq]
  constructor
  · intro h; exact UInt8.toNat_inj.1 (by simp; omega)
  · intro h; rw [h]; simp; omega
theorem e34 (c : UInt8) : ((c.toNat : Int) == 34) = (c == 34) := eq_nat (n := 34) (by omega)
theorem e92 (c : UInt8) : ((c.toNat : Int) == 92) = (c == 92) := eq_nat (n := 92) (by omega)
theorem e44 (c : UInt8) : ((c.toNat : Int) == 44) = (c == 44) := eq_nat (n := 44) (by omega)

end Go.Proofs.YtndbhjgfaghelaaGreatDoor.Tx
