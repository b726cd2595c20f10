/-
  CONTRACTS AND PLAIN FACTS, several texts in one; each says in its own words what it proves.
-/
import Derived.Lib.SlTrimSet
import Derived.Lib.IndexMore
import Derived.Lib.Join
import Derived.Test.YtindnhmigljkaaaGreatDoorPrA
import Derived.Laws.IdiomStrings
import Derived.Laws.BytesArg
import Derived.OwnWalk
import Derived.Laws.OwnMore
import Derived.Laws.AppendOwn

/-
  PLAIN FACTS on texts as lists of bytes: tokens, lower case, blanks at both ends, quoted strings, pairs, lists at commas.
-/
namespace Go.Proofs.YtindnhmigljkaaaGreatDoor.Tx
open Go
set_option linter.unusedVariables false
set_option maxRecDepth 1000000

/-! tokens -/
def marks : List UInt8 := [33, 35, 36, 37, 38, 39, 42, 43, 45, 46, 94, 95, 124, 126, 96]
def letc (c : UInt8) : Bool := decide (97 ≤ c.toNat ∧ c.toNat ≤ 122) || decide (65 ≤ c.toNat ∧ c.toNat ≤ 90) || decide (48 ≤ c.toNat ∧ c.toNat ≤ 57)
def tokc (c : UInt8) : Bool := marks.contains c || letc c
def token (l : List UInt8) : Bool := l.all tokc && decide (1 ≤ l.length ∧ l.length ≤ 40)

/-! lower case -/
def upc (c : UInt8) : Bool := decide (65 ≤ c.toNat ∧ c.toNat ≤ 90)
def lowc (c : UInt8) : UInt8 := if upc c then c + 32 else c
def lower (l : List UInt8) : List UInt8 := l.map lowc
theorem lowc_up {c : UInt8} (h : upc c = true) : ((lowc c).toNat : Int) = c.toNat + 32 := by
  unfold lowc; rw [if_pos h]
  unfold upc at h; simp at h
  have : (c + 32).toNat = (c.toNat + 32) % 256 := UInt8.toNat_add c 32
  rw [this]; omega
theorem lowc_no {c : UInt8} (h : upc c = false) : lowc c = c := by unfold lowc; simp [h]
theorem upc_low (c : UInt8) : upc (lowc c) = false := by
  by_cases h : upc c = true
  · have e := lowc_up h
    unfold upc at h ⊢; simp at h ⊢; omega
  · rw [lowc_no (by simpa using h)]; simpa using h
theorem lower_lower (l : List UInt8) : lower (lower l) = lower l := by
  unfold lower; rw [List.map_map]
  apply List.map_congr_left; intro c _
  exact lowc_no (upc_low c)

/-! blanks -/
def blk (c : UInt8) : Bool := c == 32 || c == 9
def triml (l : List UInt8) : List UInt8 := l.dropWhile blk
def trimr (l : List UInt8) : List UInt8 := (l.reverse.dropWhile blk).reverse
def trim (l : List UInt8) : List UInt8 := triml (trimr l)
theorem blk_set : (fun b : UInt8 => [32, 9].contains b) = blk := by
  funext b
  unfold blk
  simp only [List.contains, List.elem]
  cases (b == 32) <;> cases (b == 9) <;> rfl
theorem trim_set (l : List UInt8) : Lib.trimS l [32, 9] = trim l := by
  unfold Lib.trimS Lib.trimLeftS Lib.trimRightS trim triml trimr
  rw [show (fun x : UInt8 => [32, 9].contains x) = blk from blk_set]
theorem triml_cons_blk {c : UInt8} {l : List UInt8} (h : blk c = true) : triml (c :: l) = triml l := by unfold triml; rw [List.dropWhile_cons_of_pos h]
theorem triml_cons_no {c : UInt8} {l : List UInt8} (h : blk c = false) : triml (c :: l) = c :: l := by unfold triml; rw [List.dropWhile_cons_of_neg (by simp [h])]
theorem triml_nil : triml [] = [] := rfl
theorem trimr_nil : trimr [] = [] := rfl
theorem trimr_snoc_blk {c : UInt8} {l : List UInt8} (h : blk c = true) : trimr (l ++ [c]) = trimr l := by
  unfold trimr; rw [List.reverse_append]; simp [List.dropWhile_cons_of_pos h]
theorem trimr_snoc_no {c : UInt8} {l : List UInt8} (h : blk c = false) : trimr (l ++ [c]) = l ++ [c] := by
  unfold trimr; rw [List.reverse_append]; simp [List.dropWhile_cons_of_neg (show ¬ blk c = true by simp [h])]
/-- Nothing to trim in front; behind. -/
def Lok (l : List UInt8) : Prop := ∀ c t, l = c :: t → blk c = false
def Rok (l : List UInt8) : Prop := ∀ c t, l = t ++ [c] → blk c = false
theorem triml_lok (l : List UInt8) : Lok (triml l) := by
  induction l with
  | nil => intro c t h; simp [triml] at h
  | cons a r ih =>
    by_cases h : blk a = true
    · rw [triml_cons_blk h]; exact ih
    · rw [triml_cons_no (by simpa using h)]
      intro c t e; injection e with e1 e2; subst e1; simpa using h
theorem triml_of_lok {l : List UInt8} (h : Lok l) : triml l = l := by
  cases l with
  | nil => rfl
  | cons a r => exact triml_cons_no (h a r rfl)
theorem snoc_cases (l : List UInt8) : l = [] ∨ ∃ t c, l = t ++ [c] := by
  rcases List.eq_nil_or_concat l with h | ⟨t, c, h⟩
  · exact Or.inl h
  · exact Or.inr ⟨t, c, by simpa using h⟩
theorem trimr_of_rok {l : List UInt8} (h : Rok l) : trimr l = l := by
  rcases snoc_cases l with rfl | ⟨t, c, rfl⟩
  · rfl
  · exact trimr_snoc_no (h c t rfl)
theorem trimr_rok (l : List UInt8) : Rok (trimr l) := by
  have key : ∀ n (l : List UInt8), l.length = n → Rok (trimr l) := by
    intro n
    induction n with
    | zero => intro l hl; rw [List.length_eq_zero_iff.1 hl]; intro c t e; simp [trimr] at e
    | succ n ih =>
      intro l hl
      rcases snoc_cases l with rfl | ⟨t, c, rfl⟩
      · simp at hl
      · by_cases h : blk c = true
        · rw [trimr_snoc_blk h]; exact ih t (by simp at hl; omega)
        · rw [trimr_snoc_no (by simpa using h)]
          intro c' t' e
          have := List.append_inj_right' e rfl
          simp at this; subst this; simpa using h
  exact key _ l rfl
/-- Taking blanks away in front leaves the end, unless nothing is left. -/
theorem triml_suffix (l : List UInt8) : ∃ p, l = p ++ triml l ∧ ∀ c ∈ p, blk c = true := by
  induction l with
  | nil => exact ⟨[], rfl, by simp⟩
  | cons a r ih =>
    by_cases h : blk a = true
    · rw [triml_cons_blk h]
      obtain ⟨p, e, hp⟩ := ih
      exact ⟨a :: p, by rw [List.cons_append, ← e], by intro c hc; rcases List.mem_cons.1 hc with rfl | hc; exact h; exact hp c hc⟩
    · rw [triml_cons_no (by simpa using h)]; exact ⟨[], rfl, by simp⟩
theorem trimr_prefix (l : List UInt8) : ∃ q, l = trimr l ++ q ∧ ∀ c ∈ q, blk c = true := by
  obtain ⟨p, e, hp⟩ := triml_suffix l.reverse
  refine ⟨p.reverse, ?_, fun c hc => hp c (by simpa using hc)⟩
  have : trimr l = (triml l.reverse).reverse := rfl
  rw [this, ← List.reverse_append, ← e, List.reverse_reverse]
theorem rok_triml {l : List UInt8} (h : Rok l) : Rok (triml l) := by
  intro c t e
  obtain ⟨p, e', _⟩ := triml_suffix l
  rw [e] at e'
  exact h c (p ++ t) (by rw [e', List.append_assoc])
theorem trim_lok (l : List UInt8) : Lok (trim l) := triml_lok _
theorem trim_rok (l : List UInt8) : Rok (trim l) := rok_triml (trimr_rok l)
theorem trim_of_ok {l : List UInt8} (h1 : Lok l) (h2 : Rok l) : trim l = l := by unfold trim; rw [trimr_of_rok h2, triml_of_lok h1]
theorem trim_trim (l : List UInt8) : trim (trim l) = trim l := trim_of_ok (trim_lok l) (trim_rok l)
theorem dw_nil (l : List UInt8) (h : l.dropWhile blk = []) : ∀ c ∈ l, blk c = true := by
  induction l with
  | nil => intro c hc; cases hc
  | cons a r ih =>
    by_cases ha : blk a = true
    · rw [List.dropWhile_cons_of_pos ha] at h
      intro c hc
      rcases List.mem_cons.1 hc with rfl | hc
      · exact ha
      · exact ih h c hc
    · rw [List.dropWhile_cons_of_neg ha] at h; cases h
/-- Both orders give the same. -/
theorem trimr_triml (l : List UInt8) : trimr (triml l) = trim l := by
  have key : ∀ n (l : List UInt8), l.length = n → trimr (triml l) = triml (trimr l) := by
    intro n
    induction n with
    | zero => intro l hl; rw [List.length_eq_zero_iff.1 hl]; rfl
    | succ n ih =>
      intro l hl
      cases l with
      | nil => simp at hl
      | cons a r =>
        by_cases ha : blk a = true
        · rw [triml_cons_blk ha, ih r (by simpa using hl)]
          by_cases hr : ∀ c ∈ r, blk c = true
          · have all_nil : ∀ m : List UInt8, (∀ c ∈ m, blk c = true) → triml m = [] := by
              intro m hm
              induction m with
              | nil => rfl
              | cons x y ih2 => rw [triml_cons_blk (hm x (by simp))]; exact ih2 (fun c hc => hm c (by simp [hc]))
            have t1 : triml (trimr r) = [] := all_nil _ (fun c hc => hr c (by
              obtain ⟨q, e, _⟩ := trimr_prefix r
              rw [e]; exact List.mem_append_left _ hc))
            have t2 : triml (trimr (a :: r)) = [] := all_nil _ (fun c hc => by
              obtain ⟨q, e, _⟩ := trimr_prefix (a :: r)
              have : c ∈ a :: r := by rw [e]; exact List.mem_append_left _ hc
              rcases List.mem_cons.1 this with rfl | h
              · exact ha
              · exact hr c h)
            rw [t1, t2]
          · have e : trimr (a :: r) = a :: trimr r := by
              unfold trimr
              rw [List.reverse_cons]
              have hne : (r.reverse.dropWhile blk) ≠ [] := by
                intro hnil
                apply hr
                intro c hc
                exact dw_nil _ hnil c (by simpa using hc)
              have : (r.reverse ++ [a]).dropWhile blk = r.reverse.dropWhile blk ++ [a] := by
                rw [List.dropWhile_append]
                simp [hne]
              rw [this, List.reverse_append]; rfl
            rw [e, triml_cons_blk ha]
        · have ha' : blk a = false := by simpa using ha
          rw [triml_cons_no ha']
          have e : triml (trimr (a :: r)) = trimr (a :: r) := by
            apply triml_of_lok
            intro c t e
            obtain ⟨q, e', hq⟩ := trimr_prefix (a :: r)
            rw [e] at e'; injection e' with e1 _; subst e1; exact ha'
          rw [e]
  exact key _ l rfl

/-! quoted strings -/
def qot (c : UInt8) : List UInt8 := if c == 34 || c == 92 then [92, c] else [c]
def quo (l : List UInt8) : List UInt8 := 34 :: (l.flatMap qot ++ [34])
/-- What is read behind the first byte; and what stands behind the closing sign. -/
def unq : List UInt8 → List UInt8 × Option (List UInt8)
  | [] => ([], none)
  | [c] => if c == 34 then ([], some []) else ([c], none)
  | c :: d :: r => if c == 34 then ([], some (d :: r)) else if c == 92 then (d :: (unq r).1, (unq r).2) else (c :: (unq (d :: r)).1, (unq (d :: r)).2)
def unqText (l : List UInt8) : List UInt8 := (unq (l.drop 1)).1
def unqOk (l : List UInt8) : Bool := (l.head? == some 34) && ((unq (l.drop 1)).2 == some [])
theorem unq_quote (l r : List UInt8) : unq (l.flatMap qot ++ 34 :: r) = (l, some r) := by
  induction l with
  | nil => cases r <;> simp [unq]
  | cons c t ih =>
    rw [List.flatMap_cons, List.append_assoc]
    by_cases h : c == 34 || c == 92
    · have : qot c = [92, c] := by unfold qot; rw [if_pos h]
      rw [this, List.cons_append, List.cons_append, List.nil_append, unq, if_neg (by decide), if_pos (by decide), ih]
    · have hq : qot c = [c] := by unfold qot; rw [if_neg h]
      rw [hq, List.cons_append, List.nil_append]
      have h34 : ¬ (c == 34) = true := by intro hc; exact h (by simp [hc])
      have h92 : ¬ (c == 92) = true := by intro hc; exact h (by simp [hc])
      cases hx : (t.flatMap qot ++ 34 :: r) with
      | nil => simp at hx
      | cons d u =>
        rw [unq, if_neg h34, if_neg h92, ← hx, ih]
theorem unq_of_quo (l : List UInt8) : unqText (quo l) = l ∧ unqOk (quo l) = true := by
  unfold unqText unqOk quo
  simp [unq_quote l []]

/-! pairs -/
def idx (c : UInt8) : List UInt8 → Nat
  | [] => 0
  | a :: r => if a == c then 0 else idx c r + 1
theorem idx_le (c : UInt8) (l : List UInt8) : idx c l ≤ l.length := by
  induction l with
  | nil => simp [idx]
  | cons a r ih => unfold idx; split <;> simp <;> omega
theorem index_idx (c : UInt8) (l : List UInt8) : Lib.index l [c] = if idx c l < l.length then (idx c l : Int) else -1 := by
  induction l with
  | nil => simp [Lib.index, idx]
  | cons a r ih =>
    unfold Lib.index idx
    by_cases h : a == c
    · have : a = c := by simpa using h
      subst this
      simp [List.isPrefixOf]
    · have hp : List.isPrefixOf [c] (a :: r) = false := by
        have : (c == a) = false := by
          rw [Bool.eq_false_iff]; intro hc; apply h
          have : c = a := by simpa using hc
          subst this; simp
        simp [List.isPrefixOf, this]
      rw [if_neg (by simp [hp]), if_neg h, ih]
      by_cases hl : idx c r < r.length
      · have hn : ((idx c r : Int) == -1) = false := by rw [beq_eq_false_iff_ne]; omega
        rw [if_pos hl, hn, if_neg (by simp), if_pos (by simp; omega)]; omega
      · rw [if_neg hl, if_pos (by decide), if_neg (by simp; omega)]
def cutAt (c : UInt8) (l : List UInt8) : List UInt8 × List UInt8 × Bool :=
  if idx c l < l.length then (l.take (idx c l), l.drop (idx c l + 1), true) else (l, [], false)
theorem cut_at (c : UInt8) (l : List UInt8) : Lib.cut l [c] = cutAt c l := by
  unfold Lib.cut cutAt
  rw [index_idx]
  by_cases h : idx c l < l.length
  · rw [if_pos h, if_pos h, if_pos (by omega)]; simp
  · rw [if_neg h, if_neg h, if_neg (by omega)]
theorem idx_at (c : UInt8) (l : List UInt8) (h : idx c l < l.length) : l[idx c l] = c := by
  induction l with
  | nil => simp at h
  | cons a r ih =>
    unfold idx at h ⊢
    by_cases hc : a == c
    · simp [hc]; simpa using hc
    · simp [hc] at h ⊢; exact ih (by simpa [hc] using h)
theorem idx_before (c : UInt8) (l : List UInt8) (j : Nat) (h : j < idx c l) : ∀ hj : j < l.length, l[j] ≠ c := by
  induction l generalizing j with
  | nil => intro hj; simp at hj
  | cons a r ih =>
    intro hj
    unfold idx at h
    by_cases hc : a == c
    · simp [hc] at h
    · simp [hc] at h
      cases j with
      | zero => simp; simpa using hc
      | succ j => simp; exact ih j (by omega) _
theorem idx_eq {c : UInt8} {l : List UInt8} {k : Nat} (hk : k ≤ l.length) (h1 : ∀ j (hj : j < l.length), j < k → l[j] ≠ c) (h2 : ∀ h : k < l.length, l[k] = c) : idx c l = k := by
  rcases Nat.lt_trichotomy (idx c l) k with h | h | h
  · exact absurd (idx_at c l (by omega)) (h1 _ (by omega) h)
  · exact h
  · have hkl : k < l.length := by have := idx_le c l; omega
    exact absurd (h2 hkl) (idx_before c l k h hkl)
end Go.Proofs.YtindnhmigljkaaaGreatDoor.Tx

/-
  PLAIN FACTS on the bytes of a text, one by one.
-/
namespace Go.Proofs.YtindnhmigljkaaaGreatDoor.Tx
open Go
set_option linter.unusedVariables false
set_option maxRecDepth 1000000

theorem take_snoc (s : ByteArray) (k : Nat) (h : k < s.size) : s.data.toList.take (k + 1) = s.data.toList.take k ++ [s[k]] := by
  rw [List.take_succ_eq_append_getElem (by simpa using h)]; rfl
theorem drop_cons (s : ByteArray) (k : Nat) (h : k < s.size) : s.data.toList.drop k = s[k] :: s.data.toList.drop (k + 1) := by
  rw [List.drop_eq_getElem_cons (by simpa using h)]; rfl
theorem list_len (s : ByteArray) : s.data.toList.length = s.size := by rw [Array.length_toList]; rfl
theorem eq_nat {c : UInt8} {n : Nat} (hn : n < 256) : ((c.toNat : Int) == (n : Int)) = (c == UInt8.ofNat n) := by
  rw [Bool.eq_iff_iff, beq_iff_eq, beq_iff_eq]
  constructor
  · intro h; exact UInt8.toNat_inj.1 (by simp; omega)
  · intro h; rw [h]; simp; omega
theorem e34 (c : UInt8) : ((c.toNat : Int) == 34) = (c == 34) := eq_nat (n := 34) (by omega)
theorem e92 (c : UInt8) : ((c.toNat : Int) == 92) = (c == 92) := eq_nat (n := 92) (by omega)
theorem e44 (c : UInt8) : ((c.toNat : Int) == 44) = (c == 44) := eq_nat (n := 44) (by omega)

end Go.Proofs.YtindnhmigljkaaaGreatDoor.Tx

/-
  PLAIN FACTS on slices of bytes that a call makes out of a text, or builds byte by byte, and on reading them back as a text.
-/
namespace Go.Proofs.YtindnhmigljkaaaGreatDoor.Bys
open Go Go.RowKit
set_option linter.unusedVariables false
set_option maxRecDepth 1000000

theorem info_byte : (Tryz.prog.info? 5).map (fun i => (i.zero, i.size, i.bytes)) = some (some (.int .u8 0), 1, 1) := by kernel_rfl
def bvl (c : UInt8) : Value := .int .u8 (c.toNat : Int)
def bvs (l : List UInt8) : List Value := l.map bvl
theorem bvs_len (l : List UInt8) : (bvs l).length = l.length := by unfold bvs; simp
theorem bvs_more (l : List UInt8) (c : UInt8) : bvs (l ++ [c]) = bvs l ++ [bvl c] := by unfold bvs; simp
theorem bvl_one (c : UInt8) : ∀ u ∈ [bvl c], u.oneCell' = true := by intro u hu; simp at hu; subst hu; rfl
theorem ret_str {a b : List UInt8} (h : a = b) : Ending.returned (.string ⟨a.toArray⟩) = .returned (.string ⟨b.toArray⟩) := by rw [h]

/-- Block g holds these bytes, from its head on; they can be written. -/
def BAt (w : World) (g : Nat) (l : List UInt8) : Prop := g < w.heap.size ∧ ∀ j, j < l.length → w.cell? ⟨g, j, none⟩ = some (bvl (l.getD j 0)) ∧ w.frozen? ⟨g, j, none⟩ = false
theorem of_string (s : ByteArray) (w : World) : ∃ cap w1, (convert 9 92 (.string s)).run Tryz.prog w = .ok (.slice (some ⟨w.heap.size, 0, none⟩) s.size cap) w1 ∧ BAt w1 w.heap.size s.data.toList ∧ Below w.heap.size w w1 := by
  refine ⟨_, _, run_bytes_of_string w 9 92 5 s Tryz.underlying9 Tryz.underlying92 Tryz.underlying5, ⟨by simp, fun j hj => ?_⟩, (Below.refl _ _).drew.alloc (Nat.le_refl _) _⟩
  have hj' : j < s.data.size := by simpa using hj
  have hc := World.cell?_alloc_mark w.drew (bytesRow s (grownCap w s.size 0 5)) 5 ((bytesRow s (grownCap w s.size 0 5)).size, (bytesRow s (grownCap w s.size 0 5)).size + 1) j
  have hf := World.frozen?_alloc_mark w.drew (bytesRow s (grownCap w s.size 0 5)) 5 (bytesRow s (grownCap w s.size 0 5)).size ((bytesRow s (grownCap w s.size 0 5)).size + 1) j
  have hsz : j < (bytesRow s (grownCap w s.size 0 5)).size := by unfold bytesRow; rw [Array.size_append, Array.size_map]; omega
  refine ⟨?_, ?_⟩
  · refine (hc : _).trans ?_
    rw [bytesRow_at s _ j hj']
    have : s.data.toList.getD j 0 = s.data[j] := by simp [List.getD, Array.getElem?_eq_getElem hj']
    rw [this]; rfl
  · refine (hf : _).trans ?_
    simp; omega
theorem back (w : World) (g cap : Nat) (l : List UInt8) (h : BAt w g l) : (convert 92 9 (.slice (some ⟨g, 0, none⟩) l.length cap)).run Tryz.prog w = .ok (.string ⟨l.toArray⟩) w := by
  refine run_convert_bytes_back (P := Tryz.prog) w 92 9 5 ⟨g, 0, none⟩ cap l Tryz.underlying92 Tryz.underlying5 Tryz.underlying9 (fun j hj => ?_)
  rw [WideShapes.add_plain, Nat.zero_add, (h.2 j hj).1]
  simp [List.getD, hj, bvl]
theorem bat_set {w : World} {g k : Nat} {l : List UInt8} (c : UInt8) (h : BAt w g l) (hk : k < l.length) : BAt (w.setCell ⟨g, k, none⟩ (bvl c)) g (l.set k c) := by
  refine ⟨by simpa [World.setCell] using h.1, fun j hj => ?_⟩
  rw [List.length_set] at hj
  rw [World.frozen?_setCell]
  refine ⟨?_, (h.2 j hj).2⟩
  by_cases e : j = k
  · subst e
    rw [World.cell?_setCell_same' _ _ _ (by rw [(h.2 j hj).1]; rfl)]
    simp [List.getD, hj]
  · rw [World.cell?_setCell_other _ _ _ _ (by intro h'; apply e; injection h' with _ h2; exact h2.symm)]
    rw [(h.2 j hj).1]
    simp [List.getD, hj, List.getElem?_set, show ¬ k = j from fun h' => e h'.symm]
theorem bat_below {w w' : World} {B g : Nat} {l : List UInt8} (h : BAt w g l) (hb : Below B w w') (hg : g < B) : BAt w' g l :=
  ⟨Nat.lt_of_lt_of_le h.1 hb.size, fun j hj => ⟨(hb.cell (p := ⟨g, j, none⟩) hg).trans (h.2 j hj).1, (hb.frozen (p := ⟨g, j, none⟩) hg).trans (h.2 j hj).2⟩⟩
theorem bat_drew {w : World} {g : Nat} {l : List UInt8} (h : BAt w g l) : BAt w.drew g l := h
theorem below_set {B : Nat} {a w : World} {g k : Nat} (u : Value) (h : Below B a w) (hg : B ≤ g) : Below B a (w.setCell ⟨g, k, none⟩ u) := h.setCell hg _

/-! bytes put one behind another -/
abbrev Own (w : World) (B : Nat) (v : Value) (l : List UInt8) : Prop := w.ownsRow B 5 1 v l.length (bvs l)
theorem news_one (w : World) (x : Value) (T : TypeId) : ∀ j u, [x][j]? = some u → (w.alloc (.cells #[x] T)).cell? ((⟨w.heap.size, 0, none⟩ : Addr).add j) = some u := by
  intro j u hj
  match j, hj with
  | 0, hj =>
    simp at hj; subst hj
    show World.cell? _ ⟨w.heap.size, 0 + 0, none⟩ = _
    rw [World.cell?_alloc_new]; simp
theorem push_own {B : Nat} {a w w1 : World} {v v' : Value} {l : List UInt8} {c : UInt8} {o : Obj} (hown : Own w B v l) (hb : Below a.heap.size a w) (hB : a.heap.size ≤ B)
    (h' : w1.ownsRow B 5 1 v' (l.length + 1) (bvs l ++ [bvl c])) (hg : (w.alloc o).grownBy w1 v.ownBlock) :
    Own w1 B v' (l ++ [c]) ∧ Below a.heap.size a w1 := by
  refine ⟨by show w1.ownsRow B 5 1 v' (l ++ [c]).length (bvs (l ++ [c])); rw [List.length_append, bvs_more]; exact h', (hb.alloc hb.size o).grown hg (by have := hb.size; simp; omega) (fun k e => Nat.le_trans hB (hown.lt k e).1)⟩
theorem own_lit_nil (w : World) : Own (w.alloc (.cells #[] 5)) w.heap.size (.slice (some ⟨w.heap.size, 0, none⟩) 0 0) [] := World.ownsRow_lit w #[] 0 (Nat.le_refl _) (by decide) rfl
theorem own_lit_one (w : World) (c : UInt8) : Own (w.alloc (.cells #[bvl c] 5)) w.heap.size (.slice (some ⟨w.heap.size, 0, none⟩) 1 1) [c] := World.ownsRow_lit w #[bvl c] 1 (Nat.le_refl _) (by decide) rfl
/-- A slice of bytes that the call has built, read as a text. -/
theorem own_str {w : World} {B : Nat} {v : Value} {l : List UInt8} (h : Own w B v l) : (convert 92 9 v).run Tryz.prog w = .ok (.string ⟨l.toArray⟩) w := by
  have h' := h
  rcases h.2 with ⟨rfl, h0⟩ | ⟨g, cap, cur, rfl, _⟩
  · have : l = [] := List.eq_nil_of_length_eq_zero (by omega)
    subst this
    exact run_convert_bytes_nil w 92 5 Tryz.underlying92 Tryz.underlying5 0 0 9 Tryz.underlying9
  · refine run_convert_bytes_back (P := Tryz.prog) w 92 9 5 ⟨g, 0, none⟩ cap l Tryz.underlying92 Tryz.underlying5 Tryz.underlying9 (fun j hj => ?_)
    rw [WideShapes.add_plain, Nat.zero_add, h'.cellAt j (by omega)]
    simp [bvs, hj, bvl]
end Go.Proofs.YtindnhmigljkaaaGreatDoor.Bys

/-
  PLAIN FACTS on targets: the percent signs of a text in their one way.
-/
namespace Go.Proofs.YtindnhmigljkaaaGreatDoor.Nt
open Go Go.RowKit
set_option linter.unusedVariables false
set_option maxRecDepth 1000000

def hexn (c : UInt8) : Nat := if 48 ≤ c.toNat ∧ c.toNat ≤ 57 then c.toNat - 48 else if 97 ≤ c.toNat ∧ c.toNat ≤ 102 then c.toNat - 87 else if 65 ≤ c.toNat ∧ c.toNat ≤ 70 then c.toNat - 55 else 16
def hexi (c : UInt8) : Int := if hexn c < 16 then (hexn c : Int) else -1
theorem hexi_yes {c : UInt8} (h : hexn c < 16) : hexi c = (hexn c : Int) := if_pos h
theorem hexi_no {c : UInt8} (h : ¬ hexn c < 16) : hexi c = -1 := if_neg h
def plainb (b : UInt8) : Bool := Tx.letc b || (b == 45 || b == 46 || b == 95 || b == 126)
def dig (n : Nat) : UInt8 := UInt8.ofNat (if n < 10 then 48 + n else 55 + n)
def bt (x y : Nat) : UInt8 := UInt8.ofNat (16 * x + y)
theorem bt_nat {x y : Nat} (hx : x < 16) (hy : y < 16) : (bt x y).toNat = 16 * x + y := by
  unfold bt; rw [UInt8.toNat_ofNat']; omega
def code (x y : Nat) : List UInt8 := if plainb (bt x y) = true then [bt x y] else [37, dig x, dig y]
theorem code_yes {x y : Nat} (h : plainb (bt x y) = true) : code x y = [bt x y] := if_pos h
theorem code_no {x y : Nat} (h : plainb (bt x y) = false) : code x y = [37, dig x, dig y] := if_neg (by simp [h])
theorem code_len (x y : Nat) : (code x y).length ≤ 3 := by unfold code; split <;> simp

/-- The text with each percent sign in its one way; none if one is bad. -/
def norm : List UInt8 → Option (List UInt8)
  | [] => some []
  | c :: r =>
    if c = 37 then
      match r with
      | a :: b :: t => if hexn a < 16 ∧ hexn b < 16 then (norm t).map (code (hexn a) (hexn b) ++ ·) else none
      | _ => none
    else (norm r).map (c :: ·)
theorem norm_nil : norm [] = some [] := by rw [norm]
theorem norm_plain {c : UInt8} (r : List UInt8) (h : c ≠ 37) : norm (c :: r) = (norm r).map ([c] ++ ·) := by rw [norm.eq_def]; simp only [if_neg h]; rfl
theorem norm_code {a b : UInt8} (t : List UInt8) (h1 : hexn a < 16) (h2 : hexn b < 16) : norm (37 :: a :: b :: t) = (norm t).map (code (hexn a) (hexn b) ++ ·) := by
  rw [norm.eq_def]; simp only [if_true]; rw [if_pos ⟨h1, h2⟩]
theorem norm_short {r : List UInt8} (h : r.length < 2) : norm (37 :: r) = none := by
  rw [norm.eq_def]; simp only [if_true]
  match r, h with
  | [], _ => rfl
  | [_], _ => rfl
theorem norm_bad {a b : UInt8} (t : List UInt8) (h : ¬ (hexn a < 16 ∧ hexn b < 16)) : norm (37 :: a :: b :: t) = none := by
  rw [norm.eq_def]; simp only [if_true]; rw [if_neg h]
/-- .. as two results. -/
def normp (l : List UInt8) : List UInt8 × Bool := match norm l with | some t => (t, true) | none => ([], false)
theorem normp_some {l t : List UInt8} (h : norm l = some t) : normp l = (t, true) := by unfold normp; rw [h]
theorem normp_none {l : List UInt8} (h : norm l = none) : normp l = ([], false) := by unfold normp; rw [h]
theorem norm_len : ∀ (n : Nat) (l t : List UInt8), l.length ≤ n → norm l = some t → t.length ≤ l.length
  | 0, l, t, hn, h => by
    have : l = [] := List.eq_nil_of_length_eq_zero (by omega)
    subst this; rw [norm_nil] at h; cases h; simp
  | n + 1, [], t, hn, h => by rw [norm_nil] at h; cases h; simp
  | n + 1, c :: r, t, hn, h => by
    by_cases hc : c = 37
    · subst hc
      match r, hn, h with
      | [], hn, h => rw [norm_short (by simp)] at h; cases h
      | [_], hn, h => rw [norm_short (by simp)] at h; cases h
      | a :: b :: r', hn, h =>
        by_cases hx : hexn a < 16 ∧ hexn b < 16
        · rw [norm_code r' hx.1 hx.2] at h
          cases hr : norm r' with
          | none => rw [hr] at h; cases h
          | some q =>
            rw [hr] at h; cases h
            have := norm_len n r' q (by simp at hn; omega) hr
            have := code_len (hexn a) (hexn b)
            simp only [List.length_append, List.length_cons]; omega
        · rw [norm_bad r' hx] at h; cases h
    · rw [norm_plain r hc] at h
      cases hr : norm r with
      | none => rw [hr] at h; cases h
      | some q =>
        rw [hr] at h; cases h
        have := norm_len n r q (by simp at hn; omega) hr
        simp; omega
theorem normp_len (l : List UInt8) : (normp l).1.length ≤ l.length := by
  cases h : norm l with
  | none => rw [normp_none h]; simp
  | some t => rw [normp_some h]; exact norm_len _ l t (Nat.le_refl _) h

/-- What a walk over the bytes of s holds at place k: out is what the bytes before mean. -/
def NR (s : ByteArray) (k : Nat) (out : List UInt8) : Prop := norm s.data.toList = (norm (s.data.toList.drop k)).map (out ++ ·) ∧ out.length ≤ k
theorem nr_start (s : ByteArray) : NR s 0 [] := ⟨by rw [List.drop_zero]; cases norm s.data.toList <;> rfl, Nat.le_refl _⟩
theorem map_map (o : Option (List UInt8)) (a b : List UInt8) : (o.map (b ++ ·)).map (a ++ ·) = o.map ((a ++ b) ++ ·) := by cases o <;> simp
theorem nr_plain {s : ByteArray} {k : Nat} {out : List UInt8} (h : NR s k out) (hk : k < s.size) (hc : s[k] ≠ 37) : NR s (k + 1) (out ++ [s[k]]) := by
  refine ⟨?_, by have := h.2; simp; omega⟩
  rw [h.1, Tx.drop_cons s k hk, norm_plain _ hc, map_map]
theorem nr_code {s : ByteArray} {k : Nat} {out : List UInt8} (h : NR s k out) (hk : k + 2 < s.size) (hc : s[k] = 37) (h1 : hexn s[k + 1] < 16) (h2 : hexn s[k + 2] < 16) : NR s (k + 3) (out ++ code (hexn s[k + 1]) (hexn s[k + 2])) := by
  refine ⟨?_, by have := h.2; have := code_len (hexn s[k + 1]) (hexn s[k + 2]); simp; omega⟩
  rw [h.1, Tx.drop_cons s k (by omega), Tx.drop_cons s (k + 1) (by omega), Tx.drop_cons s (k + 2) hk, hc, norm_code _ h1 h2, map_map]
theorem nr_short {s : ByteArray} {k : Nat} {out : List UInt8} (h : NR s k out) (hk : k < s.size) (hc : s[k] = 37) (h2 : s.size ≤ k + 2) : norm s.data.toList = none := by
  rw [h.1, Tx.drop_cons s k hk, hc, norm_short (by rw [List.length_drop, Tx.list_len]; omega)]; rfl
theorem nr_bad {s : ByteArray} {k : Nat} {out : List UInt8} (h : NR s k out) (hk : k + 2 < s.size) (hc : s[k] = 37) (hx : ¬ (hexn s[k + 1] < 16 ∧ hexn s[k + 2] < 16)) : norm s.data.toList = none := by
  rw [h.1, Tx.drop_cons s k (by omega), Tx.drop_cons s (k + 1) (by omega), Tx.drop_cons s (k + 2) hk, hc, norm_bad _ hx]; rfl
theorem nr_end {s : ByteArray} {k : Nat} {out : List UInt8} (h : NR s k out) (hk : ¬ k < s.size) : norm s.data.toList = some out := by
  rw [h.1, List.drop_of_length_le (by rw [Tx.list_len]; omega), norm_nil]; simp

/-! the sixteen digits -/
def hexs : ByteArray := ⟨#[48, 49, 50, 51, 52, 53, 54, 55, 56, 57, 65, 66, 67, 68, 69, 70]⟩
theorem hex_fin : ∀ r : Fin 16, (⟨#[48, 49, 50, 51, 52, 53, 54, 55, 56, 57, 65, 66, 67, 68, 69, 70]⟩ : ByteArray)[r.1]'(r.2) = dig r.1 := by decide
theorem hex_at (u : Nat) (h : u < (⟨#[48, 49, 50, 51, 52, 53, 54, 55, 56, 57, 65, 66, 67, 68, 69, 70]⟩ : ByteArray).size) :
    (⟨#[48, 49, 50, 51, 52, 53, 54, 55, 56, 57, 65, 66, 67, 68, 69, 70]⟩ : ByteArray)[u]'h = dig u := hex_fin ⟨u, h⟩
def PairEnd (p : List UInt8 × Bool) (w : World) (e : Ending) (w' : World) : Prop := e = .returned (.tuple #[.string ⟨p.1.toArray⟩, .bool p.2]) ∧ Below w.heap.size w w'
theorem ret_p {p q : List UInt8 × Bool} (h : p = q) : Ending.returned (.tuple #[.string ⟨p.1.toArray⟩, .bool p.2]) = .returned (.tuple #[.string ⟨q.1.toArray⟩, .bool q.2]) := by rw [h]
end Go.Proofs.YtindnhmigljkaaaGreatDoor.Nt
