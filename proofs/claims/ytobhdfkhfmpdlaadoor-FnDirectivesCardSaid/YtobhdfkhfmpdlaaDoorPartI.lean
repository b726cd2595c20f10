/-
  CONTRACTS AND PLAIN FACTS, several texts in one; each says in its own words what it proves.
-/
import Derived.Test.YtobhdfkhfmpdlaaDoorPartG
import Derived.Test.YtobhdfkhfmpdlaaDoorPartH
import Derived.Test.YtobhdfkhfmpdlaaDoorPartA
import Derived.Stop.LaidErr
import Derived.LaidMore
import Derived.Test.YtobhdfkhfmpdlaaDoorRows
import Derived.WalkKit
import Derived.ProofKit
import Derived.Lib.Hide
import Derived.OpenShut
import Derived.Test.YtobhdfkhfmpdlaaDoorPartD
import Derived.Test.YtobhdfkhfmpdlaaDoorPartF
import Derived.LoopTactic
set_option linter.unusedSimpArgs false
set_option linter.unusedVariables false

/-
  PLAIN FACTS: directives that were read are read back from what is written of them; their names are small letters and found; the numbers that they hold lie in their range.
-/
namespace Go.Proofs.YtobhdfkhfmpdlaaDoor.Dir
open Go Go.RowKit
set_option linter.unusedVariables false
set_option maxRecDepth 1000000

theorem tok_solid {c : UInt8} (h : Tx.tokc c = true) : c ≠ 34 ∧ c ≠ 44 ∧ c ≠ 61 ∧ Tx.blk c = false := by
  have hh : ∀ n : Fin 256, (!Tx.tokc (UInt8.ofNat n.1) || (UInt8.ofNat n.1 != 34 && UInt8.ofNat n.1 != 44 && UInt8.ofNat n.1 != 61 && !Tx.blk (UInt8.ofNat n.1))) = true := by decide +kernel
  have e : UInt8.ofNat c.toNat = c := by simp
  have h1 := hh ⟨c.toNat, c.toNat_lt⟩
  rw [e, h] at h1
  simpa [and_assoc] using h1
theorem tok_all {x : List UInt8} (h : Tx.token x = true) : (∀ c ∈ x, Tx.tokc c = true) ∧ x ≠ [] := by
  unfold Tx.token at h
  simp only [Bool.and_eq_true, List.all_eq_true, decide_eq_true_eq] at h
  refine ⟨h.1, fun e => ?_⟩
  subst e; simp at h
theorem scan_toks : ∀ (x r : List UInt8), (∀ c ∈ x, Tx.tokc c = true) → Tx.scan false (x ++ r) = Tx.scan false r
  | [], r, _ => rfl
  | c :: x, r, h => by
    obtain ⟨h1, h2, _, _⟩ := tok_solid (h c (by simp))
    rw [List.cons_append, Tx.scan_cons]
    simp only [Bool.false_and, Bool.not_false, Bool.true_and, Bool.false_eq_true, if_false, beq_iff_eq, h1, h2]
    exact scan_toks x r (fun d hd => h d (by simp [hd]))
theorem scan_flat : ∀ (l r : List UInt8), Tx.scan true (l.flatMap Tx.qot ++ r) = Tx.scan true r
  | [], r => rfl
  | c :: l, r => by
    rw [List.flatMap_cons]
    by_cases h : c = 34 ∨ c = 92
    · rw [Tx.qot_yes h]
      show Tx.scan true (92 :: c :: (l.flatMap Tx.qot ++ r)) = _
      rw [Tx.scan_cons]
      simp
      exact scan_flat l r
    · rw [Tx.qot_no h]
      show Tx.scan true (c :: (l.flatMap Tx.qot ++ r)) = _
      rw [Tx.scan_cons]
      have h1 : c ≠ 34 := fun e => h (Or.inl e)
      have h2 : c ≠ 92 := fun e => h (Or.inr e)
      simp [h1, h2]
      exact scan_flat l r
theorem scan_quo (l : List UInt8) : Tx.scan false (Tx.quo l) = some false := by
  unfold Tx.quo
  rw [Tx.scan_cons]
  simp
  rw [scan_flat, Tx.scan_cons]
  simp [Tx.scan_nil]
theorem scan_vtx (v : List UInt8) : Tx.scan false (vtx v) = some false := by
  unfold vtx
  split
  · rename_i h
    have := scan_toks v [] (tok_all h).1
    rw [List.append_nil, Tx.scan_nil] at this; exact this
  · exact scan_quo v

/-- What a directive that was read is like. -/
def Good (d : T) : Prop := Tx.token d.1 = true ∧ Tx.lower d.1 = d.1 ∧ (d.2.2 = false → d.2.1 = [])
theorem scan_dtx {d : T} (h : Good d) : Tx.scan false (dtx d) = some false := by
  unfold dtx
  split
  · rw [List.append_assoc, scan_toks _ _ (tok_all h.1).1]
    show Tx.scan false (61 :: vtx d.2.1) = _
    rw [Tx.scan_cons]
    simp [scan_vtx]
  · have := scan_toks d.1 [] (tok_all h.1).1
    rw [List.append_nil, Tx.scan_nil] at this; exact this

theorem rok_tail {y z : List UInt8} (h : Tx.Rok z) (h0 : z ≠ []) : Tx.Rok (y ++ z) := by
  intro c t e
  obtain h1 | ⟨u, d, rfl⟩ := Tx.snoc_cases z
  · exact absurd h1 h0
  · have e' : (y ++ u) ++ [d] = t ++ [c] := by rw [← e, List.append_assoc]
    have := List.append_inj_right' e' rfl
    simp at this
    subst this
    exact h d u rfl
theorem rok_tok {x : List UInt8} (h : ∀ c ∈ x, Tx.tokc c = true) : Tx.Rok x := by
  intro c t e
  exact (tok_solid (h c (by rw [e]; simp))).2.2.2
theorem lok_tok {x r : List UInt8} (h : Tx.token x = true) : Tx.Lok (x ++ r) := by
  intro c t e
  obtain ⟨h1, h0⟩ := tok_all h
  cases x with
  | nil => exact absurd rfl h0
  | cons a u =>
    simp at e
    rw [← e.1]
    exact (tok_solid (h1 a (by simp))).2.2.2
theorem lok_quo (v : List UInt8) : Tx.Lok (Tx.quo v) := by
  intro c t e
  unfold Tx.quo at e
  simp at e
  rw [← e.1]; decide
theorem rok_quo (v : List UInt8) : Tx.Rok (Tx.quo v) := by
  unfold Tx.quo
  rw [show (34 : UInt8) :: (v.flatMap Tx.qot ++ [34]) = (34 :: v.flatMap Tx.qot) ++ [34] from rfl]
  refine rok_tail ?_ (by simp)
  intro c t e
  have e' : ([] : List UInt8) ++ [34] = t ++ [c] := e
  have := List.append_inj_right' e' rfl
  simp at this
  rw [← this]; decide
theorem quo_ne (v : List UInt8) : Tx.quo v ≠ [] := by unfold Tx.quo; simp
theorem vtx_ok (v : List UInt8) : Tx.trim (vtx v) = vtx v ∧ Tx.Rok (vtx v) ∧ vtx v ≠ [] := by
  unfold vtx
  split
  · rename_i h
    have hl : Tx.Lok v := by have := lok_tok (r := []) h; rwa [List.append_nil] at this
    exact ⟨Tx.trim_of_ok hl (rok_tok (tok_all h).1), rok_tok (tok_all h).1, (tok_all h).2⟩
  · exact ⟨Tx.trim_of_ok (lok_quo v) (rok_quo v), rok_quo v, quo_ne v⟩
theorem name_trim {x : List UInt8} (h : Tx.token x = true) : Tx.trim x = x := by
  have hl : Tx.Lok x := by have := lok_tok (r := []) h; rwa [List.append_nil] at this
  exact Tx.trim_of_ok hl (rok_tok (tok_all h).1)
theorem dtx_ok {d : T} (h : Good d) : dtx d ≠ [] ∧ Tx.trim (dtx d) = dtx d := by
  unfold dtx
  split
  · refine ⟨by simp, Tx.trim_of_ok ?_ (rok_tail (vtx_ok d.2.1).2.1 (vtx_ok d.2.1).2.2)⟩
    rw [List.append_assoc]; exact lok_tok h.1
  · exact ⟨(tok_all h.1).2, name_trim h.1⟩

theorem cut_none {c : UInt8} {x : List UInt8} (h : ∀ d ∈ x, d ≠ c) : Tx.cutAt c x = (x, [], false) := by
  have hi : Tx.idx c x = x.length := Tx.idx_eq (Nat.le_refl _) (fun j hj _ => h _ (List.getElem_mem _)) (fun h => absurd h (Nat.lt_irrefl _))
  unfold Tx.cutAt; rw [hi, if_neg (Nat.lt_irrefl _)]
theorem cut_first {c : UInt8} {x : List UInt8} (r : List UInt8) (h : ∀ d ∈ x, d ≠ c) : Tx.cutAt c (x ++ c :: r) = (x, r, true) := by
  have hi : Tx.idx c (x ++ c :: r) = x.length := by
    refine Tx.idx_eq (by simp) (fun j hj hlt => ?_) (fun h => ?_)
    · rw [List.getElem_append_left hlt]; exact h _ (List.getElem_mem _)
    · simp
  unfold Tx.cutAt
  rw [hi, if_pos (by simp)]
  simp
theorem dread_dtx {d : T} (h : Good d) : dread (dtx d) = some d := by
  obtain ⟨a, v, q⟩ := d
  obtain ⟨h1, h2, h3⟩ := h
  have hne : ∀ c ∈ a, c ≠ 61 := fun c hc => (tok_solid ((tok_all h1).1 c hc)).2.2.1
  cases q with
  | false =>
    obtain rfl : v = [] := h3 rfl
    have hp : Tx.pairs a = (a, [], false) := by unfold Tx.pairs; rw [cut_none hne]; show (Tx.trim a, Tx.trim [], false) = _; rw [name_trim h1]; rfl
    show dread a = _
    rw [dread_eq hp]
    have h1' : Tx.token a = true := h1
    have h2' : Tx.lower a = a := h2
    simp [h1', h2']
  | true =>
    have hp : Tx.pairs (a ++ [61] ++ vtx v) = (a, vtx v, true) := by
      unfold Tx.pairs; rw [List.append_assoc]
      show (Tx.trim (Tx.cutAt 61 (a ++ 61 :: vtx v)).1, Tx.trim (Tx.cutAt 61 (a ++ 61 :: vtx v)).2.1, (Tx.cutAt 61 (a ++ 61 :: vtx v)).2.2) = _
      rw [cut_first _ hne]
      show (Tx.trim a, Tx.trim (vtx v), true) = _
      rw [name_trim h1, (vtx_ok v).1]
    show dread (a ++ [61] ++ vtx v) = _
    rw [dread_eq hp]
    have h1' : Tx.token a = true := h1
    have h2' : Tx.lower a = a := h2
    by_cases hv : Tx.token v = true
    · have : vtx v = v := by unfold vtx; rw [if_pos hv]
      rw [this]; simp [h1', h2', hv]
    · have : vtx v = Tx.quo v := by unfold vtx; rw [if_neg hv]
      rw [this]
      have hq : Tx.token (Tx.quo v) = false := by unfold Tx.quo; exact quote_token _
      simp [h1', h2', hq, (Tx.unq_of_quo v).1, (Tx.unq_of_quo v).2]
theorem dread_good {x : List UInt8} {d : T} (h : dread x = some d) : Good d := by
  unfold dread at h
  split at h
  · rename_i ht
    split at h
    · split at h
      · cases h; exact ⟨(token_low _).trans ht, Tx.lower_lower _, fun e => by cases e⟩
      · split at h
        · cases h; exact ⟨(token_low _).trans ht, Tx.lower_lower _, fun e => by cases e⟩
        · cases h
    · cases h; exact ⟨(token_low _).trans ht, Tx.lower_lower _, fun _ => rfl⟩
  · cases h
theorem parts_good (xs : List (List UInt8)) : ∀ d ∈ dparts xs, Good d := by
  intro d hd
  unfold dparts at hd
  obtain ⟨x, _, hx⟩ := List.mem_filterMap.1 hd
  exact dread_good hx
theorem parse_good (s : List UInt8) : ∀ d ∈ dparse s, Good d := parts_good _
theorem parts_back {l : List T} (h : ∀ d ∈ l, Good d) : dparts (dtxs l) = l := by
  unfold dparts dtxs
  induction l with
  | nil => rfl
  | cons d r ih =>
    rw [List.map_cons, List.filterMap_cons, dread_dtx (h d (by simp))]
    simp only
    rw [ih (fun e he => h e (by simp [he]))]
theorem split_back {l : List T} (h : ∀ d ∈ l, Good d) : Tx.split (Tx.join (dtxs l)) = dtxs l := by
  rcases List.eq_nil_or_concat l with h0 | ⟨t, z, hz⟩
  · subst h0
    show Tx.split (Tx.join []) = []
    rw [Tx.join_nil]; unfold Tx.split; rw [Tx.cuts_nil]; rfl
  · have hz' : l = t ++ [z] := by simpa using hz
    subst hz'
    have hg : Good z := h z (by simp)
    rw [show dtxs (t ++ [z]) = dtxs t ++ [dtx z] by unfold dtxs; simp]
    refine Tx.split_join_chain _ _ (fun x hx => ?_) (Tx.one_of_scan (scan_dtx hg)) (dtx_ok hg).1 (dtx_ok hg).2
    unfold dtxs at hx
    obtain ⟨d, hd, rfl⟩ := List.mem_map.1 hx
    have hd' := h d (by simp [hd])
    exact ⟨scan_dtx hd', (dtx_ok hd').1, (dtx_ok hd').2⟩
/-- Directives that were read are read back from their text. -/
theorem parse_back (s : List UInt8) : dparse (fmt (dparse s)) = dparse s := by
  have h := parse_good s
  generalize dparse s = l at h ⊢
  unfold dparse fmt
  rw [split_back h, parts_back h]

/-- The name of a directive in the list is found there. -/
theorem found {l : List T} {k : Nat} (h : k < l.length) : ∃ j, j < l.length ∧ at1 (l.getD k nov).1 l = (j : Int) := by
  rcases at1_cases (l.getD k nov).1 l with h1 | ⟨j, hj, he⟩
  · exfalso
    have hf : fnd (l.getD k nov).1 l < l.length := by
      unfold fnd
      rw [List.findIdx_lt_length]
      exact ⟨l[k], List.getElem_mem _, by simp [List.getD, h]⟩
    unfold at1 at h1
    rw [if_pos hf] at h1
    omega
  · exact ⟨j, hj, he⟩
theorem sof_found {l : List T} {k : Nat} (h : k < l.length) : (sof (l.getD k nov).1 l).2 = true ∧ 0 ≤ (sof (l.getD k nov).1 l).1 ∧ (sof (l.getD k nov).1 l).1 ≤ 2147483648 := by
  obtain ⟨j, hj, he⟩ := found h
  rw [sof_at he]
  exact ⟨rfl, secs_bd _⟩

/-- How long a directive is that was read. -/
theorem unqText_len (l : List UInt8) : (Tx.unqText l).length ≤ l.length := by
  have h : ∀ n (m : List UInt8), m.length ≤ n → (Tx.unq m).1.length ≤ m.length := by
    intro n
    induction n with
    | zero => intro m hm; obtain rfl : m = [] := List.eq_nil_of_length_eq_zero (by omega); rw [Tx.unq_nil]; simp
    | succ n ih =>
      intro m hm
      match m, hm with
      | [], _ => rw [Tx.unq_nil]; simp
      | c :: r, hm =>
        simp at hm
        by_cases h34 : c = 34
        · subst h34; rw [Tx.unq_34]; simp
        · by_cases h92 : c = 92
          · subst h92
            match r, hm with
            | [], _ => rw [Tx.unq_plain (by decide) (Or.inr rfl), Tx.unq_nil]; simp
            | d :: r, hm => rw [Tx.unq_esc]; simp at hm ⊢; have := ih r (by omega); omega
          · rw [Tx.unq_plain h34 (Or.inl h92)]; simp; exact ih r (by omega)
  unfold Tx.unqText
  have := h _ (l.drop 1) (Nat.le_refl _)
  rw [List.length_drop] at this
  omega
theorem low_same (a : List UInt8) : (Tx.lower a).length = a.length := by unfold Tx.lower; simp
theorem dread_len {x : List UInt8} {d : T} (h : dread x = some d) : wt d ≤ 2 * x.length := by
  obtain ⟨h1, h2⟩ := pairs_len x
  have h3 := unqText_len (Tx.pairs x).2.1
  have h4 := low_same (Tx.pairs x).1
  unfold dread at h
  unfold wt
  split at h
  · split at h
    · split at h
      · cases h; simp only; omega
      · split at h
        · cases h; simp only; omega
        · cases h
    · cases h; simp only [List.length_nil]; omega
  · cases h
theorem parse_total (s : List UInt8) : total (dparse s) ≤ (s.length + 1) * (2 * s.length + 1) := by
  have hn : (dparse s).length ≤ s.length + 1 := Nat.le_trans (dparts_len _) (Tx.split_count s)
  have hw : ∀ d ∈ dparse s, wt d ≤ 2 * s.length := by
    intro d hd
    unfold dparse dparts at hd
    obtain ⟨x, hx, hxd⟩ := List.mem_filterMap.1 hd
    have := dread_len hxd
    have := Tx.split_elem s x hx
    omega
  generalize dparse s = l at hn hw
  have hs : (l.map wt).sum ≤ l.length * (2 * s.length) := by
    clear hn
    induction l with
    | nil => simp
    | cons a r ih =>
      have := ih (fun d hd => hw d (by simp [hd]))
      have := hw a (by simp)
      simp only [List.map_cons, List.sum_cons, List.length_cons, Nat.add_mul, Nat.one_mul]
      omega
  have ht : total l = l.length + (l.map wt).sum := by unfold total Rec.total; omega
  rw [ht]
  have : l.length * (2 * s.length) ≤ (s.length + 1) * (2 * s.length) := Nat.mul_le_mul_right _ hn
  rw [Nat.mul_add, Nat.mul_one]
  omega
/-- How long the text of directives is. -/
theorem fmt_len (l : List T) : (fmt l).length ≤ 6 * total l := by
  have h := Tx.join_len (dtxs l) (dtxs l).length (Nat.le_refl _)
  rw [List.take_length] at h
  have h1 := Tx.pre_le (dtxs l) (dtxs l).length
  have h2 := dtxs_total l
  have h3 := dtxs_len l
  have h4 := len_le_total l
  have h5 : ((dtxs l).map (·.length)).sum ≤ Strs.total (dtxs l) := by unfold Strs.total; omega
  unfold fmt
  omega
end Go.Proofs.YtobhdfkhfmpdlaaDoor.Dir

/-
  WHAT the contracts ask of the world: the program's two errors of directives are there. And: from a row's listed variables to that.
-/
namespace Go.Proofs.YtobhdfkhfmpdlaaDoor.Dir
open Go Go.RowKit
set_option linter.unusedVariables false
set_option maxRecDepth 1000000

def IsErr (w : World) (g : Nat) : Prop := g < w.heap.size ∧ ∃ tp p, w.cell? ⟨g, 0, none⟩ = some (.iface tp p)
theorem err_below {w w' : World} {g : Nat} (h : IsErr w g) (hb : Below w.heap.size w w') : IsErr w' g := by
  obtain ⟨hg, tp, p, hc⟩ := h
  exact ⟨Nat.lt_of_lt_of_le hg hb.size, tp, p, (hb.cell (p := ⟨g, 0, none⟩) hg).trans hc⟩
theorem err_of_var {P : Program} {w : World} {name : String} {g : Nat} {tp : TypeId} {p : Value} (hg : P.globalNamed name = some g) (h : w.var? P name = some #[.iface tp p]) : IsErr w g := by
  unfold World.var? at h
  rw [hg] at h
  simp only [Option.bind_some] at h
  have hlt : g < w.heap.size := by
    rcases Nat.lt_or_ge g w.heap.size with h' | h'
    · exact h'
    · rw [Array.getElem?_eq_none h'] at h; simp at h
  refine ⟨hlt, tp, p, ?_⟩
  unfold World.cell?
  rw [Array.getElem?_eq_getElem hlt] at h ⊢
  simp only [Option.bind_some] at h ⊢
  revert h
  cases w.heap[g] with
  | cells cs ty fz => intro h; simp [Obj.cells] at h ⊢; subst h; rfl
  | _ => intro h; simp at h
def Errs (w : World) : Prop := IsErr w 0 ∧ IsErr w 1
theorem errs_below {w w' : World} (h : Errs w) (hb : Below w.heap.size w w') : Errs w' := ⟨err_below h.1 hb, err_below h.2 hb⟩
theorem at_head {P : Program} {w : World} {n : String} {d : DataW Unit} : ∀ {l : List (String × DataW Unit)}, laidMet P l w → (n, d) ∈ l → ∃ r, laidMet P ((n, d) :: r) w
  | [], _, hm => by cases hm
  | x :: r, h, hm => by
    rcases List.mem_cons.1 hm with e | e
    · cases e; exact ⟨r, h⟩
    · exact at_head h.tail e
theorem laid_errs {l : List (String × DataW Unit)} {W : World} (h : laidMet Tryd.prog l W) (h1 : ("loop.example/g03012/impl.errDirectiveName", Rows.laid_loop_example_g03012_impl_errDirectiveName) ∈ l) (h2 : ("loop.example/g03012/impl.errDirectiveValue", Rows.laid_loop_example_g03012_impl_errDirectiveValue) ∈ l) : Errs W := by
  obtain ⟨r1, k1⟩ := at_head h h1
  obtain ⟨r2, k2⟩ := at_head h h2
  have row : ∀ u, Tryd.prog.typeName? 3 u = some "*errors.errorString" → u = 129 :=
    fun u hu => typeName_ptr_named (nm := "errors.errorString") (by kernel_rfl) (by kernel_rfl) (by decide) u hu
  have g1 : Tryd.prog.globalNamed "loop.example/g03012/impl.errDirectiveName" = some 0 := by kernel_rfl
  have g2 : Tryd.prog.globalNamed "loop.example/g03012/impl.errDirectiveValue" = some 1 := by kernel_rfl
  obtain ⟨a1, s1, v1, _⟩ := laid_sentinel k1 g1 (show (Tryd.prog.globals[0]?).map (·.type) = some 55 by kernel_rfl) Tryd.underlying55 row Tryd.underlying129 Tryd.underlying144 rfl rfl Tryd.underlying9 (by kernel_rfl) (by kernel_rfl)
  obtain ⟨a2, s2, v2, _⟩ := laid_sentinel k2 g2 (show (Tryd.prog.globals[1]?).map (·.type) = some 55 by kernel_rfl) Tryd.underlying55 row Tryd.underlying129 Tryd.underlying144 rfl rfl Tryd.underlying9 (by kernel_rfl) (by kernel_rfl)
  exact ⟨err_of_var g1 v1, err_of_var g2 v2⟩
end Go.Proofs.YtobhdfkhfmpdlaaDoor.Dir

/-
  PLAIN FACTS OF NUMBERS that the contracts of chapter 1 lean on: remainder and quotient rounded down, and Go's own. No word of the program stands here.
-/
namespace Go.Proofs.YtobhdfkhfmpdlaaDoor.NumDiv
open Go Go.RowKit
set_option linter.unusedVariables false
set_option maxRecDepth 1000000

/-- Go's remainder, made not negative; 0 for a divisor out of range. -/
def md (n m : Int) : Int := if 1 ≤ m ∧ m ≤ 1000000000000 then n % m else 0
/-- the quotient rounded down; 0 for a divisor out of range. -/
def fd (n m : Int) : Int := if 1 ≤ m ∧ m ≤ 1000000000000 then n / m else 0

theorem md_out {n m : Int} (h : m < 1 ∨ 1000000000000 < m) : md n m = 0 := by unfold md; rw [if_neg (by omega)]
theorem fd_out {n m : Int} (h : m < 1 ∨ 1000000000000 < m) : fd n m = 0 := by unfold fd; rw [if_neg (by omega)]
theorem md_in {n m : Int} (h : 1 ≤ m) (h2 : m ≤ 1000000000000) : md n m = n % m := by unfold md; rw [if_pos ⟨h, h2⟩]
theorem fd_in {n m : Int} (h : 1 ≤ m) (h2 : m ≤ 1000000000000) : fd n m = n / m := by unfold fd; rw [if_pos ⟨h, h2⟩]

theorem tmod_bd (n m : Int) (h : 1 ≤ m) : -m < n.tmod m ∧ n.tmod m < m := by
  constructor
  · exact Int.lt_tmod_of_pos n (by omega)
  · exact Int.tmod_lt_of_pos n (by omega)
theorem tmod_split (n m : Int) (h : 1 ≤ m) : n.tmod m = n % m ∨ (0 < n % m ∧ n.tmod m = n % m - m) := by
  have e := Int.tmod_eq_emod (a := n) (b := m)
  have p := Int.emod_nonneg n (show m ≠ 0 by omega)
  by_cases c : 0 ≤ n ∨ m ∣ n
  · rw [if_pos c] at e; left; rw [e]; simp
  · rw [if_neg c] at e
    right
    have hz : n % m ≠ 0 := fun z => c (Or.inr (Int.dvd_of_emod_eq_zero z))
    exact ⟨by omega, by omega⟩
theorem tmod_neg_emod {n m : Int} (h : 1 ≤ m) (hr : n.tmod m < 0) : n.tmod m + m = n % m := by
  have p := Int.emod_nonneg n (show m ≠ 0 by omega)
  rcases tmod_split n m h with e | ⟨_, e⟩ <;> omega
theorem tmod_pos_emod {n m : Int} (h : 1 ≤ m) (hr : 0 ≤ n.tmod m) : n.tmod m = n % m := by
  have p := Int.emod_lt_of_pos n (show 0 < m by omega)
  rcases tmod_split n m h with e | ⟨_, e⟩ <;> omega
theorem tdiv_neg {n m : Int} (h : 1 ≤ m) (hr : n.tmod m < 0) : n.tdiv m - 1 = n / m := by
  have e := tmod_neg_emod h hr
  have a := Int.mul_tdiv_add_tmod n m
  have b := Int.mul_ediv_add_emod n m
  have : m * (n.tdiv m - 1) = m * (n / m) := by rw [Int.mul_sub]; omega
  exact Int.eq_of_mul_eq_mul_left (show m ≠ 0 by omega) this
theorem tdiv_pos {n m : Int} (h : 1 ≤ m) (hr : 0 ≤ n.tmod m) : n.tdiv m = n / m := by
  have e := tmod_pos_emod h hr
  have a := Int.mul_tdiv_add_tmod n m
  have b := Int.mul_ediv_add_emod n m
  have : m * (n.tdiv m) = m * (n / m) := by omega
  exact Int.eq_of_mul_eq_mul_left (show m ≠ 0 by omega) this

theorem q_bd' (n m : Int) (h : 1 ≤ m) (a : -9223372036854775808 ≤ n) (b : n ≤ 9223372036854775807) : -9223372036854775808 ≤ n / m ∧ n / m ≤ 9223372036854775807 := by
  constructor
  · refine Int.le_ediv_of_mul_le (by omega) ?_
    have : (-9223372036854775808 : Int) * m ≤ -9223372036854775808 * 1 := Int.mul_le_mul_of_nonpos_left (by omega) h
    omega
  · by_cases z : 0 ≤ n
    · have := Int.ediv_le_self m z; omega
    · have := Int.ediv_neg_of_neg_of_pos (show n < 0 by omega) (show 0 < m by omega); omega
theorem q_bd (n m : Int) (h : 1 ≤ m) (a : -9223372036854775808 ≤ n) (b : n ≤ 9223372036854775807) : -9223372036854775808 ≤ n.tdiv m ∧ n.tdiv m ≤ 9223372036854775807 := by
  have c := q_bd' n m h a b
  by_cases hr : n.tmod m < 0
  · have d := tdiv_neg h hr
    have e : n < 0 := by
      by_cases z : 0 ≤ n
      · have := Int.tmod_nonneg m z; omega
      · omega
    have := Int.ediv_neg_of_neg_of_pos e (show 0 < m by omega)
    omega
  · rw [tdiv_pos h (by omega)]; exact c
theorem ret_int {k : IntKind} {a b : Int} (h : a = b) : Ending.returned (.int k a) = .returned (.int k b) := by rw [h]
end Go.Proofs.YtobhdfkhfmpdlaaDoor.NumDiv

/-
  CONTRACT of the model's small test l1In: whether a number lies between two others; the world stays as it was.
-/
namespace Go.Proofs.YtobhdfkhfmpdlaaDoor.NumDiv
open Go Go.RowKit
set_option linter.unusedVariables false
set_option maxRecDepth 1000000

theorem in_yes (x lo hi : Int) (w : World) (h1 : lo ≤ x) (h2 : x ≤ hi) :
    Calls Tryd.prog 70 #[.int .i64 x, .int .i64 lo, .int .i64 hi] w fun e w' => e = .returned (.bool true) ∧ w = w' := by
  go_enter Tryd.func70, Tryd.ntmps70
  go_wp2
  go_ret
  exact ⟨rfl, rfl⟩
theorem in_no (x lo hi : Int) (w : World) (h : x < lo ∨ hi < x) :
    Calls Tryd.prog 70 #[.int .i64 x, .int .i64 lo, .int .i64 hi] w fun e w' => e = .returned (.bool false) ∧ w = w' := by
  by_cases h1 : lo ≤ x
  · have h2 : ¬ x ≤ hi := by omega
    clear h
    go_enter Tryd.func70, Tryd.ntmps70
    go_wp2
    go_ret
    exact ⟨rfl, rfl⟩
  · clear h
    go_enter Tryd.func70, Tryd.ntmps70
    go_wp2
    go_ret
    exact ⟨rfl, rfl⟩
end Go.Proofs.YtobhdfkhfmpdlaaDoor.NumDiv

/-
  CONTRACT of the program's isUpper; the world stays as it was.
-/
namespace Go.Proofs.YtobhdfkhfmpdlaaDoor.Tx
open Go Go.RowKit
set_option linter.unusedVariables false
set_option maxRecDepth 1000000

theorem ret_bool {a b : Bool} (h : a = b) : Ending.returned (.bool a) = .returned (.bool b) := by rw [h]
theorem up_yes (x : Int) (w : World) (h1 : 65 ≤ x) (h2 : x ≤ 90) : Calls Tryd.prog 38 #[.int .u8 x] w fun e w' => e = .returned (.bool true) ∧ w = w' := by
  go_enter Tryd.func38, Tryd.ntmps38
  go_wp2
  go_ret
  exact ⟨rfl, rfl⟩
theorem up_no (x : Int) (w : World) (h : x < 65 ∨ 90 < x) : Calls Tryd.prog 38 #[.int .u8 x] w fun e w' => e = .returned (.bool false) ∧ w = w' := by
  by_cases h1 : 65 ≤ x
  · have h2 : ¬ x ≤ 90 := by omega
    clear h
    go_enter Tryd.func38, Tryd.ntmps38
    go_wp2
    go_ret
    exact ⟨rfl, rfl⟩
  · clear h
    go_enter Tryd.func38, Tryd.ntmps38
    go_wp2
    go_ret
    exact ⟨rfl, rfl⟩

end Go.Proofs.YtobhdfkhfmpdlaaDoor.Tx

/-
  CONTRACTS of both sides' tests of the bytes of tokens, and of IsToken: each returns what the rule says; the world stays as it was.
-/
namespace Go.Proofs.YtobhdfkhfmpdlaaDoor.Tx
open Go Go.RowKit
set_option linter.unusedVariables false
set_option maxRecDepth 1000000

/-! the marks -/
def mk (c : UInt8) : Int := Lib.indexByte marks c
theorem index_contains (l : List UInt8) (c : UInt8) : 0 ≤ Lib.indexByte l c ↔ l.contains c = true := by
  induction l with
  | nil => simp [Lib.indexByte]
  | cons a r ih =>
    unfold Lib.indexByte
    by_cases h : a == c
    · rw [if_pos h]
      have : a = c := by simpa using h
      subst this; simp
    · rw [if_neg h]
      have h' : a ≠ c := by simpa using h
      have hm : (a :: r).contains c = r.contains c := by
        simp only [List.contains_cons]
        have : (c == a) = false := by rw [beq_eq_false_iff_ne]; exact fun e => h' e.symm
        rw [this, Bool.false_or]
      rw [hm, ← ih]
      by_cases h1 : Lib.indexByte r c == -1
      · rw [if_pos h1]
        have : Lib.indexByte r c = -1 := by simpa using h1
        omega
      · rw [if_neg h1]
        have h2 : Lib.indexByte r c ≠ -1 := by simpa using h1
        have h3 : -1 ≤ Lib.indexByte r c := by
          clear ih h1 h2 hm
          induction r with
          | nil => simp [Lib.indexByte]
          | cons b t ih2 =>
            unfold Lib.indexByte
            split
            · omega
            · split
              · omega
              · omega
        omega
theorem mk_ge {c : UInt8} : 0 ≤ mk c ↔ marks.contains c = true := index_contains marks c
theorem idx_byte (c : UInt8) (w : World) :
    Calls Tryd.prog 96 #[.string ⟨#[33, 35, 36, 37, 38, 39, 42, 43, 45, 46, 94, 95, 124, 126, 96]⟩, .int .u8 (c.toNat : Int)] w fun e w' => e = .returned (.int .i64 (mk c)) ∧ w = w' := by
  refine (Tryd.strings_IndexByte _ _ _).mono ?_
  rintro e w' ⟨rfl, rfl⟩
  refine ⟨?_, rfl⟩
  have : ((c.toNat : Int).toNat.toUInt8) = c := by simp
  rw [this]; rfl

theorem tokc_let {c : UInt8} (h : letc c = true) : tokc c = true := by unfold tokc; rw [h, Bool.or_true]
theorem tokc_no {c : UInt8} (h : letc c = false) : tokc c = marks.contains c := by unfold tokc; rw [h, Bool.or_false]

set_option maxHeartbeats 1000000 in
theorem tok_byte (c : UInt8) (w : World) : Calls Tryd.prog 81 #[.int .u8 (c.toNat : Int)] w fun e w' => e = .returned (.bool (tokc c)) ∧ w = w' := by
  by_cases hl : letc c = true
  · rw [tokc_let hl]
    have h3 : (97 ≤ (c.toNat : Int) ∧ (c.toNat : Int) ≤ 122) ∨ (65 ≤ (c.toNat : Int) ∧ (c.toNat : Int) ≤ 90) ∨ (48 ≤ (c.toNat : Int) ∧ (c.toNat : Int) ≤ 57) := by
      unfold letc at hl; simp at hl; omega
    clear hl
    rcases h3 with ⟨h1, h2⟩ | ⟨h1, h2⟩ | ⟨h1, h2⟩
    · go_enter Tryd.func81, Tryd.ntmps81
      go_wp2
      go_ret
      exact ⟨rfl, rfl⟩
    · have h3 : ¬ 97 ≤ (c.toNat : Int) := by omega
      go_enter Tryd.func81, Tryd.ntmps81
      go_wp2_with (go_at_call 38; refine (up_yes _ _ h1 h2).mono ?_; rintro e w' ⟨rfl, rfl⟩)
      go_ret
      exact ⟨rfl, rfl⟩
    · have h3 : ¬ 97 ≤ (c.toNat : Int) := by omega
      have h4 : (c.toNat : Int) < 65 ∨ 90 < (c.toNat : Int) := by omega
      have H4 := Lib.hid h4
      clear h4
      go_enter Tryd.func81, Tryd.ntmps81
      go_wp2_with (go_at_call 38; refine (up_no _ _ H4.out).mono ?_; rintro e w' ⟨rfl, rfl⟩)
      go_ret
      exact ⟨rfl, rfl⟩
  · have hl' : letc c = false := by simpa using hl
    rw [tokc_no hl']
    have h3 : ((c.toNat : Int) < 97 ∨ 122 < (c.toNat : Int)) ∧ ((c.toNat : Int) < 65 ∨ 90 < (c.toNat : Int)) ∧ ((c.toNat : Int) < 48 ∨ 57 < (c.toNat : Int)) := by
      unfold letc at hl'; simp at hl'; omega
    clear hl hl'
    obtain ⟨h1, h4, h5⟩ := h3
    have H4 := Lib.hid h4
    clear h4
    have hm : 0 ≤ mk c ↔ marks.contains c = true := mk_ge
    rcases hmk : marks.contains c with _ | _
    · have h6 : ¬ 0 ≤ mk c := by rw [hm, hmk]; simp
      clear hm hmk
      rcases h1 with h1 | h1 <;> rcases h5 with h5 | h5
      all_goals first | (exfalso; omega) | skip
      · have g1 : ¬ 97 ≤ (c.toNat : Int) := by omega
        have g2 : ¬ 48 ≤ (c.toNat : Int) := by omega
        clear h1 h5
        go_enter Tryd.func81, Tryd.ntmps81
        go_wp2_with (first | (go_at_call 38; refine (up_no _ _ H4.out).mono ?_; rintro e w' ⟨rfl, rfl⟩) | (go_at_call 96; refine (idx_byte c _).mono ?_; rintro e w' ⟨rfl, rfl⟩))
        go_ret
        first | exact ⟨rfl, rfl⟩ | exact ⟨ret_bool (by simp; omega), rfl⟩
      · have g1 : ¬ 97 ≤ (c.toNat : Int) := by omega
        have g2 : 48 ≤ (c.toNat : Int) := by omega
        have g3 : ¬ (c.toNat : Int) ≤ 57 := by omega
        clear h1 h5
        go_enter Tryd.func81, Tryd.ntmps81
        go_wp2_with (first | (go_at_call 38; refine (up_no _ _ H4.out).mono ?_; rintro e w' ⟨rfl, rfl⟩) | (go_at_call 96; refine (idx_byte c _).mono ?_; rintro e w' ⟨rfl, rfl⟩))
        go_ret
        first | exact ⟨rfl, rfl⟩ | exact ⟨ret_bool (by simp; omega), rfl⟩
      · have g1 : 97 ≤ (c.toNat : Int) := by omega
        have g2 : 48 ≤ (c.toNat : Int) := by omega
        have g3 : ¬ (c.toNat : Int) ≤ 57 := by omega
        have g4 : ¬ (c.toNat : Int) ≤ 122 := by omega
        clear h1 h5
        go_enter Tryd.func81, Tryd.ntmps81
        go_wp2_with (first | (go_at_call 38; refine (up_no _ _ H4.out).mono ?_; rintro e w' ⟨rfl, rfl⟩) | (go_at_call 96; refine (idx_byte c _).mono ?_; rintro e w' ⟨rfl, rfl⟩))
        go_ret
        first | exact ⟨rfl, rfl⟩ | exact ⟨ret_bool (by simp; omega), rfl⟩
    · have h6 : 0 ≤ mk c := by rw [hm]; exact hmk
      clear hm hmk
      rcases h1 with h1 | h1 <;> rcases h5 with h5 | h5
      all_goals first | (exfalso; omega) | skip
      · have g1 : ¬ 97 ≤ (c.toNat : Int) := by omega
        have g2 : ¬ 48 ≤ (c.toNat : Int) := by omega
        clear h1 h5
        go_enter Tryd.func81, Tryd.ntmps81
        go_wp2_with (first | (go_at_call 38; refine (up_no _ _ H4.out).mono ?_; rintro e w' ⟨rfl, rfl⟩) | (go_at_call 96; refine (idx_byte c _).mono ?_; rintro e w' ⟨rfl, rfl⟩))
        go_ret
        first | exact ⟨rfl, rfl⟩ | exact ⟨ret_bool (by simp; omega), rfl⟩
      · have g1 : ¬ 97 ≤ (c.toNat : Int) := by omega
        have g2 : 48 ≤ (c.toNat : Int) := by omega
        have g3 : ¬ (c.toNat : Int) ≤ 57 := by omega
        clear h1 h5
        go_enter Tryd.func81, Tryd.ntmps81
        go_wp2_with (first | (go_at_call 38; refine (up_no _ _ H4.out).mono ?_; rintro e w' ⟨rfl, rfl⟩) | (go_at_call 96; refine (idx_byte c _).mono ?_; rintro e w' ⟨rfl, rfl⟩))
        go_ret
        first | exact ⟨rfl, rfl⟩ | exact ⟨ret_bool (by simp; omega), rfl⟩
      · have g1 : 97 ≤ (c.toNat : Int) := by omega
        have g2 : 48 ≤ (c.toNat : Int) := by omega
        have g3 : ¬ (c.toNat : Int) ≤ 57 := by omega
        have g4 : ¬ (c.toNat : Int) ≤ 122 := by omega
        clear h1 h5
        go_enter Tryd.func81, Tryd.ntmps81
        go_wp2_with (first | (go_at_call 38; refine (up_no _ _ H4.out).mono ?_; rintro e w' ⟨rfl, rfl⟩) | (go_at_call 96; refine (idx_byte c _).mono ?_; rintro e w' ⟨rfl, rfl⟩))
        go_ret
        first | exact ⟨rfl, rfl⟩ | exact ⟨ret_bool (by simp; omega), rfl⟩

theorem in_byte (c : UInt8) (lo hi : Int) (w : World) :
    Calls Tryd.prog 70 #[.int .i64 (c.toNat : Int), .int .i64 lo, .int .i64 hi] w fun e w' => e = .returned (.bool (decide (lo ≤ (c.toNat : Int) ∧ (c.toNat : Int) ≤ hi))) ∧ w = w' := by
  by_cases h : lo ≤ (c.toNat : Int) ∧ (c.toNat : Int) ≤ hi
  · refine (NumDiv.in_yes _ _ _ _ h.1 h.2).mono ?_
    rintro e w' ⟨rfl, rfl⟩
    exact ⟨ret_bool (by simp [h]), rfl⟩
  · refine (NumDiv.in_no _ _ _ _ (by omega)).mono ?_
    rintro e w' ⟨rfl, rfl⟩
    exact ⟨ret_bool (by simp only [h, decide_false]), rfl⟩

set_option maxHeartbeats 1000000 in
theorem letter_byte (c : UInt8) (w : World) : Calls Tryd.prog 85 #[.int .u8 (c.toNat : Int)] w fun e w' => e = .returned (.bool (letc c)) ∧ w = w' := by
  have hub : (c.toNat : Int) ≤ 255 := by have := c.toNat_lt; omega
  have hub0 : 0 ≤ (c.toNat : Int) := by omega
  by_cases h1 : 97 ≤ (c.toNat : Int) ∧ (c.toNat : Int) ≤ 122
  · have e : letc c = true := by unfold letc; simp; omega
    rw [e]; clear e
    obtain ⟨a, b⟩ := h1
    go_enter Tryd.func85, Tryd.ntmps85
    go_wp2_with (go_at_call 70; (with_reducible refine (NumDiv.in_yes _ _ _ _ a b).mono ?_); rintro e w' ⟨rfl, rfl⟩)
    go_ret
    exact ⟨rfl, rfl⟩
  · have H1 := Lib.hid (show (c.toNat : Int) < 97 ∨ 122 < (c.toNat : Int) by omega)
    by_cases h2 : 65 ≤ (c.toNat : Int) ∧ (c.toNat : Int) ≤ 90
    · have e : letc c = true := by unfold letc; simp; omega
      rw [e]; clear e h1
      obtain ⟨a, b⟩ := h2
      go_enter Tryd.func85, Tryd.ntmps85
      go_wp2_with (fail)
      go_at_call 70
      refine (NumDiv.in_no _ _ _ _ H1.out).mono ?_
      rintro e w' ⟨rfl, rfl⟩
      go_wp2_with (fail)
      go_at_call 70
      refine (NumDiv.in_yes _ _ _ _ a b).mono ?_
      rintro e w' ⟨rfl, rfl⟩
      go_wp2
      go_ret
      exact ⟨rfl, rfl⟩
    · have H2 := Lib.hid (show (c.toNat : Int) < 65 ∨ 90 < (c.toNat : Int) by omega)
      have e : letc c = decide (48 ≤ (c.toNat : Int) ∧ (c.toNat : Int) ≤ 57) := by unfold letc; rw [Bool.eq_iff_iff]; simp; omega
      rw [e]; clear e h1 h2
      go_enter Tryd.func85, Tryd.ntmps85
      go_wp2_with (fail)
      go_at_call 70
      refine (NumDiv.in_no _ _ _ _ H1.out).mono ?_
      rintro e w' ⟨rfl, rfl⟩
      go_wp2_with (fail)
      go_at_call 70
      refine (NumDiv.in_no _ _ _ _ H2.out).mono ?_
      rintro e w' ⟨rfl, rfl⟩
      go_wp2_with (fail)
      go_at_call 70
      refine (in_byte c 48 57 _).mono ?_
      rintro e w' ⟨rfl, rfl⟩
      go_wp2
      go_ret
      exact ⟨ret_bool (by rw [Bool.decide_and]), rfl⟩

def mka (k : Nat) : UInt8 := marks.getD k 0
/-- The table of marks, read at a place. -/
theorem tab_fin : ∀ r : Fin 15, (⟨#[33, 35, 36, 37, 38, 39, 42, 43, 45, 46, 94, 95, 124, 126, 96]⟩ : ByteArray)[r.1]'(r.2) = mka r.1 := by decide
theorem tab_at (u : Nat) (h : u < (⟨#[33, 35, 36, 37, 38, 39, 42, 43, 45, 46, 94, 95, 124, 126, 96]⟩ : ByteArray).size) :
    ((⟨#[33, 35, 36, 37, 38, 39, 42, 43, 45, 46, 94, 95, 124, 126, 96]⟩ : ByteArray)[u]'h) = mka u := tab_fin ⟨u, h⟩
theorem mark_in {c : UInt8} {k : Nat} (h : k < 15) (e : mka k = c) : tokc c = true := by
  unfold tokc
  have : marks.contains c = true := by
    rw [← e]
    have hl : k < marks.length := h
    rw [show mka k = marks[k]'hl by unfold mka; simp [List.getD, hl]]
    simp
  rw [this, Bool.true_or]
theorem mark_out {c : UInt8} (h : ∀ j, j < 15 → mka j ≠ c) : tokc c = letc c := by
  unfold tokc
  have : marks.contains c = false := by
    rw [Bool.eq_false_iff]
    intro hc
    have hm : c ∈ marks := by simpa using hc
    obtain ⟨j, hj, e⟩ := List.getElem_of_mem hm
    have hl : marks.length = 15 := rfl
    exact h j (by omega) (by unfold mka; simp [List.getD, hj, e])
  rw [this, Bool.false_or]

set_option maxHeartbeats 1000000 in
theorem tok_spec (c : UInt8) (w : World) : Calls Tryd.prog 71 #[.int .u8 (c.toNat : Int)] w fun e w' => e = .returned (.bool (tokc c)) ∧ w = w' := by
  go_enter Tryd.func71, Tryd.ntmps71
  go_wp2
  go_loop [3] (fun i => ∃ k : Nat, k ≤ 15 ∧ i = .int .i64 k ∧ ∀ j, j < k → mka j ≠ c) (fun i => 15 - (intOf i).toNat)
  case atStart => exact ⟨0, by omega, rfl, fun j hj => absurd hj (by omega)⟩
  case round =>
    obtain ⟨k, hk, rfl, hno⟩ := hrel
    have HN := Lib.hid hno
    clear hno
    by_cases hlt : k < 15
    · have htab := tab_at k
      by_cases hc : mka k = c
      · have HT := Lib.hid (mark_in hlt hc)
        have hq : ((c.toNat : Int) == ((mka k).toNat : Int)) = true := by rw [hc]; simp
        clear hc
        go_wp2
        go_ret
        exact ⟨ret_bool HT.out.symm, rfl⟩
      · have hq : ((c.toNat : Int) == ((mka k).toNat : Int)) = false := by
          rw [beq_eq_false_iff_ne]
          intro e
          exact hc (UInt8.toNat_inj.1 (by omega))
        have HC := Lib.hid hc
        clear hc
        go_wp2
        go_round
        case rel => exact ⟨k + 1, by omega, by go_num, fun j hj => by
          rcases Nat.lt_or_ge j k with h | h
          · exact HN.out j h
          · have : j = k := by omega
            subst this; exact HC.out⟩
        case measure => simp [intOf]; omega
    · obtain rfl : k = 15 := by omega
      have HT := Lib.hid (mark_out HN.out)
      go_wp2_with (go_at_call 85; refine (letter_byte c _).mono ?_; rintro e w' ⟨rfl, rfl⟩)
      go_ret
      exact ⟨ret_bool HT.out.symm, rfl⟩
end Go.Proofs.YtobhdfkhfmpdlaaDoor.Tx

/-
  CONTRACTS of both sides' IsToken: at every text each returns whether it is a token; the world stays as it was.
-/
namespace Go.Proofs.YtobhdfkhfmpdlaaDoor.Tx
open Go Go.RowKit
set_option linter.unusedVariables false
set_option maxRecDepth 1000000

theorem all_more {s : ByteArray} {k : Nat} (h : k < s.size) (ha : (s.data.toList.take k).all tokc = true) (hc : tokc s[k] = true) : (s.data.toList.take (k + 1)).all tokc = true := by
  rw [take_snoc s k h, List.all_append, ha, List.all_cons, hc]; rfl
theorem token_bad {s : ByteArray} {k : Nat} (h : k < s.size) (hc : tokc s[k] = false) : token s.data.toList = false := by
  unfold token
  have : s.data.toList.all tokc = false := by
    rw [Bool.eq_false_iff]
    intro ha
    have hm : s[k] ∈ s.data.toList := by
      rw [← List.take_append_drop k s.data.toList, drop_cons s k h]; simp
    have := List.all_eq_true.1 ha _ hm
    rw [hc] at this; cases this
  rw [this, Bool.false_and]
theorem token_all {s : ByteArray} {k : Nat} (h : k = s.size) (ha : (s.data.toList.take k).all tokc = true) : token s.data.toList = decide (1 ≤ (s.size : Int) ∧ (s.size : Int) ≤ 40) := by
  have e : s.data.toList.take k = s.data.toList := List.take_of_length_le (by rw [list_len]; omega)
  rw [e] at ha
  unfold token
  rw [ha, Bool.true_and, list_len, Bool.eq_iff_iff]; simp; omega
theorem token_len {s : ByteArray} (h : s.size < 1 ∨ 40 < s.size) : token s.data.toList = false := by
  unfold token
  rw [list_len]
  have : decide (1 ≤ s.size ∧ s.size ≤ 40) = false := by simp; omega
  rw [this, Bool.and_false]

set_option maxHeartbeats 1000000 in
theorem spec_token (s : ByteArray) (w : World) (hs : s.size ≤ 9223372036854775806) :
    Calls Tryd.prog 34 #[.string s] w fun e w' => e = .returned (.bool (token s.data.toList)) ∧ w = w' := by
  go_enter Tryd.func34, Tryd.ntmps34
  go_wp2
  go_loop [3] (fun i => ∃ k : Nat, k ≤ s.size ∧ i = .int .i64 k ∧ (s.data.toList.take k).all tokc = true) (fun i => s.size - (intOf i).toNat)
  case atStart => exact ⟨0, Nat.zero_le _, rfl, rfl⟩
  case round =>
    obtain ⟨k, hk, rfl, ha⟩ := hrel
    have HA := Lib.hid ha
    clear ha
    by_cases hlt : k < s.size
    · have hc1 := tok_spec s[k]
      rcases hc : tokc s[k] with _ | _
      · have HT := Lib.hid (token_bad hlt hc)
        rw [hc] at hc1
        clear hc
        go_wp2_with (go_at_call 71; refine (hc1 _).mono ?_; rintro e w' ⟨rfl, rfl⟩)
        go_ret
        exact ⟨ret_bool HT.out.symm, rfl⟩
      · have HT := Lib.hid (all_more hlt HA.out hc)
        rw [hc] at hc1
        clear hc
        go_wp2_with (go_at_call 71; refine (hc1 _).mono ?_; rintro e w' ⟨rfl, rfl⟩)
        go_round
        case rel => exact ⟨k + 1, by omega, by go_num, HT.out⟩
        case measure => simp [intOf]; omega
    · have HT := Lib.hid (token_all (show k = s.size by omega) HA.out)
      by_cases hz : 1 ≤ (s.size : Int) ∧ (s.size : Int) ≤ 40
      · obtain ⟨z1, z2⟩ := hz
        go_wp2_with (go_at_call 70; refine (NumDiv.in_yes _ _ _ _ z1 z2).mono ?_; rintro e w' ⟨rfl, rfl⟩)
        go_ret
        exact ⟨ret_bool (by rw [HT.out]; simp; omega), rfl⟩
      · have HZ := Lib.hid hz
        clear hz
        go_wp2_with (go_at_call 70; refine (NumDiv.in_no _ _ _ _ (by have := HZ.out; omega)).mono ?_; rintro e w' ⟨rfl, rfl⟩)
        go_ret
        exact ⟨ret_bool (by rw [HT.out]; symm; simp; have := HZ.out; omega), rfl⟩

set_option maxHeartbeats 1000000 in
theorem impl_token (s : ByteArray) (w : World) (hs : s.size ≤ 9223372036854775806) :
    Calls Tryd.prog 64 #[.string s] w fun e w' => e = .returned (.bool (token s.data.toList)) ∧ w = w' := by
  by_cases h1 : (s.size : Int) < 1
  · have HT := Lib.hid (token_len (s := s) (Or.inl (by omega)))
    go_enter Tryd.func64, Tryd.ntmps64
    go_wp2
    go_ret
    exact ⟨ret_bool HT.out.symm, rfl⟩
  · by_cases h2 : 40 < (s.size : Int)
    · have HT := Lib.hid (token_len (s := s) (Or.inr (by omega)))
      go_enter Tryd.func64, Tryd.ntmps64
      go_wp2
      go_ret
      exact ⟨ret_bool HT.out.symm, rfl⟩
    · go_enter Tryd.func64, Tryd.ntmps64
      go_wp2
      go_loop [3, 14] (fun j i => ∃ k : Nat, k ≤ s.size ∧ i = .int .i64 k ∧ (s.data.toList.take k).all tokc = true) (fun _ i => s.size - (intOf i).toNat)
      case atStart => exact ⟨0, Nat.zero_le _, rfl, rfl⟩
      case round =>
        obtain ⟨k, hk, rfl, ha⟩ := hrel
        have HA := Lib.hid ha
        clear ha
        by_cases hlt : k < s.size
        · have hc1 := tok_byte s[k]
          rcases hc : tokc s[k] with _ | _
          · have HT := Lib.hid (token_bad hlt hc)
            rw [hc] at hc1
            clear hc
            go_wp2_with (go_at_call 81; refine (hc1 _).mono ?_; rintro e w' ⟨rfl, rfl⟩)
            go_ret
            exact ⟨ret_bool HT.out.symm, rfl⟩
          · have HT := Lib.hid (all_more hlt HA.out hc)
            rw [hc] at hc1
            clear hc
            go_wp2_with (go_at_call 81; refine (hc1 _).mono ?_; rintro e w' ⟨rfl, rfl⟩)
            go_round
            case rel => exact ⟨k + 1, by omega, by go_num, HT.out⟩
            case measure => simp [intOf]; omega
        · have HT := Lib.hid (token_all (show k = s.size by omega) HA.out)
          have HB := Lib.hid (And.intro h1 h2)
          go_wp2
          go_ret
          exact ⟨ret_bool (by rw [HT.out]; symm; simp; have := HB.out; omega), rfl⟩
end Go.Proofs.YtobhdfkhfmpdlaaDoor.Tx
