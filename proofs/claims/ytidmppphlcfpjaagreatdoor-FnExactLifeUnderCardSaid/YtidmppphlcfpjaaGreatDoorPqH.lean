/-
  CONTRACTS AND PLAIN FACTS, several texts in one; each says in its own words what it proves.
-/
import Derived.Test.YtidmppphlcfpjaaGreatDoorPqG
import Derived.Lib.AppendStr
import Derived.Laws.DeepStrings4
import Derived.Test.YtidmppphlcfpjaaGreatDoorPqC
import Derived.Test.YtidmppphlcfpjaaGreatDoorPqA
import Derived.ChangeSlices
import Derived.SliceStrings
import Derived.OwnWalk
import Derived.Laws.OwnMore
import Derived.Laws.AppendOwn
import Derived.Laws.Concat
set_option linter.unusedSimpArgs false
set_option linter.unusedVariables false

/-
  CONTRACTS of the program's isPlainByte, normalCode and normalCodes; nothing that was there before is changed.
-/
namespace Go.Proofs.YtidmppphlcfpjaaGreatDoor.Nt
open Go Go.RowKit Bys
set_option linter.unusedVariables false
set_option maxRecDepth 1000000
set_option maxRecDepth 1000000

def pm : List UInt8 := [45, 46, 95, 126]
def pmk (c : UInt8) : Int := Lib.indexByte pm c
theorem pmk_ge {c : UInt8} : 0 ≤ pmk c ↔ pm.contains c = true := Tx.index_contains pm c
theorem plainb_let {c : UInt8} (h : Tx.letc c = true) : plainb c = true := by unfold plainb; rw [h, Bool.true_or]
theorem plainb_no {c : UInt8} (h : Tx.letc c = false) : plainb c = pm.contains c := by
  unfold plainb pm; rw [h, Bool.false_or]
  simp only [List.contains_cons, List.contains_nil, Bool.or_false]
  cases (c == 45) <;> cases (c == 46) <;> cases (c == 95) <;> rfl
theorem pidx_byte (c : UInt8) (w : World) :
    Calls Tryz.prog 146 #[.string ⟨#[45, 46, 95, 126]⟩, .int .u8 (c.toNat : Int)] w fun e w' => e = .returned (.int .i64 (pmk c)) ∧ w = w' := by
  refine (Tryz.strings_IndexByte _ _ _).mono ?_
  rintro e w' ⟨rfl, rfl⟩
  refine ⟨?_, rfl⟩
  have : ((c.toNat : Int).toNat.toUInt8) = c := by simp
  rw [this]; rfl

set_option maxHeartbeats 1000000 in
theorem plain_byte (c : UInt8) (w : World) : Calls Tryz.prog 171 #[.int .u8 (c.toNat : Int)] w fun e w' => e = .returned (.bool (plainb c)) ∧ w = w' := by
  by_cases hl : Tx.letc c = true
  · rw [plainb_let hl]
    have h3 : (97 ≤ (c.toNat : Int) ∧ (c.toNat : Int) ≤ 122) ∨ (65 ≤ (c.toNat : Int) ∧ (c.toNat : Int) ≤ 90) ∨ (48 ≤ (c.toNat : Int) ∧ (c.toNat : Int) ≤ 57) := by
      unfold Tx.letc at hl; simp at hl; omega
    clear hl
    rcases h3 with ⟨h1, h2⟩ | ⟨h1, h2⟩ | ⟨h1, h2⟩
    · go_enter Tryz.func171, Tryz.ntmps171
      go_wp2
      go_ret
      exact ⟨rfl, rfl⟩
    · have h3 : ¬ 97 ≤ (c.toNat : Int) := by omega
      go_enter Tryz.func171, Tryz.ntmps171
      go_wp2_with (go_at_call 197; refine (Tx.up_yes _ _ h1 h2).mono ?_; rintro e w' ⟨rfl, rfl⟩)
      go_ret
      exact ⟨rfl, rfl⟩
    · have h3 : ¬ 97 ≤ (c.toNat : Int) := by omega
      have h4 : (c.toNat : Int) < 65 ∨ 90 < (c.toNat : Int) := by omega
      have H4 := Lib.hid h4
      clear h4
      go_enter Tryz.func171, Tryz.ntmps171
      go_wp2_with (go_at_call 197; refine (Tx.up_no _ _ H4.out).mono ?_; rintro e w' ⟨rfl, rfl⟩)
      go_ret
      exact ⟨rfl, rfl⟩
  · have hl' : Tx.letc c = false := by simpa using hl
    rw [plainb_no hl']
    have h3 : ((c.toNat : Int) < 97 ∨ 122 < (c.toNat : Int)) ∧ ((c.toNat : Int) < 65 ∨ 90 < (c.toNat : Int)) ∧ ((c.toNat : Int) < 48 ∨ 57 < (c.toNat : Int)) := by
      unfold Tx.letc at hl'; simp at hl'; omega
    clear hl hl'
    obtain ⟨h1, h4, h5⟩ := h3
    have H4 := Lib.hid h4
    clear h4
    have hm : 0 ≤ pmk c ↔ pm.contains c = true := pmk_ge
    rcases hmk : pm.contains c with _ | _
    · have h6 : ¬ 0 ≤ pmk c := by rw [hm, hmk]; simp
      clear hm hmk
      rcases h1 with h1 | h1 <;> rcases h5 with h5 | h5
      all_goals first | (exfalso; omega) | skip
      · have g1 : ¬ 97 ≤ (c.toNat : Int) := by omega
        have g2 : ¬ 48 ≤ (c.toNat : Int) := by omega
        clear h1 h5
        go_enter Tryz.func171, Tryz.ntmps171
        go_wp2_with (first | (go_at_call 197; refine (Tx.up_no _ _ H4.out).mono ?_; rintro e w' ⟨rfl, rfl⟩) | (go_at_call 146; refine (pidx_byte c _).mono ?_; rintro e w' ⟨rfl, rfl⟩))
        go_ret
        first | exact ⟨rfl, rfl⟩ | exact ⟨Tx.ret_bool (by simp; omega), rfl⟩
      · have g1 : ¬ 97 ≤ (c.toNat : Int) := by omega
        have g2 : 48 ≤ (c.toNat : Int) := by omega
        have g3 : ¬ (c.toNat : Int) ≤ 57 := by omega
        clear h1 h5
        go_enter Tryz.func171, Tryz.ntmps171
        go_wp2_with (first | (go_at_call 197; refine (Tx.up_no _ _ H4.out).mono ?_; rintro e w' ⟨rfl, rfl⟩) | (go_at_call 146; refine (pidx_byte c _).mono ?_; rintro e w' ⟨rfl, rfl⟩))
        go_ret
        first | exact ⟨rfl, rfl⟩ | exact ⟨Tx.ret_bool (by simp; omega), rfl⟩
      · have g1 : 97 ≤ (c.toNat : Int) := by omega
        have g2 : 48 ≤ (c.toNat : Int) := by omega
        have g3 : ¬ (c.toNat : Int) ≤ 57 := by omega
        have g4 : ¬ (c.toNat : Int) ≤ 122 := by omega
        clear h1 h5
        go_enter Tryz.func171, Tryz.ntmps171
        go_wp2_with (first | (go_at_call 197; refine (Tx.up_no _ _ H4.out).mono ?_; rintro e w' ⟨rfl, rfl⟩) | (go_at_call 146; refine (pidx_byte c _).mono ?_; rintro e w' ⟨rfl, rfl⟩))
        go_ret
        first | exact ⟨rfl, rfl⟩ | exact ⟨Tx.ret_bool (by simp; omega), rfl⟩
    · have h6 : 0 ≤ pmk c := by rw [hm]; exact hmk
      clear hm hmk
      rcases h1 with h1 | h1 <;> rcases h5 with h5 | h5
      all_goals first | (exfalso; omega) | skip
      · have g1 : ¬ 97 ≤ (c.toNat : Int) := by omega
        have g2 : ¬ 48 ≤ (c.toNat : Int) := by omega
        clear h1 h5
        go_enter Tryz.func171, Tryz.ntmps171
        go_wp2_with (first | (go_at_call 197; refine (Tx.up_no _ _ H4.out).mono ?_; rintro e w' ⟨rfl, rfl⟩) | (go_at_call 146; refine (pidx_byte c _).mono ?_; rintro e w' ⟨rfl, rfl⟩))
        go_ret
        first | exact ⟨rfl, rfl⟩ | exact ⟨Tx.ret_bool (by simp; omega), rfl⟩
      · have g1 : ¬ 97 ≤ (c.toNat : Int) := by omega
        have g2 : 48 ≤ (c.toNat : Int) := by omega
        have g3 : ¬ (c.toNat : Int) ≤ 57 := by omega
        clear h1 h5
        go_enter Tryz.func171, Tryz.ntmps171
        go_wp2_with (first | (go_at_call 197; refine (Tx.up_no _ _ H4.out).mono ?_; rintro e w' ⟨rfl, rfl⟩) | (go_at_call 146; refine (pidx_byte c _).mono ?_; rintro e w' ⟨rfl, rfl⟩))
        go_ret
        first | exact ⟨rfl, rfl⟩ | exact ⟨Tx.ret_bool (by simp; omega), rfl⟩
      · have g1 : 97 ≤ (c.toNat : Int) := by omega
        have g2 : 48 ≤ (c.toNat : Int) := by omega
        have g3 : ¬ (c.toNat : Int) ≤ 57 := by omega
        have g4 : ¬ (c.toNat : Int) ≤ 122 := by omega
        clear h1 h5
        go_enter Tryz.func171, Tryz.ntmps171
        go_wp2_with (first | (go_at_call 197; refine (Tx.up_no _ _ H4.out).mono ?_; rintro e w' ⟨rfl, rfl⟩) | (go_at_call 146; refine (pidx_byte c _).mono ?_; rintro e w' ⟨rfl, rfl⟩))
        go_ret
        first | exact ⟨rfl, rfl⟩ | exact ⟨Tx.ret_bool (by simp; omega), rfl⟩

/-- What a percent sign in front of l is written as. -/
def codep (a b : UInt8) : List UInt8 × Bool := if hexn a < 16 ∧ hexn b < 16 then (code (hexn a) (hexn b), true) else ([], false)
theorem up_fin : ∀ r : Fin 256, hexn (UInt8.ofNat r.1) < 16 → Lib.toUpperA [UInt8.ofNat r.1] = [dig (hexn (UInt8.ofNat r.1))] ∧ r.1 < 128 := by decide +kernel
theorem up_one {c : UInt8} (h : hexn c < 16) : Lib.toUpperA [c] = [dig (hexn c)] ∧ c.toNat < 128 := by
  have := up_fin ⟨c.toNat, c.toNat_lt⟩
  simp only [UInt8.ofNat_toNat] at this
  exact this h
theorem up_three {a b : UInt8} (h1 : hexn a < 16) (h2 : hexn b < 16) : Lib.toUpperA [37, a, b] = [37, dig (hexn a), dig (hexn b)] := by
  have e1 := (up_one h1).1
  have e2 := (up_one h2).1
  have e0 : Lib.toUpperA [37] = [37] := by decide
  unfold Lib.toUpperA at *
  simp only [List.map_cons, List.map_nil, List.cons.injEq, and_true] at *
  exact ⟨e0, e1, e2⟩

theorem code_short (s : ByteArray) (w : World) (hs : s.size < 3) : Calls Tryz.prog 147 #[.string s] w (PairEnd ([], false) w) := by
  have HB := Lib.hid (Below.refl w.heap.size w)
  have h3 : (s.size : Int) < 3 := by omega
  clear hs
  unfold PairEnd
  go_enter Tryz.func147, Tryz.ntmps147
  go_wp2
  go_ret2
  exact ⟨rfl, HB.out⟩

set_option maxHeartbeats 4000000 in
theorem code_call (a b : UInt8) (s : ByteArray) (w : World) (hs : 3 ≤ s.size) (he1 : s.extract 1 3 = ⟨#[a, b]⟩) (he2 : s.extract 0 3 = ⟨#[37, a, b]⟩) (he : Par.Errs w) :
    Calls Tryz.prog 147 #[.string s] w (PairEnd (codep a b) w) := by
  have HP := Lib.hid (pu_call a b w he)
  have h3 : 3 ≤ (s.size : Int) := by omega
  unfold PuOut at HP
  unfold PairEnd
  clear hs he
  by_cases hx : hexn a < 16 ∧ hexn b < 16
  case neg =>
    have hc : codep a b = ([], false) := if_neg hx
    rw [hc]
    simp only [if_neg hx] at HP
    clear hx hc
    go_enter Tryz.func147, Tryz.ntmps147
    go_wp2_with (fail)
    go_at_call 170
    refine HP.out.mono ?_
    rintro e w1 ⟨⟨t, v, rfl⟩, hb1⟩
    have HB := Lib.hid hb1
    clear hb1
    go_wp2
    go_ret2
    exact ⟨rfl, HB.out⟩
  have hc : codep a b = (code (hexn a) (hexn b), true) := if_pos hx
  rw [hc]
  simp only [if_pos hx] at HP
  obtain ⟨hx1, hx2⟩ := hx
  have HUP := Lib.hid (up_three hx1 hx2)
  have HA1 := Lib.hid (up_one hx1).2
  have HA2 := Lib.hid (up_one hx2).2
  generalize hexn a = x at *
  generalize hexn b = y at *
  have hbn : ((bt x y).toNat : Int) = ((16 * x + y : Nat) : Int) := by rw [bt_nat hx1 hx2]
  have HPB := Lib.hid (fun W => plain_byte (bt x y) W)
  have HCV : Hid (∀ W : World, (convert 98 9 (.slice (some ⟨W.heap.size, 0, none⟩) 1 1)).run Tryz.prog (W.alloc (.cells #[.int .u8 ((16 * x + y : Nat) : Int)] 5)) = .ok (.string ⟨#[bt x y]⟩) (W.alloc (.cells #[.int .u8 ((16 * x + y : Nat) : Int)] 5))) := Lib.hid (fun W => by
    have h := own_str (own_lit_one W (bt x y))
    unfold bvl at h
    rw [hbn] at h
    exact h)
  rw [hbn] at HPB
  have HY : Hid (plainb (bt x y) = true → code x y = [bt x y]) := Lib.hid code_yes
  have HN : Hid (plainb (bt x y) = false → code x y = [37, dig x, dig y]) := Lib.hid code_no
  have n1 : ((16 * x + y : Nat) : Int) ≤ 255 := by omega
  have n0 : 0 ≤ ((16 * x + y : Nat) : Int) := by omega
  generalize ((16 * x + y : Nat) : Int) = n at *
  generalize code x y = z at HY HN ⊢
  generalize bt x y = c at *
  clear hbn hx1 hx2 hc
  cases hp : plainb c with
  | true =>
    have HZ := Lib.hid (HY.out hp)
    rw [hp] at HPB
    clear HY HN hp HA1 HA2 HUP
    go_enter Tryz.func147, Tryz.ntmps147
    go_wp2_with (fail)
    go_at_call 170
    refine HP.out.mono ?_
    rintro e w1 ⟨rfl, hb1⟩
    have HB := Lib.hid hb1
    have hcv := HCV.out w1
    clear hb1
    go_wp2_with (fail)
    go_at_call 171
    refine (HPB.out _).mono ?_
    rintro e w' ⟨rfl, rfl⟩
    go_wp2
    go_ret2
    exact ⟨by rw [HZ.out] <;> rfl, HB.out.alloc HB.out.size _⟩
  | false =>
    have HZ := Lib.hid (HN.out hp)
    rw [hp] at HPB
    clear HY HN hp HCV
    go_enter Tryz.func147, Tryz.ntmps147
    go_wp2_with (fail)
    go_at_call 170
    refine HP.out.mono ?_
    rintro e w1 ⟨rfl, hb1⟩
    have HB := Lib.hid hb1
    have HU := Lib.hid (Tryz.strings_ToUpper_ascii ⟨#[37, a, b]⟩ w1 (by show 3 ≤ _; decide) (fun j u h => by
      match j, h with
      | 0, h => simp at h; subst h; decide
      | 1, h => simp at h; subst h; exact HA1.out
      | 2, h => simp at h; subst h; exact HA2.out))
    rw [show (⟨#[37, a, b]⟩ : ByteArray).data.toList = [37, a, b] from rfl, HUP.out] at HU
    clear hb1 HA1 HA2 HUP
    go_wp2_with (fail)
    go_at_call 171
    refine (HPB.out _).mono ?_
    rintro e w' ⟨rfl, rfl⟩
    go_wp2_with (fail)
    go_at_call 172
    refine HU.out.mono ?_
    rintro e w2 ⟨rfl, hb2⟩
    have HB2 := Lib.hid (Base.then_below HB.out hb2)
    clear hb2
    go_wp2
    go_ret2
    exact ⟨by rw [HZ.out] <;> rfl, HB2.out⟩
end Go.Proofs.YtidmppphlcfpjaaGreatDoor.Nt

/-
  PLAIN FACTS on lists of texts at commas: how a text is cut at the commas outside quoted strings; what is cut, trimmed, joined and cut again is the same.
-/
namespace Go.Proofs.YtidmppphlcfpjaaGreatDoor.Tx
open Go
set_option linter.unusedVariables false
set_option maxRecDepth 1000000

/-- Put in front of the first of a list of texts. -/
def push (p : List UInt8) : List (List UInt8) → List (List UInt8)
  | [] => []
  | h :: t => (p ++ h) :: t
theorem push_nil (L : List (List UInt8)) : push [] L = L := by cases L <;> rfl
theorem push_push (p q : List UInt8) (L : List (List UInt8)) : push p (push q L) = push (p ++ q) L := by cases L <;> simp [push]
theorem push_inj {p : List UInt8} {L M : List (List UInt8)} (h : push p L = push p M) : L = M := by
  cases L <;> cases M <;> simp_all [push]

/-- The parts of a text between the commas outside quoted strings; 'inq': within one. -/
def cuts (inq : Bool) (l : List UInt8) : List (List UInt8) :=
  match l with
  | [] => [[]]
  | c :: r =>
    if inq && c == 92 then push (c :: r.take 1) (cuts true (r.drop 1))
    else if c == 34 then push [c] (cuts (!inq) r)
    else if !inq && c == 44 then [] :: cuts false r
    else push [c] (cuts inq r)
  termination_by l.length
  decreasing_by all_goals simp_wf; all_goals omega

theorem cuts_nil (q : Bool) : cuts q [] = [[]] := by rw [cuts]
theorem cuts_esc {c : UInt8} (r : List UInt8) (h : c = 92) : cuts true (c :: r) = push (c :: r.take 1) (cuts true (r.drop 1)) := by rw [cuts, if_pos (by simp [h])]
theorem cuts_quote (q : Bool) {c : UInt8} (r : List UInt8) (h : c = 34) : cuts q (c :: r) = push [c] (cuts (!q) r) := by
  rw [cuts, if_neg (by subst h; simp), if_pos (by simp [h])]
theorem cuts_comma {c : UInt8} (r : List UInt8) (h : c = 44) : cuts false (c :: r) = [] :: cuts false r := by
  rw [cuts, if_neg (by simp), if_neg (by subst h; simp), if_pos (by simp [h])]
theorem cuts_plain (q : Bool) {c : UInt8} (r : List UInt8) (h1 : q = true → c ≠ 92) (h2 : c ≠ 34) (h3 : q = false → c ≠ 44) : cuts q (c :: r) = push [c] (cuts q r) := by
  rw [cuts, if_neg (by cases q <;> simp_all), if_neg (by simpa using h2), if_neg (by cases q <;> simp_all)]
theorem cuts_ne (q : Bool) (l : List UInt8) : cuts q l ≠ [] := by
  have hp : ∀ p (L : List (List UInt8)), L ≠ [] → push p L ≠ [] := by intro p L h; cases L <;> simp_all [push]
  have key : ∀ n q (l : List UInt8), l.length ≤ n → cuts q l ≠ [] := by
    intro n
    induction n with
    | zero => intro q l hl; rw [List.length_eq_zero_iff.1 (by omega : l.length = 0), cuts_nil]; simp
    | succ n ih =>
      intro q l hl
      cases l with
      | nil => rw [cuts_nil]; simp
      | cons c r =>
        simp at hl
        rw [cuts]
        split
        · exact hp _ _ (ih _ _ (by simp; omega))
        · split
          · exact hp _ _ (ih _ _ hl)
          · split
            · simp
            · exact hp _ _ (ih _ _ hl)
  exact key _ q l (Nat.le_refl _)

/-- How a text is read that holds no such comma: where it ends. -/
def scan (inq : Bool) (l : List UInt8) : Option Bool :=
  match l with
  | [] => some inq
  | c :: r =>
    if inq && c == 92 then (if r.isEmpty then none else scan true (r.drop 1))
    else if c == 34 then scan (!inq) r
    else if !inq && c == 44 then none
    else scan inq r
  termination_by l.length
  decreasing_by all_goals simp_wf; all_goals omega

theorem scan_nil (q : Bool) : scan q [] = some q := by rw [scan]
theorem scan_cons (q : Bool) (c : UInt8) (r : List UInt8) : scan q (c :: r) = if q && c == 92 then (if r.isEmpty then none else scan true (r.drop 1)) else if c == 34 then scan (!q) r else if !q && c == 44 then none else scan q r := by rw [scan]
theorem cuts_cons (q : Bool) (c : UInt8) (r : List UInt8) : cuts q (c :: r) = if q && c == 92 then push (c :: r.take 1) (cuts true (r.drop 1)) else if c == 34 then push [c] (cuts (!q) r) else if !q && c == 44 then [] :: cuts false r else push [c] (cuts q r) := by rw [cuts]

theorem cuts_scan : ∀ n q (x : List UInt8), x.length ≤ n → ∀ b, scan q x = some b → ∀ r, cuts q (x ++ r) = push x (cuts b r) := by
  intro n
  induction n with
  | zero =>
    intro q x hx b h r
    rw [List.length_eq_zero_iff.1 (by omega : x.length = 0)] at h ⊢
    rw [scan_nil] at h; injection h with h; subst h
    rw [List.nil_append, push_nil]
  | succ n ih =>
    intro q x hx b h r
    cases x with
    | nil => rw [scan_nil] at h; injection h with h; subst h; rw [List.nil_append, push_nil]
    | cons c t =>
      simp at hx
      rw [scan_cons] at h
      rw [List.cons_append, cuts_cons]
      by_cases h1 : (q && c == 92) = true
      · rw [if_pos h1] at h ⊢
        cases t with
        | nil => simp at h
        | cons d u =>
          simp at h hx
          simp only [List.cons_append, List.take_succ_cons, List.take_zero, List.drop_succ_cons, List.drop_zero]
          rw [ih true u (by omega) b h r, push_push]; rfl
      · rw [if_neg h1] at h ⊢
        by_cases h2 : (c == 34) = true
        · rw [if_pos h2] at h ⊢
          rw [ih _ t hx b h r, push_push]; rfl
        · rw [if_neg h2] at h ⊢
          by_cases h3 : (!q && c == 44) = true
          · rw [if_pos h3] at h; cases h
          · rw [if_neg h3] at h ⊢
            rw [ih _ t hx b h r, push_push]; rfl
theorem cuts_of_scan {q b : Bool} {x : List UInt8} (h : scan q x = some b) (r : List UInt8) : cuts q (x ++ r) = push x (cuts b r) := cuts_scan _ q x (Nat.le_refl _) b h r

/-- A text is one part, or a part that ends, a comma, and the rest. -/
theorem cuts_or : ∀ n q (s : List UInt8), s.length ≤ n → cuts q s = [s] ∨ ∃ x t, s = x ++ 44 :: t ∧ scan q x = some false ∧ cuts q s = x :: cuts false t := by
  intro n
  induction n with
  | zero => intro q s hs; rw [List.length_eq_zero_iff.1 (by omega : s.length = 0), cuts_nil]; exact Or.inl rfl
  | succ n ih =>
    intro q s hs
    cases s with
    | nil => rw [cuts_nil]; exact Or.inl rfl
    | cons c r =>
      simp at hs
      rw [cuts_cons]
      by_cases h1 : (q && c == 92) = true
      · rw [if_pos h1]
        cases r with
        | nil => exact Or.inl (by simp [cuts_nil, push])
        | cons d u =>
          simp at hs
          simp only [List.take_succ_cons, List.take_zero, List.drop_succ_cons, List.drop_zero]
          rcases ih true u (by omega) with h | ⟨x, t, e, hx, h⟩
          · rw [h]; exact Or.inl rfl
          · refine Or.inr ⟨c :: d :: x, t, by rw [e]; rfl, ?_, by rw [h]; rfl⟩
            rw [scan_cons, if_pos h1]; simpa using hx
      · rw [if_neg h1]
        by_cases h2 : (c == 34) = true
        · rw [if_pos h2]
          rcases ih (!q) r hs with h | ⟨x, t, e, hx, h⟩
          · rw [h]; exact Or.inl rfl
          · refine Or.inr ⟨c :: x, t, by rw [e]; rfl, ?_, by rw [h]; rfl⟩
            rw [scan_cons, if_neg h1, if_pos h2]; exact hx
        · rw [if_neg h2]
          by_cases h3 : (!q && c == 44) = true
          · rw [if_pos h3]
            have hq : q = false := by cases q <;> simp_all
            have hc : c = 44 := by cases q <;> simp_all
            subst hq; subst hc
            exact Or.inr ⟨[], r, rfl, scan_nil _, rfl⟩
          · rw [if_neg h3]
            rcases ih q r hs with h | ⟨x, t, e, hx, h⟩
            · rw [h]; exact Or.inl rfl
            · refine Or.inr ⟨c :: x, t, by rw [e]; rfl, ?_, by rw [h]; rfl⟩
              rw [scan_cons, if_neg h1, if_neg h2, if_neg h3]; exact hx

theorem cuts_shape : ∀ n (s : List UInt8), s.length ≤ n → ∃ xs y, cuts false s = xs ++ [y] ∧ (∀ x ∈ xs, scan false x = some false) ∧ cuts false y = [y] := by
  intro n
  induction n with
  | zero => intro s hs; rw [List.length_eq_zero_iff.1 (by omega : s.length = 0)]; exact ⟨[], [], cuts_nil _, by simp, cuts_nil _⟩
  | succ n ih =>
    intro s hs
    rcases cuts_or _ false s (Nat.le_refl _) with h | ⟨x, t, e, hx, h⟩
    · exact ⟨[], s, h, by simp, h⟩
    · obtain ⟨xs, y, e2, h2, h3⟩ := ih t (by rw [e] at hs; simp at hs; omega)
      refine ⟨x :: xs, y, by rw [h, e2]; rfl, ?_, h3⟩
      intro z hz
      rcases List.mem_cons.1 hz with rfl | hz
      · exact hx
      · exact h2 z hz

/-! what trimming leaves -/
theorem blk_ne {c : UInt8} (h : blk c = true) : c ≠ 92 ∧ c ≠ 34 ∧ c ≠ 44 := by
  unfold blk at h
  refine ⟨?_, ?_, ?_⟩ <;> (rintro rfl; revert h; decide)
theorem scan_blk {q : Bool} {c : UInt8} {x : List UInt8} (h : blk c = true) : scan q (c :: x) = scan q x := by
  obtain ⟨h1, h2, h3⟩ := blk_ne h
  rw [scan_cons, if_neg (by simp [h1]), if_neg (by simpa using h2), if_neg (by simp [h3])]
theorem cuts_blk {q : Bool} {c : UInt8} {x : List UInt8} (h : blk c = true) : cuts q (c :: x) = push [c] (cuts q x) := by
  obtain ⟨h1, h2, h3⟩ := blk_ne h
  exact cuts_plain q x (fun _ => h1) h2 (fun _ => h3)
theorem scan_triml {x : List UInt8} {q b : Bool} (h : scan q x = some b) : scan q (triml x) = some b := by
  induction x with
  | nil => exact h
  | cons c t ih =>
    by_cases hc : blk c = true
    · rw [triml_cons_blk hc]; rw [scan_blk hc] at h; exact ih h
    · rw [triml_cons_no (by simpa using hc)]; exact h
theorem one_triml {x : List UInt8} {q : Bool} (h : cuts q x = [x]) : cuts q (triml x) = [triml x] := by
  induction x with
  | nil => exact h
  | cons c t ih =>
    by_cases hc : blk c = true
    · rw [triml_cons_blk hc]; rw [cuts_blk hc] at h; exact ih (push_inj (p := [c]) (by rw [h]; rfl))
    · rw [triml_cons_no (by simpa using hc)]; exact h
theorem scan_snoc : ∀ n q (x : List UInt8), x.length ≤ n → ∀ c, blk c = true → scan q (x ++ [c]) = some false → scan q x = some false := by
  intro n
  induction n with
  | zero =>
    intro q x hx c hc h
    rw [List.length_eq_zero_iff.1 (by omega : x.length = 0)] at h ⊢
    rw [List.nil_append, scan_blk hc] at h; exact h
  | succ n ih =>
    intro q x hx c hc h
    cases x with
    | nil => rw [List.nil_append, scan_blk hc] at h; exact h
    | cons a t =>
      simp at hx
      rw [List.cons_append, scan_cons] at h
      rw [scan_cons]
      by_cases h1 : (q && a == 92) = true
      · rw [if_pos h1] at h ⊢
        cases t with
        | nil => simp [scan_nil] at h
        | cons d u => simp at h hx ⊢; exact ih true u (by omega) c hc h
      · rw [if_neg h1] at h ⊢
        by_cases h2 : (a == 34) = true
        · rw [if_pos h2] at h ⊢; exact ih _ t hx c hc h
        · rw [if_neg h2] at h ⊢
          by_cases h3 : (!q && a == 44) = true
          · rw [if_pos h3] at h; cases h
          · rw [if_neg h3] at h ⊢; exact ih _ t hx c hc h
theorem one_prefix : ∀ n q (x : List UInt8), x.length ≤ n → ∀ y, cuts q (x ++ y) = [x ++ y] → cuts q x = [x] := by
  intro n
  induction n with
  | zero => intro q x hx y _; rw [List.length_eq_zero_iff.1 (by omega : x.length = 0)]; exact cuts_nil _
  | succ n ih =>
    intro q x hx y h
    cases x with
    | nil => exact cuts_nil _
    | cons a t =>
      simp at hx
      rw [List.cons_append, cuts_cons] at h
      rw [cuts_cons]
      by_cases h1 : (q && a == 92) = true
      · rw [if_pos h1] at h ⊢
        cases t with
        | nil => simp [cuts_nil, push]
        | cons d u =>
          simp at hx
          simp only [List.cons_append, List.take_succ_cons, List.take_zero, List.drop_succ_cons, List.drop_zero] at h ⊢
          rw [ih true u (by omega) y (push_inj (p := [a, d]) (by rw [h]; rfl))]; rfl
      · rw [if_neg h1] at h ⊢
        by_cases h2 : (a == 34) = true
        · rw [if_pos h2] at h ⊢; rw [ih _ t hx y (push_inj (p := [a]) (by rw [h]; rfl))]; rfl
        · rw [if_neg h2] at h ⊢
          by_cases h3 : (!q && a == 44) = true
          · rw [if_pos h3] at h; simp at h
          · rw [if_neg h3] at h ⊢; rw [ih _ t hx y (push_inj (p := [a]) (by rw [h]; rfl))]; rfl
theorem scan_trimr {x : List UInt8} (h : scan false x = some false) : scan false (trimr x) = some false := by
  have key : ∀ n (x : List UInt8), x.length = n → scan false x = some false → scan false (trimr x) = some false := by
    intro n
    induction n with
    | zero => intro x hx h; rw [List.length_eq_zero_iff.1 hx] at h ⊢; exact h
    | succ n ih =>
      intro x hx h
      rcases snoc_cases x with rfl | ⟨t, c, rfl⟩
      · exact h
      · by_cases hc : blk c = true
        · rw [trimr_snoc_blk hc]; exact ih t (by simp at hx; omega) (scan_snoc _ _ t (Nat.le_refl _) c hc h)
        · rw [trimr_snoc_no (by simpa using hc)]; exact h
  exact key _ x rfl h
theorem scan_trim {x : List UInt8} (h : scan false x = some false) : scan false (trim x) = some false := scan_triml (scan_trimr h)
theorem one_trim {x : List UInt8} (h : cuts false x = [x]) : cuts false (trim x) = [trim x] := by
  unfold trim
  refine one_triml ?_
  obtain ⟨q, e, _⟩ := trimr_prefix x
  exact one_prefix _ _ _ (Nat.le_refl _) q (by rw [← e]; exact h)
theorem one_of_scan {x : List UInt8} {q b : Bool} (h : scan q x = some b) : cuts q x = [x] := by
  have := cuts_of_scan h []
  rw [List.append_nil, cuts_nil] at this
  rw [this]; simp [push]

/-! the parts that are kept -/
def keep (xs : List (List UInt8)) : List (List UInt8) := (xs.map trim).filter (fun x => !x.isEmpty)
def split (s : List UInt8) : List (List UInt8) := keep (cuts false s)
theorem keep_append (xs ys : List (List UInt8)) : keep (xs ++ ys) = keep xs ++ keep ys := by unfold keep; rw [List.map_append, List.filter_append]
theorem keep_one (x : List UInt8) : keep [x] = if trim x = [] then [] else [trim x] := by
  unfold keep
  by_cases h : trim x = [] <;> simp [h, List.filter_cons]
theorem keep_ok {xs : List (List UInt8)} {x : List UInt8} (h : x ∈ keep xs) : x ≠ [] ∧ trim x = x := by
  unfold keep at h
  rw [List.mem_filter] at h
  obtain ⟨h1, h2⟩ := h
  obtain ⟨y, _, rfl⟩ := List.mem_map.1 h1
  exact ⟨by simpa using h2, trim_trim y⟩
theorem split_ok {s x : List UInt8} (h : x ∈ split s) : x ≠ [] ∧ trim x = x := keep_ok h
theorem trim_blk {c : UInt8} {x : List UInt8} (h : blk c = true) : trim (c :: x) = trim x := by
  rw [← trimr_triml, triml_cons_blk h, trimr_triml]
theorem keep_push {c : UInt8} {L : List (List UInt8)} (h : blk c = true) : keep (push [c] L) = keep L := by
  cases L with
  | nil => rfl
  | cons a r => unfold keep push; simp [trim_blk h]

def join (xs : List (List UInt8)) : List UInt8 := Lib.join xs [44, 32]
theorem join_one (x : List UInt8) : join [x] = x := Lib.join_one x _
theorem join_cons (x : List UInt8) (ys : List (List UInt8)) (h : ys ≠ []) : join (x :: ys) = x ++ 44 :: 32 :: join ys := by
  cases ys with
  | nil => exact absurd rfl h
  | cons y r => unfold join Lib.join; simp [List.intercalate]
theorem split_join_chain (xs : List (List UInt8)) (y : List UInt8) (hx : ∀ x ∈ xs, scan false x = some false ∧ x ≠ [] ∧ trim x = x) (hy : cuts false y = [y]) (h0 : y ≠ []) (ht : trim y = y) :
    split (join (xs ++ [y])) = xs ++ [y] := by
  induction xs with
  | nil =>
    rw [List.nil_append, join_one]
    unfold split
    rw [hy, keep_one, ht, if_neg h0]
  | cons x r ih =>
    obtain ⟨h1, h2, h3⟩ := hx x (by simp)
    have ih' := ih (fun z hz => hx z (by simp [hz]))
    rw [List.cons_append, join_cons _ _ (by simp)]
    unfold split at ih' ⊢
    rw [cuts_of_scan h1, cuts_comma _ rfl, cuts_blk (by decide)]
    show keep ((x ++ []) :: push [32] (cuts false (join (r ++ [y])))) = _
    rw [List.append_nil, show ∀ (a : List UInt8) L, a :: L = [a] ++ L from fun _ _ => rfl, keep_append, keep_push (by decide), ih', keep_one, h3, if_neg h2]
    rfl
theorem split_join (s : List UInt8) : split (join (split s)) = split s := by
  obtain ⟨xs, y, e, hx, hy⟩ := cuts_shape _ s (Nat.le_refl _)
  have hs : split s = keep xs ++ keep [y] := by unfold split; rw [e, keep_append]
  have hk : ∀ x ∈ keep xs, scan false x = some false ∧ x ≠ [] ∧ trim x = x := by
    intro x h
    refine ⟨?_, keep_ok h⟩
    unfold keep at h
    obtain ⟨z, hz, rfl⟩ := List.mem_map.1 (List.mem_filter.1 h).1
    exact scan_trim (hx z hz)
  by_cases hy0 : trim y = []
  · rw [keep_one, if_pos hy0, List.append_nil] at hs
    rw [hs]
    rcases List.eq_nil_or_concat (keep xs) with h0 | ⟨t, z, h⟩
    · rw [h0]; unfold join Lib.join split; rw [show [44, 32].intercalate ([] : List (List UInt8)) = [] from rfl, cuts_nil]; rfl
    · have h' : keep xs = t ++ [z] := by simpa using h
      rw [h'] at hk ⊢
      obtain ⟨a, b, c⟩ := hk z (by simp)
      exact split_join_chain t z (fun x hx => hk x (by simp [hx])) (one_of_scan a) b c
  · rw [keep_one, if_neg hy0] at hs
    rw [hs]
    exact split_join_chain _ _ hk (one_trim hy) hy0 (trim_trim y)

/-! where a quoted string ends -/
/-- How many bytes stand before the closing sign; all where there is none. -/
def qlen (l : List UInt8) : Nat :=
  match l with
  | [] => 0
  | c :: r => if c == 34 then 0 else if c == 92 then (if r.isEmpty then 1 else qlen (r.drop 1) + 2) else qlen r + 1
  termination_by l.length
  decreasing_by all_goals simp_wf; all_goals omega
theorem qlen_cons (c : UInt8) (r : List UInt8) : qlen (c :: r) = if c == 34 then 0 else if c == 92 then (if r.isEmpty then 1 else qlen (r.drop 1) + 2) else qlen r + 1 := by rw [qlen]
theorem qlen_nil : qlen [] = 0 := by rw [qlen]
theorem cuts_qlen : ∀ n (r : List UInt8), r.length ≤ n → qlen r ≤ r.length ∧ cuts true r = if qlen r < r.length then push (r.take (qlen r + 1)) (cuts false (r.drop (qlen r + 1))) else [r] := by
  intro n
  induction n with
  | zero => intro r hr; rw [List.length_eq_zero_iff.1 (by omega : r.length = 0), qlen_nil, cuts_nil]; simp
  | succ n ih =>
    intro r hr
    cases r with
    | nil => rw [qlen_nil, cuts_nil]; simp
    | cons c t =>
      simp at hr
      rw [qlen_cons, cuts_cons]
      by_cases h34 : (c == 34) = true
      · have : c = 34 := by simpa using h34
        subst this
        simp
      · rw [if_neg h34, if_neg h34]
        by_cases h92 : (c == 92) = true
        · rw [if_pos h92, if_pos (show (true && c == 92) = true by simpa using h92)]
          cases t with
          | nil => simp [cuts_nil, push]
          | cons d u =>
            simp at hr
            obtain ⟨a, b⟩ := ih u (by omega)
            simp only [List.isEmpty_cons, Bool.false_eq_true, if_false, List.drop_succ_cons, List.drop_zero, List.take_succ_cons, List.take_zero, List.length_cons]
            refine ⟨by omega, ?_⟩
            rw [b]
            by_cases hq : qlen u < u.length
            · rw [if_pos hq, if_pos (by omega), push_push]; rfl
            · rw [if_neg hq, if_neg (by omega)]; rfl
        · rw [if_neg h92, if_neg (show ¬ (true && c == 92) = true by simpa using h92), if_neg (show ¬ (!true && c == 44) = true by simp)]
          obtain ⟨a, b⟩ := ih t hr
          simp only [List.length_cons, List.take_succ_cons, List.drop_succ_cons]
          refine ⟨by omega, ?_⟩
          rw [b]
          by_cases hq : qlen t < t.length
          · rw [if_pos hq, if_pos (by omega), push_push]; rfl
          · rw [if_neg hq, if_neg (by omega)]; rfl
end Go.Proofs.YtidmppphlcfpjaaGreatDoor.Tx

/-
  PLAIN FACTS on slices of texts: what a slice holds (as a list of texts), how that is kept, how a slice that the call itself has built is such a one, and how one more text is put behind it.
-/
namespace Go.Proofs.YtidmppphlcfpjaaGreatDoor.Strs
open Go Go.RowKit
set_option linter.unusedVariables false
set_option maxRecDepth 1000000

theorem info_str : (Tryz.prog.info? 9).map (fun i => (i.zero, i.size, i.bytes)) = some (some (.string ⟨#[]⟩), 1, 16) := by kernel_rfl

/-- A text as a value. -/
def sv (x : List UInt8) : Value := .string ⟨x.toArray⟩
def svs (xs : List (List UInt8)) : List Value := xs.map sv
theorem svs_len (xs : List (List UInt8)) : (svs xs).length = xs.length := by unfold svs; simp
theorem svs_at {xs : List (List UInt8)} {j : Nat} (h : j < xs.length) : (svs xs)[j]? = some (sv (xs.getD j [])) := by unfold svs; simp [List.getD, h]
theorem svs_more (xs : List (List UInt8)) (x : List UInt8) : svs (xs ++ [x]) = svs xs ++ [sv x] := by unfold svs; simp
theorem svs_one (xs : List (List UInt8)) : ∀ u ∈ svs xs, u.oneCell' = true := by
  intro u hu; obtain ⟨x, _, rfl⟩ := List.mem_map.1 hu; rfl
theorem sv_one (x : List UInt8) : ∀ u ∈ [sv x], u.oneCell' = true := by intro u hu; simp at hu; subst hu; rfl

/-- The cells from (b, off) on are these texts. -/
def At (w : World) (b off : Nat) (xs : List (List UInt8)) : Prop := ∀ j, j < xs.length → w.cell? ⟨b, off + j, none⟩ = some (sv (xs.getD j []))
/-- The slice v reads as the texts xs; its cells lie below block B. -/
def Holds (w : World) (B : Nat) (v : Value) (xs : List (List UInt8)) : Prop := (xs = [] ∧ ∃ a cap, v = .slice a 0 cap) ∨ (0 < xs.length ∧ ∃ b off cap, v = .slice (some ⟨b, off, none⟩) xs.length cap ∧ b < B ∧ xs.length ≤ cap ∧ At w b off xs)

theorem lt_of_cell {w : World} {b o : Nat} {u : Value} (h : w.cell? ⟨b, o, none⟩ = some u) : b < w.heap.size := by
  rcases Nat.lt_or_ge b w.heap.size with h' | h'
  · exact h'
  · simp [World.cell?, Array.getElem?_eq_none h'] at h
theorem at_lt {w : World} {b off : Nat} {xs : List (List UInt8)} (h : At w b off xs) (h0 : 0 < xs.length) : b < w.heap.size := lt_of_cell (h 0 h0)
theorem at_below {w w' : World} {B b off : Nat} {xs : List (List UInt8)} (h : At w b off xs) (hb : Below B w w') (hlt : b < B) : At w' b off xs := fun j hj => by
  rw [hb.cell (p := ⟨b, off + j, none⟩) hlt]; exact h j hj
theorem holds_lt {w : World} {B : Nat} {v : Value} {xs : List (List UInt8)} (h : Holds w B v xs) : Holds w w.heap.size v xs := by
  rcases h with h | ⟨h0, b, off, cap, rfl, hB, hc, h1⟩
  · exact Or.inl h
  · exact Or.inr ⟨h0, b, off, cap, rfl, at_lt h1 h0, hc, h1⟩
theorem holds_more {w : World} {B B' : Nat} {v : Value} {xs : List (List UInt8)} (h : Holds w B v xs) (hB : B ≤ B') : Holds w B' v xs := by
  rcases h with h | ⟨h0, b, off, cap, rfl, h2, hc, h1⟩
  · exact Or.inl h
  · exact Or.inr ⟨h0, b, off, cap, rfl, by omega, hc, h1⟩
theorem holds_below {w w' : World} {B : Nat} {v : Value} {xs : List (List UInt8)} (h : Holds w B v xs) (hb : Below B w w') : Holds w' B v xs := by
  rcases h with h | ⟨h0, b, off, cap, rfl, hB, hc, h1⟩
  · exact Or.inl h
  · exact Or.inr ⟨h0, b, off, cap, rfl, hB, hc, at_below h1 hb hB⟩
/-- Kept where only one block of others is written. -/
theorem holds_grown {w w' : World} {B : Nat} {v : Value} {xs : List (List UInt8)} {row : Option Nat} (h : Holds w B v xs) (hg : w.grownBy w' row) (hr : ∀ k, row = some k → B ≤ k) : Holds w' B v xs := by
  rcases h with h | ⟨h0, b, off, cap, rfl, hB, hc, h1⟩
  · exact Or.inl h
  · refine Or.inr ⟨h0, b, off, cap, rfl, hB, hc, fun j hj => ?_⟩
    exact hg.cell (h1 j hj) (fun e => by have := hr b e.symm; omega)
abbrev Own (w : World) (B : Nat) (v : Value) (xs : List (List UInt8)) : Prop := w.ownsRow B 9 1 v xs.length (svs xs)
theorem own_cell {w : World} {B g cap : Nat} {xs : List (List UInt8)} {n : Nat} (h : w.ownsRow B 9 1 (.slice (some ⟨g, 0, none⟩) n cap) n (svs xs)) {j : Nat} (hj : j < n) : w.cell? ⟨g, j, none⟩ = some (sv (xs.getD j [])) := by
  have hn : xs.length = n := by have := h.1; rw [svs_len] at this; omega
  rw [h.cellAt j (by omega)]
  exact svs_at (by omega)
/-- A slice that the call has built reads as what it owns. -/
theorem own_holds {w : World} {B : Nat} {v : Value} {xs : List (List UInt8)} (h : Own w B v xs) : Holds w w.heap.size v xs := by
  have h' := h
  obtain ⟨hl, hc⟩ := h
  rcases hc with ⟨rfl, h0⟩ | ⟨g, cap, cur, rfl, hb, hg, hn, hcap, hs, ht⟩
  · have : xs = [] := List.eq_nil_of_length_eq_zero h0
    subst this; exact Or.inl ⟨rfl, _, _, rfl⟩
  · by_cases h0 : xs = []
    · subst h0; exact Or.inl ⟨rfl, _, _, rfl⟩
    · refine Or.inr ⟨List.length_pos_iff.2 h0, g, 0, cap, rfl, ?_, hn, fun j hj => ?_⟩
      · have := h'.lt g rfl; exact this.2
      · rw [Nat.zero_add]; exact own_cell h' hj
theorem news_one (w : World) (x : Value) (T : TypeId) : ∀ j u, [x][j]? = some u → (w.alloc (.cells #[x] T)).cell? ((⟨w.heap.size, 0, none⟩ : Addr).add j) = some u := by
  intro j u hj
  match j, hj with
  | 0, hj =>
    simp at hj; subst hj
    show World.cell? _ ⟨w.heap.size, 0 + 0, none⟩ = _
    rw [World.cell?_alloc_new]; simp
/-- One more text behind a slice that the call has built. -/
theorem push_own {B : Nat} {a w w1 : World} {v v' : Value} {xs : List (List UInt8)} {x : List UInt8} {o : Obj} (hown : Own w B v xs) (hb : Below a.heap.size a w) (hB : a.heap.size ≤ B)
    (h' : w1.ownsRow B 9 1 v' (xs.length + 1) (svs xs ++ [sv x])) (hg : (w.alloc o).grownBy w1 v.ownBlock) :
    Own w1 B v' (xs ++ [x]) ∧ Below a.heap.size a w1 := by
  refine ⟨by show w1.ownsRow B 9 1 v' (xs ++ [x]).length (svs (xs ++ [x])); rw [List.length_append, svs_more]; exact h', (hb.alloc hb.size o).grown hg (by have := hb.size; simp; omega) (fun k e => Nat.le_trans hB (hown.lt k e).1)⟩
theorem own_lit_nil (w : World) : Own (w.alloc (.cells #[] 9)) w.heap.size (.slice (some ⟨w.heap.size, 0, none⟩) 0 0) [] := World.ownsRow_lit w #[] 0 (Nat.le_refl _) (by decide) rfl
end Go.Proofs.YtidmppphlcfpjaaGreatDoor.Strs

/-
  PLAIN FACTS on the size of a list of texts.
-/
namespace Go.Proofs.YtidmppphlcfpjaaGreatDoor.Strs
open Go Go.RowKit
set_option linter.unusedVariables false
set_option maxRecDepth 1000000

/-! the size -/
def total (xs : List (List UInt8)) : Nat := (xs.map (·.length)).sum + xs.length
theorem total_nil : total [] = 0 := rfl
def pre (xs : List (List UInt8)) (k : Nat) : Nat := ((xs.take k).map (·.length)).sum
theorem pre_zero (xs : List (List UInt8)) : pre xs 0 = 0 := by unfold pre; simp
theorem pre_more {xs : List (List UInt8)} {k : Nat} (h : k < xs.length) : pre xs (k + 1) = pre xs k + (xs.getD k []).length := by
  unfold pre; rw [List.take_succ_eq_append_getElem h, List.map_append, List.sum_append]; simp [List.getD, h]
theorem pre_all {xs : List (List UInt8)} {k : Nat} (h : k = xs.length) : total xs = pre xs k + xs.length := by unfold pre total; subst h; simp
end Go.Proofs.YtidmppphlcfpjaaGreatDoor.Strs

/-
  PLAIN FACTS on joined texts.
-/
namespace Go.Proofs.YtidmppphlcfpjaaGreatDoor.Tx
open Go Go.RowKit Strs
set_option linter.unusedVariables false
set_option maxRecDepth 1000000

theorem addtwo (a b : List UInt8) (h : a.length + b.length ≤ 1000000000) (W : World) :
    (Op.stringOp .add ⟨a.toArray⟩ ⟨b.toArray⟩).run Tryz.prog W = .ok (.string ⟨(a ++ b).toArray⟩) W := by
  rw [run_string_add_sum W _ _ (by simp [ByteArray.size]; omega)]
  congr 2
theorem join_snoc {xs : List (List UInt8)} (x : List UInt8) (h : xs ≠ []) : join (xs ++ [x]) = join xs ++ [44, 32] ++ x := by
  induction xs with
  | nil => exact absurd rfl h
  | cons a r ih =>
    by_cases hr : r = []
    · subst hr; rw [List.singleton_append, join_cons _ _ (by simp), join_one, join_one]; simp
    · rw [List.cons_append, join_cons _ _ (by simp), join_cons _ _ hr, ih hr]; simp
theorem join_more {xs : List (List UInt8)} {k : Nat} (h : k < xs.length) (h0 : 0 < k) : join (xs.take (k + 1)) = join (xs.take k) ++ [44, 32] ++ xs.getD k [] := by
  rw [List.take_succ_eq_append_getElem h, join_snoc _ (by intro e; have h' := congrArg List.length e; rw [List.length_take, List.length_nil] at h'; omega)]
  simp [List.getD, h]
theorem join_first {xs : List (List UInt8)} (h : 0 < xs.length) : join (xs.take 1) = xs.getD 0 [] := by
  cases xs with
  | nil => simp at h
  | cons a r => simp [join_one]
theorem join_nil : join [] = [] := rfl
theorem pre_le (xs : List (List UInt8)) (k : Nat) : pre xs k ≤ (xs.map (·.length)).sum := by
  unfold pre
  conv => rhs; rw [← List.take_append_drop k xs]
  rw [List.map_append, List.sum_append]; omega
theorem join_len (xs : List (List UInt8)) (k : Nat) (hk : k ≤ xs.length) : (join (xs.take k)).length ≤ pre xs k + 2 * k := by
  induction k with
  | zero => simp [join_nil]
  | succ k ih =>
    have ih := ih (by omega)
    have hp := pre_more (xs := xs) (k := k) (by omega)
    by_cases h0 : 0 < k
    · rw [join_more (by omega) h0]; simp only [List.length_append, List.length_cons, List.length_nil]; omega
    · have : k = 0 := by omega
      subst this
      rw [join_first (by omega)]; rw [hp]; omega

def JoinEnd (xs : List (List UInt8)) (w : World) (e : Ending) (w' : World) : Prop := e = .returned (.string ⟨(join xs).toArray⟩) ∧ Below w.heap.size w w'
theorem ret_join {a b : List UInt8} (h : a = b) : Ending.returned (.string ⟨a.toArray⟩) = .returned (.string ⟨b.toArray⟩) := by rw [h]

end Go.Proofs.YtidmppphlcfpjaaGreatDoor.Tx
