/-
  CONTRACTS AND PLAIN FACTS, several texts in one; each says in its own words what it proves.
-/
import Derived.Test.YtjjelbijbbnmcaaGreatDoorPartAC
import Derived.Test.YtjjelbijbbnmcaaGreatDoorPartAF
import Derived.Test.YtjjelbijbbnmcaaGreatDoorPartC
import Derived.Test.YtjjelbijbbnmcaaGreatDoorPartAB
import Derived.Test.YtjjelbijbbnmcaaGreatDoorPartL
import Derived.Test.YtjjelbijbbnmcaaGreatDoorPartB
import Derived.Test.YtjjelbijbbnmcaaGreatDoorPartH
import Derived.Test.YtjjelbijbbnmcaaGreatDoorPartM
import Derived.Test.YtjjelbijbbnmcaaGreatDoorPartAA

/-
  CONTRACTS of IsWhole and ArePieces, the model's and the program's; nothing that was there before is changed.
-/
namespace Go.Proofs.YtjjelbijbbnmcaaGreatDoor.Pcs
open Go Go.RowKit
set_option linter.unusedVariables false
set_option maxRecDepth 1000000

def BoolEnd (b : Bool) (w : World) (e : Ending) (w' : World) : Prop := e = .returned (.bool b) ∧ Below w.heap.size w w'
theorem ret_b {a b : Bool} (h : a = b) : Ending.returned (.bool a) = .returned (.bool b) := by rw [h]
def whole (l : List T) (n : Int) : Bool := Spn.covers (spans l) (0, n)

set_option maxHeartbeats 1000000 in
theorem spec_whole (v : Value) (B : Nat) (l : List T) (n : Int) (w : World) (h : Holds w B v l) (hB : B ≤ w.heap.size) (hl : total l ≤ 1048576) :
    Calls Tryz.prog 19 #[v, .int .i64 n] w (BoolEnd (whole l n) w) := by
  have hll : l.length ≤ 1048576 := Nat.le_trans (len_le_total l) hl
  have HS := Lib.hid (spec_spans v B l w h hB hl)
  have HL : Hid ((spans l).length ≤ 4194304) := Lib.hid (by rw [spans_len]; omega)
  unfold SpansEnd at HS
  unfold whole BoolEnd
  generalize spans l = m at HS HL ⊢
  clear h
  go_enter Tryz.func19, Tryz.ntmps19
  go_wp2_with (fail)
  go_at_call 43
  refine HS.out.mono ?_
  rintro e w1 ⟨u, rfl, ho, hb1⟩
  have HH := Lib.hid (Spn.own_holds ho)
  have HB1 := Lib.hid hb1
  clear ho hb1
  go_wp2_with (fail)
  go_at_call 45
  refine (Spn.spec_cov u _ m 0 n _ HH.out (Nat.le_refl _) HL.out).mono ?_
  rintro e w2 ⟨rfl, hb2⟩
  have HB2 := Lib.hid (Base.then_below HB1.out hb2)
  clear hb2
  go_wp2
  go_ret
  exact ⟨rfl, HB2.out⟩
set_option maxHeartbeats 1000000 in
theorem impl_whole (v : Value) (B : Nat) (l : List T) (n : Int) (w : World) (h : Holds w B v l) (hB : B ≤ w.heap.size) (hl : total l ≤ 1048576) :
    Calls Tryz.prog 27 #[v, .int .i64 n] w (BoolEnd (whole l n) w) := by
  have hll : l.length ≤ 1048576 := Nat.le_trans (len_le_total l) hl
  have HS := Lib.hid (impl_spans v B l w h hB hl)
  have HL : Hid ((spans l).length ≤ 4194304) := Lib.hid (by rw [spans_len]; omega)
  unfold SpansEnd at HS
  unfold whole BoolEnd
  generalize spans l = m at HS HL ⊢
  clear h
  go_enter Tryz.func27, Tryz.ntmps27
  go_wp2_with (fail)
  go_at_call 56
  refine HS.out.mono ?_
  rintro e w1 ⟨u, rfl, ho, hb1⟩
  have HH := Lib.hid (Spn.own_holds ho)
  have HB1 := Lib.hid hb1
  clear ho hb1
  go_wp2_with (fail)
  go_at_call 58
  refine (Spn.impl_cov u _ m 0 n _ HH.out (Nat.le_refl _) HL.out).mono ?_
  rintro e w2 ⟨rfl, hb2⟩
  have HB2 := Lib.hid (Base.then_below HB1.out hb2)
  clear hb2
  go_wp2
  go_ret
  exact ⟨rfl, HB2.out⟩

/-- Where the last piece ends. -/
def lastEnd (l : List T) : Int := ends (l.getD (l.length - 1) nov).1 (l.getD (l.length - 1) nov).2
def arep (l : List T) (n : Int) : Bool := decide (0 ≤ n ∧ n ≤ 600) && (decide (l.length ≤ 8) && (Spn.isSet (spans l) && (decide (l.length = 0) || decide (lastEnd l ≤ n))))
theorem arep_n {l : List T} {n : Int} (h : ¬ (0 ≤ n ∧ n ≤ 600)) : arep l n = false := by unfold arep; rw [decide_eq_false h, Bool.false_and]
theorem arep_len {l : List T} {n : Int} (h : ¬ l.length ≤ 8) : arep l n = false := by unfold arep; rw [decide_eq_false h, Bool.false_and, Bool.and_false]
theorem arep_set {l : List T} {n : Int} (h : Spn.isSet (spans l) = false) : arep l n = false := by unfold arep; rw [h, Bool.false_and, Bool.and_false, Bool.and_false]
theorem arep_nil {l : List T} {n : Int} (h1 : 0 ≤ n ∧ n ≤ 600) (h2 : Spn.isSet (spans l) = true) (h3 : l.length = 0) : arep l n = true := by unfold arep; rw [decide_eq_true h1, h2]; simp [h3]
theorem arep_end {l : List T} {n : Int} (h1 : 0 ≤ n ∧ n ≤ 600) (h4 : l.length ≤ 8) (h2 : Spn.isSet (spans l) = true) (h3 : l.length ≠ 0) : arep l n = decide (lastEnd l ≤ n) := by unfold arep; rw [decide_eq_true h1, h2]; simp [h3, h4]
theorem spans_last {l : List T} (h : l.length ≠ 0) : (spans l).getD (l.length - 1) Spn.nov = ((l.getD (l.length - 1) nov).1, lastEnd l) := by
  have hlt : l.length - 1 < l.length := by omega
  unfold spans lastEnd
  simp [List.getD, hlt, spn]

set_option maxRecDepth 1000000 in
set_option maxHeartbeats 2000000 in
theorem spec_are_nil (a : Option Addr) (cap : Nat) (n : Int) (w : World) :
    Calls Tryz.prog 18 #[.slice a 0 cap, .int .i64 n] w (BoolEnd (arep [] n) w) := by
  have HS := Lib.hid (spec_spans (.slice a 0 cap) 0 [] w (Or.inl ⟨rfl, _, _, rfl⟩) (Nat.zero_le _) (by rw [show total [] = 0 from rfl]; omega))
  unfold SpansEnd at HS
  unfold BoolEnd
  by_cases h1 : 0 ≤ n ∧ n ≤ 600
  case neg =>
    have HE := Lib.hid (arep_n (l := []) h1)
    have HN := Lib.hid (show n < 0 ∨ 600 < n by omega)
    clear h1
    go_enter Tryz.func18, Tryz.ntmps18
    go_wp2_with (fail)
    go_at_call 43
    refine HS.out.mono ?_
    rintro e w1 ⟨u, rfl, ho, hb1⟩
    have HB1 := Lib.hid hb1
    clear ho hb1
    go_wp2_with (fail)
    go_at_call 20
    refine (NumDiv.in_no _ _ _ _ HN.out).mono ?_
    rintro e w2 ⟨rfl, rfl⟩
    go_wp2
    go_ret
    exact ⟨ret_b HE.out.symm, HB1.out⟩
  have HE := Lib.hid (arep_nil (l := []) h1 rfl rfl)
  obtain ⟨n0, n6⟩ := h1
  go_enter Tryz.func18, Tryz.ntmps18
  go_wp2_with (fail)
  go_at_call 43
  refine HS.out.mono ?_
  rintro e w1 ⟨u, rfl, ho, hb1⟩
  have HB1 := Lib.hid hb1
  have HH : Hid (Spn.Holds w1 w1.heap.size u []) := Lib.hid (Spn.own_holds ho)
  clear ho hb1
  go_wp2_with (fail)
  go_at_call 20
  refine (NumDiv.in_yes _ _ _ _ n0 n6).mono ?_
  rintro e w2 ⟨rfl, rfl⟩
  go_wp2_with (fail)
  go_at_call 44
  refine (Spn.spec_set u _ _ _ HH.out (Nat.le_refl _) (by decide)).mono ?_
  rintro e w3 ⟨rfl, hb3⟩
  have HB3 := Lib.hid (Base.then_below HB1.out hb3)
  clear hb3
  obtain ⟨a3, c3, hu, _⟩ := Spn.shape HH.out
  rw [List.length_nil] at hu
  subst hu
  rw [show Spn.isSet [] = true from rfl]
  go_wp2
  go_ret
  exact ⟨ret_b HE.out.symm, HB3.out⟩
theorem impl_are_nil (a : Option Addr) (cap : Nat) (n : Int) (w : World) :
    Calls Tryz.prog 26 #[.slice a 0 cap, .int .i64 n] w (BoolEnd (arep [] n) w) := by
  have HS := Lib.hid (impl_spans (.slice a 0 cap) 0 [] w (Or.inl ⟨rfl, _, _, rfl⟩) (Nat.zero_le _) (by rw [show total [] = 0 from rfl]; omega))
  unfold SpansEnd at HS
  unfold BoolEnd
  by_cases h1 : 0 ≤ n ∧ n ≤ 600
  case neg =>
    have HE := Lib.hid (arep_n (l := []) h1)
    rcases (show n < 0 ∨ (¬ n < 0 ∧ 600 < n) by omega) with g | ⟨g, g2⟩
    all_goals
      clear h1
      go_enter Tryz.func26, Tryz.ntmps26
      go_wp2
      go_ret
      exact ⟨ret_b HE.out.symm, Below.refl _ _⟩
  have HE := Lib.hid (arep_nil (l := []) h1 rfl rfl)
  have n0 : ¬ n < 0 := by omega
  have n6 : ¬ 600 < n := by omega
  clear h1
  go_enter Tryz.func26, Tryz.ntmps26
  go_wp2_with (fail)
  go_at_call 56
  refine HS.out.mono ?_
  rintro e w1 ⟨u, rfl, ho, hb1⟩
  have HB1 := Lib.hid hb1
  have HH : Hid (Spn.Holds w1 w1.heap.size u []) := Lib.hid (Spn.own_holds ho)
  clear ho hb1
  go_wp2_with (fail)
  go_at_call 55
  refine (Spn.impl_set u _ _ _ HH.out (Nat.le_refl _) (by decide)).mono ?_
  rintro e w3 ⟨rfl, hb3⟩
  have HB3 := Lib.hid (Base.then_below HB1.out hb3)
  clear hb3
  rw [show Spn.isSet [] = true from rfl]
  go_wp2
  go_ret
  exact ⟨ret_b HE.out.symm, HB3.out⟩

set_option maxRecDepth 1000000 in
set_option maxHeartbeats 2000000 in
theorem spec_are_some (v : Value) (B : Nat) (l : List T) (n : Int) (w : World) (h : Holds w B v l) (hB : B ≤ w.heap.size) (hl : total l ≤ 1048576) (h0 : l.length ≠ 0) :
    Calls Tryz.prog 18 #[v, .int .i64 n] w (BoolEnd (arep l n) w) := by
  have hll : l.length ≤ 1048576 := Nat.le_trans (len_le_total l) hl
  have HS := Lib.hid (spec_spans v B l w h hB hl)
  have HL : Hid ((spans l).length ≤ 4194304) := Lib.hid (by rw [spans_len]; omega)
  have HLN := Lib.hid (spans_len l)
  have HLA := Lib.hid (fun (h : l.length ≠ 0) => spans_last h)
  obtain ⟨a, cap, rfl, _⟩ := shape h
  unfold SpansEnd at HS
  clear h hl
  unfold BoolEnd
  by_cases h1 : 0 ≤ n ∧ n ≤ 600
  case neg =>
    have HE := Lib.hid (arep_n (l := l) h1)
    have HN := Lib.hid (show n < 0 ∨ 600 < n by omega)
    clear h1
    go_enter Tryz.func18, Tryz.ntmps18
    go_wp2_with (fail)
    go_at_call 43
    refine HS.out.mono ?_
    rintro e w1 ⟨u, rfl, ho, hb1⟩
    have HB1 := Lib.hid hb1
    clear ho hb1
    go_wp2_with (fail)
    go_at_call 20
    refine (NumDiv.in_no _ _ _ _ HN.out).mono ?_
    rintro e w2 ⟨rfl, rfl⟩
    go_wp2
    go_ret
    exact ⟨ret_b HE.out.symm, HB1.out⟩
  have H1 := Lib.hid h1
  obtain ⟨n0, n6⟩ := h1
  by_cases h8 : (l.length : Int) ≤ 8
  case neg =>
    have HE := Lib.hid (arep_len (l := l) (n := n) (by omega))
    go_enter Tryz.func18, Tryz.ntmps18
    go_wp2_with (fail)
    go_at_call 43
    refine HS.out.mono ?_
    rintro e w1 ⟨u, rfl, ho, hb1⟩
    have HB1 := Lib.hid hb1
    clear ho hb1
    go_wp2_with (fail)
    go_at_call 20
    refine (NumDiv.in_yes _ _ _ _ n0 n6).mono ?_
    rintro e w2 ⟨rfl, rfl⟩
    go_wp2
    go_ret
    exact ⟨ret_b HE.out.symm, HB1.out⟩
  cases hset : Spn.isSet (spans l) with
  | false =>
    have HE := Lib.hid (arep_set (n := n) hset)
    have HQ := Lib.hid hset
    clear hset
    go_enter Tryz.func18, Tryz.ntmps18
    go_wp2_with (fail)
    go_at_call 43
    refine HS.out.mono ?_
    rintro e w1 ⟨u, rfl, ho, hb1⟩
    have HB1 := Lib.hid hb1
    have HH := Lib.hid (Spn.own_holds ho)
    clear ho hb1
    go_wp2_with (fail)
    go_at_call 20
    refine (NumDiv.in_yes _ _ _ _ n0 n6).mono ?_
    rintro e w2 ⟨rfl, rfl⟩
    go_wp2_with (fail)
    go_at_call 44
    refine (Spn.spec_set u _ _ _ HH.out (Nat.le_refl _) HL.out).mono ?_
    rintro e w3 ⟨he, hb3⟩
    rw [HQ.out] at he
    subst he
    have HB3 := Lib.hid (Base.then_below HB1.out hb3)
    clear hb3
    go_wp2
    go_ret
    exact ⟨ret_b HE.out.symm, HB3.out⟩
  | true =>
    have HQ := Lib.hid hset
    have HE := Lib.hid (arep_end H1.out (by omega) hset h0)
    have HZ := Lib.hid (HLA.out h0)
    have hpos : 0 < (l.length : Int) := by omega
    clear hset
    go_enter Tryz.func18, Tryz.ntmps18
    go_wp2_with (fail)
    go_at_call 43
    refine HS.out.mono ?_
    rintro e w1 ⟨u, rfl, ho, hb1⟩
    have HB1 := Lib.hid hb1
    have HH := Lib.hid (Spn.own_holds ho)
    clear ho hb1
    go_wp2_with (fail)
    go_at_call 20
    refine (NumDiv.in_yes _ _ _ _ n0 n6).mono ?_
    rintro e w2 ⟨rfl, rfl⟩
    go_wp2_with (fail)
    go_at_call 44
    refine (Spn.spec_set u _ _ _ HH.out (Nat.le_refl _) HL.out).mono ?_
    rintro e w3 ⟨he, hb3⟩
    rw [HQ.out] at he
    subst he
    have HB3 := Lib.hid (Base.then_below HB1.out hb3)
    have HH3 := Lib.hid (Spn.holds_below HH.out hb3)
    clear hb3
    obtain ⟨a3, c3, hu, hat⟩ := Spn.shape HH3.out
    rw [HLN.out] at hu hat
    subst hu
    obtain ⟨b, off, rfl, _, hcap, hc⟩ := hat (by omega)
    have hcc := (Spn.at_cells hc (j := l.length - 1) (by rw [HLN.out]; omega)).2
    rw [HZ.out] at hcc
    dsimp only at hcc
    generalize lastEnd l = z at hcc HE
    clear hc hat
    have HF : Hid (((l.length : Int) == 0) = false) := Lib.hid (by rw [beq_eq_false_iff_ne]; omega)
    go_wp2
    go_ret
    exact ⟨ret_b (by rw [HE.out, HF.out, Bool.false_or]), HB3.out⟩

set_option maxRecDepth 1000000 in
set_option maxHeartbeats 2000000 in
theorem impl_are_some (v : Value) (B : Nat) (l : List T) (n : Int) (w : World) (h : Holds w B v l) (hB : B ≤ w.heap.size) (hl : total l ≤ 1048576) (h0 : l.length ≠ 0) :
    Calls Tryz.prog 26 #[v, .int .i64 n] w (BoolEnd (arep l n) w) := by
  have hll : l.length ≤ 1048576 := Nat.le_trans (len_le_total l) hl
  have HS := Lib.hid (impl_spans v B l w h hB hl)
  have HL : Hid ((spans l).length ≤ 4194304) := Lib.hid (by rw [spans_len]; omega)
  have HT := Lib.hid hl
  have HY := Lib.hid h
  obtain ⟨a, cap, rfl, ha⟩ := shape h
  have HA := Lib.hid ha
  unfold SpansEnd at HS
  clear h hl ha
  unfold BoolEnd
  by_cases h1 : 0 ≤ n ∧ n ≤ 600
  case neg =>
    have HE := Lib.hid (arep_n (l := l) h1)
    rcases (show n < 0 ∨ (¬ n < 0 ∧ 600 < n) by omega) with g | ⟨g, g2⟩
    all_goals
      clear h1
      go_enter Tryz.func26, Tryz.ntmps26
      go_wp2
      go_ret
      exact ⟨ret_b HE.out.symm, Below.refl _ _⟩
  have H1 := Lib.hid h1
  have n0 : ¬ n < 0 := by omega
  have n6 : ¬ 600 < n := by omega
  clear h1
  by_cases h8 : 8 < (l.length : Int)
  · have HE := Lib.hid (arep_len (l := l) (n := n) (by omega))
    go_enter Tryz.func26, Tryz.ntmps26
    go_wp2
    go_ret
    exact ⟨ret_b HE.out.symm, Below.refl _ _⟩
  cases hset : Spn.isSet (spans l) with
  | false =>
    have HE := Lib.hid (arep_set (n := n) hset)
    have HQ := Lib.hid hset
    clear hset
    go_enter Tryz.func26, Tryz.ntmps26
    go_wp2_with (fail)
    go_at_call 56
    refine HS.out.mono ?_
    rintro e w1 ⟨u, rfl, ho, hb1⟩
    have HB1 := Lib.hid hb1
    have HH := Lib.hid (Spn.own_holds ho)
    clear ho hb1
    go_wp2_with (fail)
    go_at_call 55
    refine (Spn.impl_set u _ _ _ HH.out (Nat.le_refl _) HL.out).mono ?_
    rintro e w3 ⟨he, hb3⟩
    rw [HQ.out] at he
    subst he
    have HB3 := Lib.hid (Base.then_below HB1.out hb3)
    clear hb3
    go_wp2
    go_ret
    exact ⟨ret_b HE.out.symm, HB3.out⟩
  | true =>
    have HQ := Lib.hid hset
    have HE := Lib.hid (arep_end H1.out (by omega) hset h0)
    obtain ⟨b, off, rfl, hbl, hc⟩ := HA.out (by omega)
    have HC := Lib.hid hc
    have HBL : Hid (b < w.heap.size) := Lib.hid (Nat.lt_of_lt_of_le hbl hB)
    have HLE : Hid ((l.getD (l.length - 1) nov).2.length ≤ 1048576) := Lib.hid (Nat.le_trans (mem_total (Rec.getD_mem (by omega))) HT.out)
    have HLA : Hid (lastEnd l = ends (l.getD (l.length - 1) nov).1 (l.getD (l.length - 1) nov).2) := Lib.hid rfl
    have hi0 : ((l.length : Int) == 0) = false := by rw [beq_eq_false_iff_ne]; omega
    clear hset hc
    go_enter Tryz.func26, Tryz.ntmps26
    go_wp2_with (fail)
    go_at_call 56
    refine HS.out.mono ?_
    rintro e w1 ⟨u, rfl, ho, hb1⟩
    have HB1 := Lib.hid hb1
    have HH := Lib.hid (Spn.own_holds ho)
    clear ho hb1
    go_wp2_with (fail)
    go_at_call 55
    refine (Spn.impl_set u _ _ _ HH.out (Nat.le_refl _) HL.out).mono ?_
    rintro e w3 ⟨he, hb3⟩
    rw [HQ.out] at he
    subst he
    have HB3 := Lib.hid (Base.then_below HB1.out hb3)
    clear hb3
    obtain ⟨c0, c1⟩ := at_cells (at_below HC.out HB3.out HBL.out) (j := l.length - 1) (by omega)
    generalize l.getD (l.length - 1) nov = f at c0 c1 HLA HLE
    obtain ⟨x, y⟩ := f
    dsimp only at c0 c1 HLE
    have HSP := Lib.hid (fun W => span_of x y W HLE.out)
    have HEE : Hid (arep l n = decide (ends x y ≤ n)) := Lib.hid (by rw [HE.out, HLA.out])
    generalize ends x y = z at HSP HEE
    have hfd : ∀ (x z : Int) (w : World), (Instr.field 76 (.agg #[.int .i64 x, .int .i64 z]) 1).run Tryz.prog w = .ok (.int .i64 z) w := fun _ _ _ => rfl
    go_wp2_with (fail)
    go_at_call 57
    refine (HSP.out _).mono ?_
    rintro e w4 ⟨rfl, hb4⟩
    have HB4 := Lib.hid (Base.then_below HB3.out hb4)
    clear hb4
    go_wp2
    go_ret
    exact ⟨ret_b HEE.out.symm, HB4.out⟩

theorem spec_are (v : Value) (B : Nat) (l : List T) (n : Int) (w : World) (h : Holds w B v l) (hB : B ≤ w.heap.size) (hl : total l ≤ 1048576) :
    Calls Tryz.prog 18 #[v, .int .i64 n] w (BoolEnd (arep l n) w) := by
  by_cases h0 : l.length = 0
  · rcases h with ⟨rfl, a, cap, rfl⟩ | ⟨h1, _⟩
    · exact spec_are_nil a cap n w
    · omega
  · exact spec_are_some v B l n w h hB hl h0
theorem impl_are (v : Value) (B : Nat) (l : List T) (n : Int) (w : World) (h : Holds w B v l) (hB : B ≤ w.heap.size) (hl : total l ≤ 1048576) :
    Calls Tryz.prog 26 #[v, .int .i64 n] w (BoolEnd (arep l n) w) := by
  by_cases h0 : l.length = 0
  · rcases h with ⟨rfl, a, cap, rfl⟩ | ⟨h1, _⟩
    · exact impl_are_nil a cap n w
    · omega
  · exact impl_are_some v B l n w h hB hl h0
end Go.Proofs.YtjjelbijbbnmcaaGreatDoor.Pcs

/-
  PLAIN FACTS: a block of cells that the call has laid, read behind what only adds, behind a write into it, and behind a write elsewhere.
-/
namespace Go.Proofs.YtjjelbijbbnmcaaGreatDoor.Kept
open Go Go.RowKit
set_option linter.unusedVariables false
set_option maxRecDepth 1000000

/-- The block g holds these values, and may be written. -/
structure Box (W : World) (g : Nat) (xs : List Value) : Prop where
  cell : ∀ j u, xs[j]? = some u → W.cell? ⟨g, j, none⟩ = some u
  frz : ∀ j, W.frozen? ⟨g, j, none⟩ = false
  lt : g < W.heap.size
theorem Box.new {w : World} {T : TypeId} {a : Array Value} : Box (w.alloc (.cells a T)) w.heap.size a.toList :=
  ⟨fun j u h => by rw [World.cell?_alloc_new]; simpa using h, fun j => by simp [go_sem], by simp⟩
theorem Box.below {W W' : World} {g : Nat} {xs : List Value} (h : Box W g xs) (hb : Below W.heap.size W W') : Box W' g xs :=
  ⟨fun j u e => (hb.cell (p := ⟨g, j, none⟩) h.lt).trans (h.cell j u e), fun j => (hb.frozen (p := ⟨g, j, none⟩) h.lt).trans (h.frz j), Nat.lt_of_lt_of_le h.lt hb.size⟩
theorem Box.alloc {W : World} {g : Nat} {xs : List Value} (h : Box W g xs) (o : Obj) : Box (W.alloc o) g xs := h.below ((Below.refl _ _).alloc (Nat.le_refl _) _)
theorem Box.same {W : World} {g k : Nat} {xs : List Value} (h : Box W g xs) (hk : k < xs.length) (v : Value) : Box (W.setCell ⟨g, k, none⟩ v) g (xs.set k v) :=
  ⟨fun j u e => by
    by_cases hj : j = k
    · subst hj
      obtain ⟨u0, hu0⟩ : ∃ u0, xs[j]? = some u0 := ⟨xs[j], by simp [hk]⟩
      rw [World.cell?_setCell_same _ _ _ (h.cell j u0 hu0)]
      simpa [hk] using e
    · rw [World.cell?_setCell_other _ _ _ _ (fun e => hj (by cases e; rfl))]
      exact h.cell j u (by rw [List.getElem?_set_ne (fun e => hj e.symm)] at e; exact e), fun j => by rw [World.frozen?_setCell]; exact h.frz j, by rw [World.size_setCell]; exact h.lt⟩
theorem Box.other {W : World} {g g' k : Nat} {xs : List Value} (h : Box W g xs) (hne : g' ≠ g) (v : Value) : Box (W.setCell ⟨g', k, none⟩ v) g xs :=
  ⟨fun j u e => by rw [World.cell?_setCell_other _ _ _ _ (fun e => hne (by cases e; rfl))]; exact h.cell j u e, fun j => by rw [World.frozen?_setCell]; exact h.frz j, by rw [World.size_setCell]; exact h.lt⟩
end Go.Proofs.YtjjelbijbbnmcaaGreatDoor.Kept

/-
  CONTRACTS of the program's lastingFields and isHead and of the model's l23Still; what both sides mean by an entry. Nothing that was there before is changed.
-/
namespace Go.Proofs.YtjjelbijbbnmcaaGreatDoor.Ent
open Go Go.RowKit
set_option linter.unusedVariables false
set_option maxRecDepth 1000000

def xpN : List UInt8 := [120, 45, 112, 117, 114, 103, 101]
def crN : List UInt8 := [99, 111, 110, 116, 101, 110, 116, 45, 114, 97, 110, 103, 101]
def lastP (f : Flds.Fld) : Bool := f.1 != Age.ageN && (f.1 != xpN && f.1 != crN)
/-- The fields that are the same each time the answer is given. -/
def still (l : List Flds.Fld) : List Flds.Fld := l.filter lastP
theorem still_le (l : List Flds.Fld) : (still l).length ≤ l.length := List.length_filter_le _ _
theorem still_drop (l : List Flds.Fld) : Flds.keepn crN (Flds.keepn xpN (Flds.keepn Age.ageN l)) = still l := by
  unfold Flds.keepn still
  rw [List.filter_filter, List.filter_filter]
  congr 1; funext f
  unfold lastP
  cases f.1 != crN <;> cases f.1 != xpN <;> cases f.1 != Age.ageN <;> rfl
theorem still_len (l : List Flds.Fld) : decide ((l.length : Int) = ((still l).length : Int)) = decide (l = still l) := by
  apply decide_eq_decide.2
  constructor
  · intro h; exact ((List.filter_sublist (p := lastP) (l := l)).eq_of_length (by unfold still at h; omega)).symm
  · intro h; rw [← h]
noncomputable def headOk (c : Int) (l : List Flds.Fld) (b : List UInt8) : Bool := (decide (c = 200) || (decide (c = 404) || decide (c = 410))) && (Msg.rspOk c l b && (decide (b = []) && ((Age.din Age.dateN l).2 && decide (l = still l))))
noncomputable def entOk (k : List UInt8) (ls : List Flds.Fld) (c : Int) (l : List Flds.Fld) (b : List UInt8) (ps : List Pcs.T) (n i g q : Int) : Bool := headOk c l b && (Flds.fldsOk ls && (decide (k.length ≤ 160) && (Pcs.arep ps n && ((decide (c = 200) || Pcs.whole ps n) && (decide (0 ≤ i ∧ i ≤ 2147483648) && (decide (0 ≤ g ∧ g ≤ 4102444799) && decide (0 ≤ q ∧ q ≤ 1000000000000)))))))
def BoolEnd (b : Bool) (w : World) (e : Ending) (w' : World) : Prop := e = .returned (.bool b) ∧ Below w.heap.size w w'
theorem ret_b {a b : Bool} (h : a = b) : Ending.returned (.bool a) = .returned (.bool b) := by rw [h]

theorem last_keeps (w : World) : Flds.Keeps0 78 lastP w := by
  intro x y wx hb
  have HB := Lib.hid ((Below.refl wx.heap.size wx).alloc (Nat.le_refl _) (.cells #[.string ⟨x.toArray⟩, .string ⟨y.toArray⟩] 69))
  have HO : Hid (lastP (x, y) = (x != Age.ageN && (x != xpN && x != crN))) := Lib.hid rfl
  generalize lastP (x, y) = z at HO ⊢
  clear hb
  by_cases e1 : x = Age.ageN
  · have HE : Hid (z = false) := Lib.hid (by rw [HO.out, e1]; simp)
    subst e1
    unfold Age.ageN
    clear HO
    go_enter Tryz.func78, Tryz.ntmps78
    go_wp2
    go_ret
    exact ⟨ret_b HE.out.symm, HB.out⟩
  have q1 : (x == Age.ageN) = false := by simpa using e1
  by_cases e2 : x = xpN
  · have HE : Hid (z = false) := Lib.hid (by rw [HO.out, e2]; simp)
    subst e2
    unfold xpN
    clear HO q1 e1
    go_enter Tryz.func78, Tryz.ntmps78
    go_wp2
    go_ret
    exact ⟨ret_b HE.out.symm, HB.out⟩
  have q2 : (x == xpN) = false := by simpa using e2
  by_cases e3 : x = crN
  · have HE : Hid (z = false) := Lib.hid (by rw [HO.out, e3]; simp)
    subst e3
    unfold crN
    clear HO q1 q2 e1 e2
    go_enter Tryz.func78, Tryz.ntmps78
    go_wp2
    go_ret
    exact ⟨ret_b HE.out.symm, HB.out⟩
  have q3 : (x == crN) = false := by simpa using e3
  have HE : Hid (z = true) := Lib.hid (by rw [HO.out]; unfold bne; rw [q1, q2, q3]; rfl)
  unfold Age.ageN at q1
  unfold xpN at q2
  unfold crN at q3
  clear HO e1 e2 e3
  go_enter Tryz.func78, Tryz.ntmps78
  go_wp2
  go_ret
  exact ⟨ret_b HE.out.symm, HB.out⟩

theorem impl_last (v : Value) (B : Nat) (l : List Flds.Fld) (w : World) (h : Flds.Holds w B v l) (hl : l.length ≤ 1048576) :
    Calls Tryz.prog 50 #[v] w (Flds.FilterEnd (still l) w) := by
  have hmf : ∀ (fn : Fn) (first cap : Array Value) (w : World), (Instr.makeFunc fn first cap).run Tryz.prog w = .ok (.func fn first cap) w := fun _ _ _ _ => rfl
  have HF := Lib.hid (Flds.filter0_any 78 lastP v B l w (fun args w => rfl) (last_keeps w) h hl)
  clear h
  go_enter Tryz.func50, Tryz.ntmps50
  go_wp2_with (fail)
  go_at_call 77
  refine HF.out.mono ?_
  rintro e w3 ⟨v3, rfl, hown3, hb3⟩
  have HR := Lib.hid (And.intro hown3 hb3)
  clear hown3 hb3
  go_wp2
  go_ret
  exact ⟨_, rfl, HR.out.1, HR.out.2⟩

theorem keepn_total (n : List UInt8) (l : List Flds.Fld) : (Flds.keepn n l).length ≤ l.length := List.length_filter_le _ _
theorem spec_still (v : Value) (B : Nat) (l : List Flds.Fld) (w : World) (h : Flds.Holds w B v l) (hl : l.length ≤ 1048576) :
    Calls Tryz.prog 16 #[v] w (Flds.FilterEnd (still l) w) := by
  have HD := Lib.hid (fun v B n m W (h : Flds.Holds W B v m) (hm : m.length ≤ 1048576) => Flds.spec_drop v B m n W h hm)
  unfold Flds.FilterEnd at HD ⊢
  have H1 := Lib.hid (HD.out v B Age.ageN l w h hl)
  have HS := Lib.hid (still_drop l)
  have k1 := keepn_total Age.ageN l
  generalize Flds.keepn Age.ageN l = m1 at H1 HS k1
  have k2 := keepn_total xpN m1
  have H2 := Lib.hid (fun v B W (h : Flds.Holds W B v m1) => HD.out v B xpN m1 W h (by omega))
  generalize Flds.keepn xpN m1 = m2 at H2 HS k2
  have H3 := Lib.hid (fun v B W (h : Flds.Holds W B v m2) => HD.out v B crN m2 W h (by omega))
  rw [HS.out] at H3
  clear HS HD k1 k2 h
  generalize still l = m3 at H3 ⊢
  unfold Age.ageN at H1
  unfold xpN at H2
  unfold crN at H3
  go_enter Tryz.func16, Tryz.ntmps16
  go_wp2_with (fail)
  go_at_call 40
  refine H1.out.mono ?_
  rintro e w1 ⟨v1, rfl, o1, b1⟩
  have HB1 := Lib.hid b1
  have H2' := Lib.hid (H2.out v1 _ _ (Flds.own_holds o1))
  clear o1 b1
  go_wp2_with (fail)
  go_at_call 40
  refine H2'.out.mono ?_
  rintro e w2 ⟨v2, rfl, o2, b2⟩
  have HB2 := Lib.hid (Base.then_below HB1.out b2)
  have H3' := Lib.hid (H3.out v2 _ _ (Flds.own_holds o2))
  clear o2 b2
  go_wp2_with (fail)
  go_at_call 40
  refine H3'.out.mono ?_
  rintro e w3 ⟨v3, rfl, o3, b3⟩
  have HB3 := Lib.hid (Base.then_below HB2.out b3)
  have HO3 := Lib.hid (Rec.own_mono (B' := w.heap.size) o3 HB2.out.size)
  clear o3 b3
  go_wp2
  go_ret
  exact ⟨_, rfl, HO3.out, HB3.out⟩
end Go.Proofs.YtjjelbijbbnmcaaGreatDoor.Ent
