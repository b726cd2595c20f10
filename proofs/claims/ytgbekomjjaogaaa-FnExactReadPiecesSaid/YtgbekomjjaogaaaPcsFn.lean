/-
  CONTRACTS of IsWhole and ArePieces, the model's and the program's; nothing that was there before is changed.
-/
import Derived.Test.YtgbekomjjaogaaaPcsSp
import Derived.Test.YtgbekomjjaogaaaSpnCov
import Derived.Test.YtgbekomjjaogaaaSpnIsI
import Derived.Test.YtgbekomjjaogaaaNumIn
namespace Go.Proofs.Ytgbekomjjaogaaa.Pcs
open Go Go.RowKit
set_option linter.unusedVariables false

def BoolEnd (b : Bool) (w : World) (e : Ending) (w' : World) : Prop := e = .returned (.bool b) ∧ Below w.heap.size w w'
theorem ret_b {a b : Bool} (h : a = b) : Ending.returned (.bool a) = .returned (.bool b) := by rw [h]
def whole (l : List T) (n : Int) : Bool := Spn.covers (spans l) (0, n)

set_option maxHeartbeats 1000000 in
theorem spec_whole (v : Value) (B : Nat) (l : List T) (n : Int) (w : World) (h : Holds w B v l) (hB : B ≤ w.heap.size) (hl : total l ≤ 1048576) :
    Calls Try.prog 32 #[v, .int .i64 n] w (BoolEnd (whole l n) w) := by
  have hll : l.length ≤ 1048576 := Nat.le_trans (len_le_total l) hl
  have HS := Lib.hid (spec_spans v B l w h hB hl)
  have HL : Hid ((spans l).length ≤ 4194304) := Lib.hid (by rw [spans_len]; omega)
  unfold SpansEnd at HS
  unfold whole BoolEnd
  generalize spans l = m at HS HL ⊢
  clear h
  go_enter Try.func32, Try.ntmps32
  go_wp2_with (fail)
  go_at_call 23
  refine HS.out.mono ?_
  rintro e w1 ⟨u, rfl, ho, hb1⟩
  have HH := Lib.hid (Spn.own_holds ho)
  have HB1 := Lib.hid hb1
  clear ho hb1
  go_wp2_with (fail)
  go_at_call 45
  refine (Spn.spec_cov u _ m 0 n _ HH.out (Nat.le_refl _) HL.out).mono ?_
  rintro e w2 ⟨rfl, hb2⟩
  have HB2 := Lib.hid (Base.then_below HB1.out hb2)
  clear hb2
  go_wp2
  go_ret
  exact ⟨rfl, HB2.out⟩
set_option maxHeartbeats 1000000 in
theorem impl_whole (v : Value) (B : Nat) (l : List T) (n : Int) (w : World) (h : Holds w B v l) (hB : B ≤ w.heap.size) (hl : total l ≤ 1048576) :
    Calls Try.prog 33 #[v, .int .i64 n] w (BoolEnd (whole l n) w) := by
  have hll : l.length ≤ 1048576 := Nat.le_trans (len_le_total l) hl
  have HS := Lib.hid (impl_spans v B l w h hB hl)
  have HL : Hid ((spans l).length ≤ 4194304) := Lib.hid (by rw [spans_len]; omega)
  unfold SpansEnd at HS
  unfold whole BoolEnd
  generalize spans l = m at HS HL ⊢
  clear h
  go_enter Try.func33, Try.ntmps33
  go_wp2_with (fail)
  go_at_call 25
  refine HS.out.mono ?_
  rintro e w1 ⟨u, rfl, ho, hb1⟩
  have HH := Lib.hid (Spn.own_holds ho)
  have HB1 := Lib.hid hb1
  clear ho hb1
  go_wp2_with (fail)
  go_at_call 44
  refine (Spn.impl_cov u _ m 0 n _ HH.out (Nat.le_refl _) HL.out).mono ?_
  rintro e w2 ⟨rfl, hb2⟩
  have HB2 := Lib.hid (Base.then_below HB1.out hb2)
  clear hb2
  go_wp2
  go_ret
  exact ⟨rfl, HB2.out⟩

/-- Where the last piece ends. -/
def lastEnd (l : List T) : Int := ends (l.getD (l.length - 1) nov).1 (l.getD (l.length - 1) nov).2
def arep (l : List T) (n : Int) : Bool := decide (0 ≤ n ∧ n ≤ 600) && (decide (l.length ≤ 8) && (Spn.isSet (spans l) && (decide (l.length = 0) || decide (lastEnd l ≤ n))))
theorem arep_n {l : List T} {n : Int} (h : ¬ (0 ≤ n ∧ n ≤ 600)) : arep l n = false := by unfold arep; rw [decide_eq_false h, Bool.false_and]
theorem arep_len {l : List T} {n : Int} (h : ¬ l.length ≤ 8) : arep l n = false := by unfold arep; rw [decide_eq_false h, Bool.false_and, Bool.and_false]
theorem arep_set {l : List T} {n : Int} (h : Spn.isSet (spans l) = false) : arep l n = false := by unfold arep; rw [h, Bool.false_and, Bool.and_false, Bool.and_false]
theorem arep_nil {l : List T} {n : Int} (h1 : 0 ≤ n ∧ n ≤ 600) (h2 : Spn.isSet (spans l) = true) (h3 : l.length = 0) : arep l n = true := by unfold arep; rw [decide_eq_true h1, h2]; simp [h3]
theorem arep_end {l : List T} {n : Int} (h1 : 0 ≤ n ∧ n ≤ 600) (h4 : l.length ≤ 8) (h2 : Spn.isSet (spans l) = true) (h3 : l.length ≠ 0) : arep l n = decide (lastEnd l ≤ n) := by unfold arep; rw [decide_eq_true h1, h2]; simp [h3, h4]
theorem spans_last {l : List T} (h : l.length ≠ 0) : (spans l).getD (l.length - 1) Spn.nov = ((l.getD (l.length - 1) nov).1, lastEnd l) := by
  have hlt : l.length - 1 < l.length := by omega
  unfold spans lastEnd
  simp [List.getD, hlt, spn]

set_option maxRecDepth 100000 in
set_option maxHeartbeats 2000000 in
theorem spec_are_nil (a : Option Addr) (cap : Nat) (n : Int) (w : World) :
    Calls Try.prog 28 #[.slice a 0 cap, .int .i64 n] w (BoolEnd (arep [] n) w) := by
  have HS := Lib.hid (spec_spans (.slice a 0 cap) 0 [] w (Or.inl ⟨rfl, _, _, rfl⟩) (Nat.zero_le _) (by rw [show total [] = 0 from rfl]; omega))
  unfold SpansEnd at HS
  unfold BoolEnd
  by_cases h1 : 0 ≤ n ∧ n ≤ 600
  case neg =>
    have HE := Lib.hid (arep_n (l := []) h1)
    have HN := Lib.hid (show n < 0 ∨ 600 < n by omega)
    clear h1
    go_enter Try.func28, Try.ntmps28
    go_wp2_with (fail)
    go_at_call 23
    refine HS.out.mono ?_
    rintro e w1 ⟨u, rfl, ho, hb1⟩
    have HB1 := Lib.hid hb1
    clear ho hb1
    go_wp2_with (fail)
    go_at_call 59
    refine (NumDiv.in_no _ _ _ _ HN.out).mono ?_
    rintro e w2 ⟨rfl, rfl⟩
    go_wp2
    go_ret
    exact ⟨ret_b HE.out.symm, HB1.out⟩
  have HE := Lib.hid (arep_nil (l := []) h1 rfl rfl)
  obtain ⟨n0, n6⟩ := h1
  go_enter Try.func28, Try.ntmps28
  go_wp2_with (fail)
  go_at_call 23
  refine HS.out.mono ?_
  rintro e w1 ⟨u, rfl, ho, hb1⟩
  have HB1 := Lib.hid hb1
  have HH : Hid (Spn.Holds w1 w1.heap.size u []) := Lib.hid (Spn.own_holds ho)
  clear ho hb1
  go_wp2_with (fail)
  go_at_call 59
  refine (NumDiv.in_yes _ _ _ _ n0 n6).mono ?_
  rintro e w2 ⟨rfl, rfl⟩
  go_wp2_with (fail)
  go_at_call 43
  refine (Spn.spec_set u _ _ _ HH.out (Nat.le_refl _) (by decide)).mono ?_
  rintro e w3 ⟨rfl, hb3⟩
  have HB3 := Lib.hid (Base.then_below HB1.out hb3)
  clear hb3
  obtain ⟨a3, c3, hu, _⟩ := Spn.shape HH.out
  rw [List.length_nil] at hu
  subst hu
  rw [show Spn.isSet [] = true from rfl]
  go_wp2
  go_ret
  exact ⟨ret_b HE.out.symm, HB3.out⟩
theorem impl_are_nil (a : Option Addr) (cap : Nat) (n : Int) (w : World) :
    Calls Try.prog 29 #[.slice a 0 cap, .int .i64 n] w (BoolEnd (arep [] n) w) := by
  have HS := Lib.hid (impl_spans (.slice a 0 cap) 0 [] w (Or.inl ⟨rfl, _, _, rfl⟩) (Nat.zero_le _) (by rw [show total [] = 0 from rfl]; omega))
  unfold SpansEnd at HS
  unfold BoolEnd
  by_cases h1 : 0 ≤ n ∧ n ≤ 600
  case neg =>
    have HE := Lib.hid (arep_n (l := []) h1)
    rcases (show n < 0 ∨ (¬ n < 0 ∧ 600 < n) by omega) with g | ⟨g, g2⟩
    all_goals
      clear h1
      go_enter Try.func29, Try.ntmps29
      go_wp2
      go_ret
      exact ⟨ret_b HE.out.symm, Below.refl _ _⟩
  have HE := Lib.hid (arep_nil (l := []) h1 rfl rfl)
  have n0 : ¬ n < 0 := by omega
  have n6 : ¬ 600 < n := by omega
  clear h1
  go_enter Try.func29, Try.ntmps29
  go_wp2_with (fail)
  go_at_call 25
  refine HS.out.mono ?_
  rintro e w1 ⟨u, rfl, ho, hb1⟩
  have HB1 := Lib.hid hb1
  have HH : Hid (Spn.Holds w1 w1.heap.size u []) := Lib.hid (Spn.own_holds ho)
  clear ho hb1
  go_wp2_with (fail)
  go_at_call 47
  refine (Spn.impl_set u _ _ _ HH.out (Nat.le_refl _) (by decide)).mono ?_
  rintro e w3 ⟨rfl, hb3⟩
  have HB3 := Lib.hid (Base.then_below HB1.out hb3)
  clear hb3
  rw [show Spn.isSet [] = true from rfl]
  go_wp2
  go_ret
  exact ⟨ret_b HE.out.symm, HB3.out⟩

set_option maxRecDepth 100000 in
set_option maxHeartbeats 2000000 in
theorem spec_are_some (v : Value) (B : Nat) (l : List T) (n : Int) (w : World) (h : Holds w B v l) (hB : B ≤ w.heap.size) (hl : total l ≤ 1048576) (h0 : l.length ≠ 0) :
    Calls Try.prog 28 #[v, .int .i64 n] w (BoolEnd (arep l n) w) := by
  have hll : l.length ≤ 1048576 := Nat.le_trans (len_le_total l) hl
  have HS := Lib.hid (spec_spans v B l w h hB hl)
  have HL : Hid ((spans l).length ≤ 4194304) := Lib.hid (by rw [spans_len]; omega)
  have HLN := Lib.hid (spans_len l)
  have HLA := Lib.hid (fun (h : l.length ≠ 0) => spans_last h)
  obtain ⟨a, cap, rfl, _⟩ := shape h
  unfold SpansEnd at HS
  clear h hl
  unfold BoolEnd
  by_cases h1 : 0 ≤ n ∧ n ≤ 600
  case neg =>
    have HE := Lib.hid (arep_n (l := l) h1)
    have HN := Lib.hid (show n < 0 ∨ 600 < n by omega)
    clear h1
    go_enter Try.func28, Try.ntmps28
    go_wp2_with (fail)
    go_at_call 23
    refine HS.out.mono ?_
    rintro e w1 ⟨u, rfl, ho, hb1⟩
    have HB1 := Lib.hid hb1
    clear ho hb1
    go_wp2_with (fail)
    go_at_call 59
    refine (NumDiv.in_no _ _ _ _ HN.out).mono ?_
    rintro e w2 ⟨rfl, rfl⟩
    go_wp2
    go_ret
    exact ⟨ret_b HE.out.symm, HB1.out⟩
  have H1 := Lib.hid h1
  obtain ⟨n0, n6⟩ := h1
  by_cases h8 : (l.length : Int) ≤ 8
  case neg =>
    have HE := Lib.hid (arep_len (l := l) (n := n) (by omega))
    go_enter Try.func28, Try.ntmps28
    go_wp2_with (fail)
    go_at_call 23
    refine HS.out.mono ?_
    rintro e w1 ⟨u, rfl, ho, hb1⟩
    have HB1 := Lib.hid hb1
    clear ho hb1
    go_wp2_with (fail)
    go_at_call 59
    refine (NumDiv.in_yes _ _ _ _ n0 n6).mono ?_
    rintro e w2 ⟨rfl, rfl⟩
    go_wp2
    go_ret
    exact ⟨ret_b HE.out.symm, HB1.out⟩
  cases hset : Spn.isSet (spans l) with
  | false =>
    have HE := Lib.hid (arep_set (n := n) hset)
    have HQ := Lib.hid hset
    clear hset
    go_enter Try.func28, Try.ntmps28
    go_wp2_with (fail)
    go_at_call 23
    refine HS.out.mono ?_
    rintro e w1 ⟨u, rfl, ho, hb1⟩
    have HB1 := Lib.hid hb1
    have HH := Lib.hid (Spn.own_holds ho)
    clear ho hb1
    go_wp2_with (fail)
    go_at_call 59
    refine (NumDiv.in_yes _ _ _ _ n0 n6).mono ?_
    rintro e w2 ⟨rfl, rfl⟩
    go_wp2_with (fail)
    go_at_call 43
    refine (Spn.spec_set u _ _ _ HH.out (Nat.le_refl _) HL.out).mono ?_
    rintro e w3 ⟨he, hb3⟩
    rw [HQ.out] at he
    subst he
    have HB3 := Lib.hid (Base.then_below HB1.out hb3)
    clear hb3
    go_wp2
    go_ret
    exact ⟨ret_b HE.out.symm, HB3.out⟩
  | true =>
    have HQ := Lib.hid hset
    have HE := Lib.hid (arep_end H1.out (by omega) hset h0)
    have HZ := Lib.hid (HLA.out h0)
    have hpos : 0 < (l.length : Int) := by omega
    clear hset
    go_enter Try.func28, Try.ntmps28
    go_wp2_with (fail)
    go_at_call 23
    refine HS.out.mono ?_
    rintro e w1 ⟨u, rfl, ho, hb1⟩
    have HB1 := Lib.hid hb1
    have HH := Lib.hid (Spn.own_holds ho)
    clear ho hb1
    go_wp2_with (fail)
    go_at_call 59
    refine (NumDiv.in_yes _ _ _ _ n0 n6).mono ?_
    rintro e w2 ⟨rfl, rfl⟩
    go_wp2_with (fail)
    go_at_call 43
    refine (Spn.spec_set u _ _ _ HH.out (Nat.le_refl _) HL.out).mono ?_
    rintro e w3 ⟨he, hb3⟩
    rw [HQ.out] at he
    subst he
    have HB3 := Lib.hid (Base.then_below HB1.out hb3)
    have HH3 := Lib.hid (Spn.holds_below HH.out hb3)
    clear hb3
    obtain ⟨a3, c3, hu, hat⟩ := Spn.shape HH3.out
    rw [HLN.out] at hu hat
    subst hu
    obtain ⟨b, off, rfl, _, hcap, hc⟩ := hat (by omega)
    have hcc := (Spn.at_cells hc (j := l.length - 1) (by rw [HLN.out]; omega)).2
    rw [HZ.out] at hcc
    dsimp only at hcc
    generalize lastEnd l = z at hcc HE
    clear hc hat
    have HF : Hid (((l.length : Int) == 0) = false) := Lib.hid (by rw [beq_eq_false_iff_ne]; omega)
    go_wp2
    go_ret
    exact ⟨ret_b (by rw [HE.out, HF.out, Bool.false_or]), HB3.out⟩

set_option maxRecDepth 100000 in
set_option maxHeartbeats 2000000 in
theorem impl_are_some (v : Value) (B : Nat) (l : List T) (n : Int) (w : World) (h : Holds w B v l) (hB : B ≤ w.heap.size) (hl : total l ≤ 1048576) (h0 : l.length ≠ 0) :
    Calls Try.prog 29 #[v, .int .i64 n] w (BoolEnd (arep l n) w) := by
  have hll : l.length ≤ 1048576 := Nat.le_trans (len_le_total l) hl
  have HS := Lib.hid (impl_spans v B l w h hB hl)
  have HL : Hid ((spans l).length ≤ 4194304) := Lib.hid (by rw [spans_len]; omega)
  have HT := Lib.hid hl
  have HY := Lib.hid h
  obtain ⟨a, cap, rfl, ha⟩ := shape h
  have HA := Lib.hid ha
  unfold SpansEnd at HS
  clear h hl ha
  unfold BoolEnd
  by_cases h1 : 0 ≤ n ∧ n ≤ 600
  case neg =>
    have HE := Lib.hid (arep_n (l := l) h1)
    rcases (show n < 0 ∨ (¬ n < 0 ∧ 600 < n) by omega) with g | ⟨g, g2⟩
    all_goals
      clear h1
      go_enter Try.func29, Try.ntmps29
      go_wp2
      go_ret
      exact ⟨ret_b HE.out.symm, Below.refl _ _⟩
  have H1 := Lib.hid h1
  have n0 : ¬ n < 0 := by omega
  have n6 : ¬ 600 < n := by omega
  clear h1
  by_cases h8 : 8 < (l.length : Int)
  · have HE := Lib.hid (arep_len (l := l) (n := n) (by omega))
    go_enter Try.func29, Try.ntmps29
    go_wp2
    go_ret
    exact ⟨ret_b HE.out.symm, Below.refl _ _⟩
  cases hset : Spn.isSet (spans l) with
  | false =>
    have HE := Lib.hid (arep_set (n := n) hset)
    have HQ := Lib.hid hset
    clear hset
    go_enter Try.func29, Try.ntmps29
    go_wp2_with (fail)
    go_at_call 25
    refine HS.out.mono ?_
    rintro e w1 ⟨u, rfl, ho, hb1⟩
    have HB1 := Lib.hid hb1
    have HH := Lib.hid (Spn.own_holds ho)
    clear ho hb1
    go_wp2_with (fail)
    go_at_call 47
    refine (Spn.impl_set u _ _ _ HH.out (Nat.le_refl _) HL.out).mono ?_
    rintro e w3 ⟨he, hb3⟩
    rw [HQ.out] at he
    subst he
    have HB3 := Lib.hid (Base.then_below HB1.out hb3)
    clear hb3
    go_wp2
    go_ret
    exact ⟨ret_b HE.out.symm, HB3.out⟩
  | true =>
    have HQ := Lib.hid hset
    have HE := Lib.hid (arep_end H1.out (by omega) hset h0)
    obtain ⟨b, off, rfl, hbl, hc⟩ := HA.out (by omega)
    have HC := Lib.hid hc
    have HBL : Hid (b < w.heap.size) := Lib.hid (Nat.lt_of_lt_of_le hbl hB)
    have HLE : Hid ((l.getD (l.length - 1) nov).2.length ≤ 1048576) := Lib.hid (Nat.le_trans (mem_total (Rec.getD_mem (by omega))) HT.out)
    have HLA : Hid (lastEnd l = ends (l.getD (l.length - 1) nov).1 (l.getD (l.length - 1) nov).2) := Lib.hid rfl
    have hi0 : ((l.length : Int) == 0) = false := by rw [beq_eq_false_iff_ne]; omega
    clear hset hc
    go_enter Try.func29, Try.ntmps29
    go_wp2_with (fail)
    go_at_call 25
    refine HS.out.mono ?_
    rintro e w1 ⟨u, rfl, ho, hb1⟩
    have HB1 := Lib.hid hb1
    have HH := Lib.hid (Spn.own_holds ho)
    clear ho hb1
    go_wp2_with (fail)
    go_at_call 47
    refine (Spn.impl_set u _ _ _ HH.out (Nat.le_refl _) HL.out).mono ?_
    rintro e w3 ⟨he, hb3⟩
    rw [HQ.out] at he
    subst he
    have HB3 := Lib.hid (Base.then_below HB1.out hb3)
    clear hb3
    obtain ⟨c0, c1⟩ := at_cells (at_below HC.out HB3.out HBL.out) (j := l.length - 1) (by omega)
    generalize l.getD (l.length - 1) nov = f at c0 c1 HLA HLE
    obtain ⟨x, y⟩ := f
    dsimp only at c0 c1 HLE
    have HSP := Lib.hid (fun W => span_of x y W HLE.out)
    have HEE : Hid (arep l n = decide (ends x y ≤ n)) := Lib.hid (by rw [HE.out, HLA.out])
    generalize ends x y = z at HSP HEE
    have hfd : ∀ (x z : Int) (w : World), (Instr.field 29 (.agg #[.int .i64 x, .int .i64 z]) 1).run Try.prog w = .ok (.int .i64 z) w := fun _ _ _ => rfl
    go_wp2_with (fail)
    go_at_call 56
    refine (HSP.out _).mono ?_
    rintro e w4 ⟨rfl, hb4⟩
    have HB4 := Lib.hid (Base.then_below HB3.out hb4)
    clear hb4
    go_wp2
    go_ret
    exact ⟨ret_b HEE.out.symm, HB4.out⟩

theorem spec_are (v : Value) (B : Nat) (l : List T) (n : Int) (w : World) (h : Holds w B v l) (hB : B ≤ w.heap.size) (hl : total l ≤ 1048576) :
    Calls Try.prog 28 #[v, .int .i64 n] w (BoolEnd (arep l n) w) := by
  by_cases h0 : l.length = 0
  · rcases h with ⟨rfl, a, cap, rfl⟩ | ⟨h1, _⟩
    · exact spec_are_nil a cap n w
    · omega
  · exact spec_are_some v B l n w h hB hl h0
theorem impl_are (v : Value) (B : Nat) (l : List T) (n : Int) (w : World) (h : Holds w B v l) (hB : B ≤ w.heap.size) (hl : total l ≤ 1048576) :
    Calls Try.prog 29 #[v, .int .i64 n] w (BoolEnd (arep l n) w) := by
  by_cases h0 : l.length = 0
  · rcases h with ⟨rfl, a, cap, rfl⟩ | ⟨h1, _⟩
    · exact impl_are_nil a cap n w
    · omega
  · exact impl_are_some v B l n w h hB hl h0
end Go.Proofs.Ytgbekomjjaogaaa.Pcs
