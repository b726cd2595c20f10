/-
  CONTRACTS of both sides' IsPolicy, and of the program's isPrefix and isRule; nothing that was there before is changed.
-/
import Derived.Test.YtfgpphbfampjjaaTarg
import Derived.Test.YtfgpphbfampjjaaRul
import Derived.Test.YtfgpphbfampjjaaNumIn
namespace Go.Proofs.Ytfgpphbfampjjaa.Rul
open Go Go.RowKit
set_option linter.unusedVariables false

def pfx (p : List UInt8) : Bool := decide (p.length ≤ 60) && Msg.targOk p
/-- A rule whose parts are as they should be. -/
def rok (f : T) : Bool := (decide (f.1 = 2) && (pfx f.2.1 && decide (0 ≤ f.2.2 ∧ f.2.2 ≤ 2147483648))) || ((decide (f.1 = 1) || decide (f.1 = 3)) && (pfx f.2.1 && decide (f.2.2 = 0)))
def polOk (l : List T) : Bool := l.all rok && decide (l.length ≤ 8)
def BoolEnd (b : Bool) (w : World) (e : Ending) (w' : World) : Prop := e = .returned (.bool b) ∧ Below w.heap.size w w'
theorem ret_b {a b : Bool} (h : a = b) : Ending.returned (.bool a) = .returned (.bool b) := by rw [h]
theorem within_yes (n l : Int) (w : World) (h : 0 ≤ n) (h2 : n ≤ l) : Calls Try.prog 52 #[.int .i64 n, .int .i64 l] w fun e w' => e = .returned (.bool true) ∧ w = w' := by
  go_enter Try.func52, Try.ntmps52
  go_wp2
  go_ret
  exact ⟨rfl, rfl⟩
theorem within_no (n l : Int) (w : World) (h : n < 0 ∨ l < n) : Calls Try.prog 52 #[.int .i64 n, .int .i64 l] w fun e w' => e = .returned (.bool false) ∧ w = w' := by
  by_cases h0 : 0 ≤ n
  · have h1 : ¬ n ≤ l := by omega
    clear h
    go_enter Try.func52, Try.ntmps52
    go_wp2
    go_ret
    exact ⟨rfl, rfl⟩
  · clear h
    go_enter Try.func52, Try.ntmps52
    go_wp2
    go_ret
    exact ⟨rfl, rfl⟩

theorem impl_pfx (p : List UInt8) (w : World) (hp : p.length ≤ 1048576) : Calls Try.prog 92 #[.string ⟨p.toArray⟩] w (BoolEnd (pfx p) w) := by
  have HT := Lib.hid (Targ.impl_targ p w hp)
  have HO : Hid (pfx p = (decide (p.length ≤ 60) && Msg.targOk p)) := Lib.hid rfl
  unfold Targ.BoolEnd at HT
  unfold BoolEnd
  by_cases h : (p.length : Int) ≤ 60
  · have HE : Hid (pfx p = Msg.targOk p) := Lib.hid (by rw [HO.out, decide_eq_true (by omega), Bool.true_and])
    clear HO
    go_enter Try.func92, Try.ntmps92
    go_wp2_with (fail)
    go_at_call 97
    refine HT.out.mono ?_
    rintro e w1 ⟨rfl, hb1⟩
    have HB := Lib.hid hb1
    clear hb1
    go_wp2
    go_ret
    exact ⟨ret_b HE.out.symm, HB.out⟩
  · have HE : Hid (pfx p = false) := Lib.hid (by rw [HO.out, decide_eq_false (by omega), Bool.false_and])
    clear HO
    go_enter Try.func92, Try.ntmps92
    go_wp2
    go_ret
    exact ⟨ret_b HE.out.symm, Below.refl _ _⟩

set_option maxHeartbeats 2000000 in
theorem impl_rule (a : Int) (p : List UInt8) (n : Int) (w : World) (hp : p.length ≤ 1048576) : Calls Try.prog 76 #[.agg #[.int .i64 a, .string ⟨p.toArray⟩, .int .i64 n]] w (BoolEnd (rok (a, p, n)) w) := by
  have HB0 : Hid (Below w.heap.size w (w.alloc (.cells #[.int .i64 a, .string ⟨p.toArray⟩, .int .i64 n] 104))) := Lib.hid ((Below.refl _ _).alloc (Nat.le_refl _) _)
  have HK : Hid (∀ W, Below (w.alloc (.cells #[.int .i64 a, .string ⟨p.toArray⟩, .int .i64 n] 104)).heap.size (w.alloc (.cells #[.int .i64 a, .string ⟨p.toArray⟩, .int .i64 n] 104)) W → W.cell? ⟨w.heap.size, 2, none⟩ = some (.int .i64 n) ∧ Below w.heap.size w W) := Lib.hid (fun W hb => ⟨by rw [hb.cell (p := ⟨w.heap.size, 2, none⟩) (by simp), World.cell?_alloc_new]; rfl, HB0.out.trans (hb.mono HB0.out.size)⟩)
  have HP := Lib.hid (fun W => impl_pfx p W hp)
  have HO : Hid (rok (a, p, n) = ((decide (a = 2) && (pfx p && decide (0 ≤ n ∧ n ≤ 2147483648))) || ((decide (a = 1) || decide (a = 3)) && (pfx p && decide (n = 0))))) := Lib.hid rfl
  unfold BoolEnd at HP ⊢
  generalize rok (a, p, n) = z at HO ⊢
  generalize pfx p = b at HP HO
  by_cases ha : a = 2 ∨ a = 1 ∨ a = 3
  case neg =>
    have q1 : (a == 1) = false := by simp; omega
    have q2 : (a == 2) = false := by simp; omega
    have q3 : (a == 3) = false := by simp; omega
    have HE : Hid (z = false) := Lib.hid (by rw [HO.out, decide_eq_false (show ¬ a = 2 by omega), decide_eq_false (show ¬ a = 1 by omega), decide_eq_false (show ¬ a = 3 by omega)]; simp)
    clear ha HO
    go_enter Try.func76, Try.ntmps76
    go_wp2
    go_ret
    exact ⟨ret_b HE.out.symm, HB0.out⟩
  rcases ha with rfl | ha
  · go_enter Try.func76, Try.ntmps76
    go_wp2_with (fail)
    go_at_call 92
    refine (HP.out _).mono ?_
    rintro e w1 ⟨rfl, hb1⟩
    obtain ⟨x2, hbw⟩ := HK.out _ hb1
    have HB1 := Lib.hid hbw
    clear hb1 hbw
    cases b with
    | false =>
      go_wp2
      go_ret
      exact ⟨ret_b (by rw [HO.out]; simp), HB1.out⟩
    | true =>
      by_cases hn : 0 ≤ n ∧ n ≤ 2147483648
      · have HN := Lib.hid hn
        have HE : Hid (z = true) := Lib.hid (by rw [HO.out]; simp [hn])
        clear hn
        go_wp2_with (fail)
        go_at_call 52
        refine (within_yes _ _ _ HN.out.1 HN.out.2).mono ?_
        rintro e w2 ⟨rfl, rfl⟩
        go_wp2
        go_ret
        exact ⟨ret_b HE.out.symm, HB1.out⟩
      · have HN : Hid (n < 0 ∨ 2147483648 < n) := Lib.hid (by omega)
        have HE : Hid (z = false) := Lib.hid (by rw [HO.out, decide_eq_false hn]; simp)
        clear hn
        go_wp2_with (fail)
        go_at_call 52
        refine (within_no _ _ _ HN.out).mono ?_
        rintro e w2 ⟨rfl, rfl⟩
        go_wp2
        go_ret
        exact ⟨ret_b HE.out.symm, HB1.out⟩
  · have HE : Hid (z = (b && decide (n = 0))) := Lib.hid (by rw [HO.out]; rcases ha with rfl | rfl <;> simp)
    clear HO
    rcases ha with rfl | rfl
    all_goals (
      go_enter Try.func76, Try.ntmps76
      go_wp2_with (fail)
      go_at_call 92
      refine (HP.out _).mono ?_
      rintro e w1 ⟨rfl, hb1⟩
      obtain ⟨x2, hbw⟩ := HK.out _ hb1
      have HB1 := Lib.hid hbw
      clear hb1 hbw
      cases b with
      | false =>
        go_wp2
        go_ret
        exact ⟨ret_b (by rw [HE.out]; simp), HB1.out⟩
      | true =>
        by_cases hn : n = 0
        · subst hn
          go_wp2
          go_ret
          exact ⟨ret_b (by rw [HE.out]; rfl), HB1.out⟩
        · have hq : (n == 0) = false := by simpa using hn
          have HF : Hid (z = false) := Lib.hid (by rw [HE.out, decide_eq_false hn]; rfl)
          clear hn
          go_wp2
          go_ret
          exact ⟨ret_b HF.out.symm, HB1.out⟩)

theorem all_more {l : List T} {k : Nat} (h : k < l.length) (h1 : (l.take k).all rok = true) (h2 : rok (l.getD k nov) = true) : (l.take (k + 1)).all rok = true := by
  have e : l.getD k nov = l[k]'h := by simp [List.getD, h]
  rw [List.take_succ_eq_append_getElem h, List.all_append, h1, ← e]; simpa using h2
theorem pol_bad {l : List T} {k : Nat} (h : k < l.length) (h2 : rok (l.getD k nov) = false) : polOk l = false := by
  have : l.all rok = false := by
    rw [List.all_eq_false]; refine ⟨l.getD k nov, Rec.getD_mem h, by rw [h2]; simp⟩
  unfold polOk; rw [this]; rfl
theorem pol_end {l : List T} {k : Nat} (h : ¬ k < l.length) (h1 : (l.take k).all rok = true) : polOk l = decide ((l.length : Int) ≤ 8) := by
  rw [List.take_of_length_le (by omega)] at h1
  unfold polOk; rw [h1, Bool.true_and]; simp; omega
theorem shape_r {w : World} {B : Nat} {v : Value} {l : List T} (h : Holds w B v l) : ∃ a cap, v = .slice a l.length cap ∧ (0 < l.length → ∃ b off, a = some ⟨b, off, none⟩ ∧ b < B ∧ l.length ≤ cap ∧ At w b off l) := by
  rcases h with ⟨rfl, a, cap, rfl⟩ | ⟨h0, b, off, cap, rfl, hb, hcap, hc⟩
  · exact ⟨a, cap, rfl, fun h => by simp at h⟩
  · exact ⟨_, cap, rfl, fun _ => ⟨b, off, rfl, hb, hcap, hc⟩⟩

set_option maxHeartbeats 4000000 in
theorem impl_pol (v : Value) (B : Nat) (l : List T) (w : World) (h : Holds w B v l) (hB : B ≤ w.heap.size) (hl : total l ≤ 1048576) :
    Calls Try.prog 43 #[v] w (BoolEnd (polOk l) w) := by
  have hll : l.length ≤ 1048576 := Nat.le_trans (len_le_total l) hl
  have HT := Lib.hid hl
  obtain ⟨a, cap, rfl, ha⟩ := shape_r h
  have HA := Lib.hid ha
  clear ha h hl
  go_enter Try.func43, Try.ntmps43
  go_wp2
  go_loopw [7] (fun i wr => ∃ k : Nat, k ≤ l.length ∧ i = .int .i64 (k : Int) ∧ Hid ((l.take k).all rok = true) ∧ Below w.heap.size w wr) (fun i _ => l.length - (intOf i).toNat)
  case atStart => exact ⟨0, Nat.zero_le _, rfl, Lib.hid (by simp), Below.refl _ _⟩
  case round =>
    obtain ⟨k, hk, rfl, HP, hb⟩ := hrel
    have HB := Lib.hid hb
    by_cases hlt : k < l.length
    · obtain ⟨b, off, rfl, hbw, hcap, hc⟩ := HA.out (by omega)
      obtain ⟨c0, c1, c2⟩ := at_cells (at_below hc hb (Nat.lt_of_lt_of_le hbw hB)) hlt
      have HLE : Hid ((l.getD k nov).2.1.length ≤ 1048576) := Lib.hid (Nat.le_trans (mem_total (Rec.getD_mem hlt)) HT.out)
      have HM := Lib.hid (all_more hlt HP.out)
      have HN := Lib.hid (pol_bad hlt)
      clear hb hc
      generalize l.getD k nov = f at c0 c1 c2 HLE HM HN
      obtain ⟨x, y, t⟩ := f
      simp only at c0 c1 c2 HLE
      have HR := Lib.hid (fun W => impl_rule x y t W HLE.out)
      have HBA := Lib.hid (HB.out.alloc HB.out.size (.cells #[.int .i64 x, .string ⟨y.toArray⟩, .int .i64 t] 104))
      have hki : (k : Int) < (l.length : Int) := by omega
      unfold BoolEnd at HR
      go_wp2_with (fail)
      go_at_call 76
      refine (HR.out _).mono ?_
      rintro e w2 ⟨rfl, hb2⟩
      have HB2 := Lib.hid (Base.then_below HBA.out hb2)
      clear hb2 c0 c1 c2
      cases hq : rok (x, y, t) with
      | false =>
        have HE := Lib.hid (HN.out hq)
        clear hq
        go_wp2
        go_ret
        exact ⟨ret_b HE.out.symm, HB2.out⟩
      | true =>
        have HE := Lib.hid (HM.out hq)
        clear hq
        go_wp2
        go_roundw
        case rel => exact ⟨k + 1, by omega, by go_num, HE, HB2.out⟩
        case measure => simp [intOf]; omega
    · have HE := Lib.hid (pol_end hlt HP.out)
      clear hb
      go_wp2
      go_ret
      exact ⟨ret_b HE.out.symm, HB.out⟩
end Go.Proofs.Ytfgpphbfampjjaa.Rul
