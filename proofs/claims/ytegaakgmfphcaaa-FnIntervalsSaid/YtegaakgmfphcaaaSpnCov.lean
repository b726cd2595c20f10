/-
  CONTRACTS of CoversSpan, the model's and the program's; nothing that was there before is changed.
-/
import Derived.Test.YtegaakgmfphcaaaSpnIs
import Derived.Test.YtegaakgmfphcaaaRegS
namespace Go.Proofs.Ytegaakgmfphcaaa.Spn
open Go Go.RowKit
set_option linter.unusedVariables false
set_option maxRecDepth 1000000

theorem covers_eq {l : List S} {x : S} {b : Bool} (h : l.any (holdsx x) = b) : covers l x = (b || decide (x.2 ≤ x.1)) := by unfold covers; rw [h]
theorem holdsx_no1 {x s : S} (h : ¬ s.1 ≤ x.1) : holdsx x s = false := by unfold holdsx; simp; omega
theorem holdsx_no2 {x s : S} (h : ¬ x.2 ≤ s.2) : holdsx x s = false := by unfold holdsx; simp; omega
theorem holdsx_yes {x s : S} (h1 : s.1 ≤ x.1) (h2 : x.2 ≤ s.2) : holdsx x s = true := by unfold holdsx; simp; omega

set_option maxHeartbeats 2000000 in
theorem spec_cov (v : Value) (B : Nat) (l : List T) (p q : Int) (w : World) (h : Holds w B v l) (hB : B ≤ w.heap.size) (hl : l.length ≤ 4194304) :
    Calls Try.prog 11 #[v, .agg #[.int .i64 p, .int .i64 q]] w (BoolEnd (covers l (p, q)) w) := by
  obtain ⟨a, cap, rfl, ha⟩ := shape h
  have HA := Lib.hid ha
  have HZ := Lib.hid (cov_zero l (p, q))
  have HBA : Hid (Below w.heap.size w (w.alloc (.cells #[.int .i64 p, .int .i64 q] 26))) := Lib.hid ((Below.refl _ _).alloc (Nat.le_refl _) _)
  have hx0 : (w.alloc (.cells #[.int .i64 p, .int .i64 q] 26)).cell? ⟨w.heap.size, 0, none⟩ = some (.int .i64 p) := by rw [World.cell?_alloc_new]; rfl
  have hx1 : (w.alloc (.cells #[.int .i64 p, .int .i64 q] 26)).cell? ⟨w.heap.size, 1, none⟩ = some (.int .i64 q) := by rw [World.cell?_alloc_new]; rfl
  have HX := Lib.hid (And.intro hx0 hx1)
  clear ha h hx0 hx1
  go_enter Try.func11, Try.ntmps11
  go_wp2
  go_loopw [5] (fun i wr => ∃ k : Nat, k ≤ l.length ∧ i = .int .i64 (k : Int) ∧ Hid ((l.take k).any (holdsx (p, q)) = false) ∧ Below (w.heap.size + 1) (w.alloc (.cells #[.int .i64 p, .int .i64 q] 26)) wr) (fun i _ => l.length - (intOf i).toNat)
  case atStart => exact ⟨0, Nat.zero_le _, rfl, HZ, Below.refl _ _⟩
  case round =>
    obtain ⟨k, hk, rfl, HP, hb⟩ := hrel
    have x0 : wr.cell? ⟨w.heap.size, 0, none⟩ = some (.int .i64 p) := (hb.cell (p := ⟨w.heap.size, 0, none⟩) (by show w.heap.size < _; omega)).trans HX.out.1
    have x1 : wr.cell? ⟨w.heap.size, 1, none⟩ = some (.int .i64 q) := (hb.cell (p := ⟨w.heap.size, 1, none⟩) (by show w.heap.size < _; omega)).trans HX.out.2
    have HB := Lib.hid hb
    have HBW : Hid (Below w.heap.size w wr) := Lib.hid (HBA.out.trans (hb.mono (by omega)))
    by_cases hlt : k < l.length
    · obtain ⟨b, off, rfl, hbw, hcap, hc⟩ := HA.out (by omega)
      obtain ⟨c0, c1⟩ := at_cells (at_below hc HBW.out (Nat.lt_of_lt_of_le hbw hB)) hlt
      have HS := Lib.hid (cov_step (x := (p, q)) hlt HP.out)
      have HH := Lib.hid (cov_hit (x := (p, q)) hlt)
      have hn : l.getD k nov = l.getD k nos := rfl
      rw [hn] at c0 c1
      clear hb hc hn
      generalize l.getD k nos = x at c0 c1 HS HH
      obtain ⟨x, y⟩ := x
      simp only at c0 c1 HS HH
      have hki : (k : Int) < (l.length : Int) := by omega
      by_cases h1 : x ≤ p
      · have d1 : decide (x ≤ p) = true := by simpa using h1
        by_cases h2 : q ≤ y
        · have d2 : decide (q ≤ y) = true := by simpa using h2
          have HE := Lib.hid (covers_eq (HH.out (holdsx_yes h1 h2)))
          clear HS HH
          go_wp2
          go_quiet (fail)
          go_wp2
          go_ret
          exact ⟨ret_bool (by rw [HE.out]; rfl), Rec.below_drewN HBW.out _⟩
        · have d2 : decide (q ≤ y) = false := by simpa using h2
          have HE := Lib.hid (HS.out (holdsx_no2 h2))
          clear HS HH
          go_wp2
          go_quiet (fail)
          go_wp2
          go_roundw
          case rel => exact ⟨k + 1, by omega, by go_num, HE, Rec.below_drewN HB.out _⟩
          case measure => simp [intOf]; omega
      · have d1 : decide (x ≤ p) = false := by simpa using h1
        have HE := Lib.hid (HS.out (holdsx_no1 h1))
        clear HS HH
        go_wp2
        go_quiet (fail)
        go_wp2
        go_roundw
        case rel => exact ⟨k + 1, by omega, by go_num, HE, Rec.below_drewN HB.out _⟩
        case measure => simp [intOf]; omega
    · have HE := Lib.hid (covers_eq (cov_all hlt HP.out))
      clear hb
      go_wp2
      go_ret
      exact ⟨ret_bool (by rw [HE.out]; simp), HBW.out⟩



/-! the program's -/
/-- The closure that CoversSpan makes, at a cell that holds the span. -/
theorem cov_keeps (g : Nat) (p q x y : Int) (w : World) (hp : w.cell? ⟨g, 0, none⟩ = some (.int .i64 p)) (hq : w.cell? ⟨g, 1, none⟩ = some (.int .i64 q)) :
    Calls Try.prog 28 #[.agg #[.int .i64 x, .int .i64 y], .pointer (some ⟨g, 0, none⟩)] w (BoolEnd (holdsx (p, q) (x, y)) w) := by
  have hg := Rec.lt_of_cell hp
  have HBA : Hid (Below w.heap.size w (w.alloc (.cells #[.int .i64 x, .int .i64 y] 26))) := Lib.hid ((Below.refl _ _).alloc (Nat.le_refl _) _)
  have hp' : (w.alloc (.cells #[.int .i64 x, .int .i64 y] 26)).cell? ⟨g, 0, none⟩ = some (.int .i64 p) := by rw [World.cell?_alloc_past _ _ _ (by omega)]; exact hp
  have hq' : (w.alloc (.cells #[.int .i64 x, .int .i64 y] 26)).cell? ⟨g, 1, none⟩ = some (.int .i64 q) := by rw [World.cell?_alloc_past _ _ _ (by omega)]; exact hq
  by_cases h1 : x ≤ p
  · have d1 : decide (x ≤ p) = true := by simpa using h1
    by_cases h2 : q ≤ y
    · have d2 : decide (q ≤ y) = true := by simpa using h2
      have HE := Lib.hid (holdsx_yes (x := (p, q)) (s := (x, y)) h1 h2)
      go_enter Try.func28, Try.ntmps28
      go_wp2
      all_goals first | (go_quiet (fail); go_wp2) | skip
      go_ret
      exact ⟨ret_bool HE.out.symm, by first | exact HBA.out | exact Rec.below_drewN HBA.out _⟩
    · have d2 : decide (q ≤ y) = false := by simpa using h2
      have HE := Lib.hid (holdsx_no2 (x := (p, q)) (s := (x, y)) h2)
      go_enter Try.func28, Try.ntmps28
      go_wp2
      all_goals first | (go_quiet (fail); go_wp2) | skip
      go_ret
      exact ⟨ret_bool HE.out.symm, by first | exact HBA.out | exact Rec.below_drewN HBA.out _⟩
  · have d1 : decide (x ≤ p) = false := by simpa using h1
    have HE := Lib.hid (holdsx_no1 (x := (p, q)) (s := (x, y)) h1)
    go_enter Try.func28, Try.ntmps28
    go_wp2
    all_goals first | (go_quiet (fail); go_wp2) | skip
    go_ret
    exact ⟨ret_bool HE.out.symm, by first | exact HBA.out | exact Rec.below_drewN HBA.out _⟩

def IdxEnd (b : Bool) (w : World) (e : Ending) (w' : World) : Prop := ∃ z : Int, e = .returned (.int .i64 z) ∧ ((0 ≤ z ∧ b = true) ∨ (z < 0 ∧ b = false)) ∧ Below w.heap.size w w'
set_option maxHeartbeats 2000000 in
theorem idx_cov (v : Value) (B : Nat) (l : List T) (g : Nat) (p q : Int) (w : World) (h : Holds w B v l) (hB : B ≤ w.heap.size) (hl : l.length ≤ 4194304) (hp : w.cell? ⟨g, 0, none⟩ = some (.int .i64 p)) (hq : w.cell? ⟨g, 1, none⟩ = some (.int .i64 q)) :
    Calls Try.prog 35 #[v, .func (.func 28) #[] #[.pointer (some ⟨g, 0, none⟩)]] w (IdxEnd (l.any (holdsx (p, q))) w) := by
  obtain ⟨a, cap, rfl, ha⟩ := shape h
  have HA := Lib.hid ha
  have HZ := Lib.hid (cov_zero l (p, q))
  have HG := Lib.hid (And.intro hp hq)
  have HGL := Lib.hid (Rec.lt_of_cell hp)
  clear ha h hp hq
  go_enter Try.func35, Try.ntmps35
  go_wp2
  go_loopw [8] (fun i wr => ∃ k : Nat, k ≤ l.length ∧ i = .int .i64 (k : Int) ∧ Hid ((l.take k).any (holdsx (p, q)) = false) ∧ Below w.heap.size w wr) (fun i _ => l.length - (intOf i).toNat)
  case atStart => exact ⟨0, Nat.zero_le _, rfl, HZ, Below.refl _ _⟩
  case round =>
    obtain ⟨k, hk, rfl, HP, hb⟩ := hrel
    have HB := Lib.hid hb
    by_cases hlt : k < l.length
    · obtain ⟨b, off, rfl, hbw, hcap, hc⟩ := HA.out (by omega)
      obtain ⟨c0, c1⟩ := at_cells (at_below hc hb (Nat.lt_of_lt_of_le hbw hB)) hlt
      have HS := Lib.hid (cov_step (x := (p, q)) hlt HP.out)
      have HH := Lib.hid (cov_hit (x := (p, q)) hlt)
      have hn : l.getD k nov = l.getD k nos := rfl
      rw [hn] at c0 c1
      generalize l.getD k nos = x at c0 c1 HS HH
      obtain ⟨x, y⟩ := x
      simp only at c0 c1 HS HH
      have HK := Lib.hid (cov_keeps g p q x y wr ((hb.cell (p := ⟨g, 0, none⟩) HGL.out).trans HG.out.1) ((hb.cell (p := ⟨g, 1, none⟩) HGL.out).trans HG.out.2))
      have hki : (k : Int) < (l.length : Int) := by omega
      clear hb hc hn
      cases hh : holdsx (p, q) (x, y) with
      | true =>
        have HE := Lib.hid (HH.out hh)
        rw [hh] at HK
        clear HS HH hh
        go_wp2_with (fail)
        go_at_call 28
        refine HK.out.mono ?_
        rintro e w1 ⟨rfl, hb1⟩
        have HB1 := Lib.hid (Base.then_below HB.out hb1)
        clear hb1
        go_wp2
        go_ret
        exact ⟨_, rfl, Or.inl ⟨by omega, HE.out⟩, HB1.out⟩
      | false =>
        have HE := Lib.hid (HS.out hh)
        rw [hh] at HK
        clear HS HH hh
        go_wp2_with (fail)
        go_at_call 28
        refine HK.out.mono ?_
        rintro e w1 ⟨rfl, hb1⟩
        have HB1 := Lib.hid (Base.then_below HB.out hb1)
        clear hb1
        go_wp2
        go_roundw
        case rel => exact ⟨k + 1, by omega, by go_num, HE, HB1.out⟩
        case measure => simp [intOf]; omega
    · have HE := Lib.hid (cov_all hlt HP.out)
      clear hb
      go_wp2
      go_ret
      exact ⟨_, rfl, Or.inr ⟨by decide, HE.out⟩, HB.out⟩
theorem contains_cov (v : Value) (B : Nat) (l : List T) (g : Nat) (p q : Int) (w : World) (h : Holds w B v l) (hB : B ≤ w.heap.size) (hl : l.length ≤ 4194304) (hp : w.cell? ⟨g, 0, none⟩ = some (.int .i64 p)) (hq : w.cell? ⟨g, 1, none⟩ = some (.int .i64 q)) :
    Calls Try.prog 27 #[v, .func (.func 28) #[] #[.pointer (some ⟨g, 0, none⟩)]] w (BoolEnd (l.any (holdsx (p, q))) w) := by
  have HI := Lib.hid (idx_cov v B l g p q w h hB hl hp hq)
  obtain ⟨a, cap, rfl, ha⟩ := shape h
  clear h ha hp hq
  unfold BoolEnd
  generalize l.any (holdsx (p, q)) = z at HI ⊢
  go_enter Try.func27, Try.ntmps27
  go_wp2_with (fail)
  go_at_call 35
  refine HI.out.mono ?_
  rintro e w1 ⟨n, rfl, hn, hb1⟩
  have HB := Lib.hid hb1
  clear hb1
  rcases hn with ⟨hn, rfl⟩ | ⟨hn, rfl⟩
  · go_wp2
    go_ret
    exact ⟨rfl, HB.out⟩
  · go_wp2
    go_ret
    exact ⟨ret_bool (by simp; omega), HB.out⟩

set_option maxHeartbeats 2000000 in
theorem impl_cov (v : Value) (B : Nat) (l : List T) (p q : Int) (w : World) (h : Holds w B v l) (hB : B ≤ w.heap.size) (hl : l.length ≤ 4194304) :
    Calls Try.prog 10 #[v, .agg #[.int .i64 p, .int .i64 q]] w (BoolEnd (covers l (p, q)) w) := by
  have hmf : ∀ (fn : Fn) (first cap : Array Value) (w : World), (Instr.makeFunc fn first cap).run Try.prog w = .ok (.func fn first cap) w := fun _ _ _ _ => rfl
  have HBA : Hid (Below w.heap.size w (w.alloc (.cells #[.int .i64 p, .int .i64 q] 26))) := Lib.hid ((Below.refl _ _).alloc (Nat.le_refl _) _)
  have HX : Hid ((w.alloc (.cells #[.int .i64 p, .int .i64 q] 26)).cell? ⟨w.heap.size, 0, none⟩ = some (.int .i64 p) ∧ (w.alloc (.cells #[.int .i64 p, .int .i64 q] 26)).cell? ⟨w.heap.size, 1, none⟩ = some (.int .i64 q)) := Lib.hid ⟨by rw [World.cell?_alloc_new]; rfl, by rw [World.cell?_alloc_new]; rfl⟩
  have HH := Lib.hid (has_bytes p q)
  have HY := Lib.hid (holds_below h (HBA.out.mono hB))
  obtain ⟨a, cap, rfl, ha⟩ := shape h
  clear ha h
  by_cases hpq : p < q
  · have HD : Hid (decide (p < q) = true) := Lib.hid (by simpa using hpq)
    have HC : Hid (covers l (p, q) = l.any (holdsx (p, q))) := Lib.hid (by rw [covers_eq rfl]; simp; omega)
    unfold BoolEnd
    rw [HC.out]
    obtain ⟨z, hz⟩ : ∃ z, z = l.any (holdsx (p, q)) := ⟨_, rfl⟩
    rw [← hz]
    have HZZ := Lib.hid hz
    clear hz
    go_enter Try.func10, Try.ntmps10
    go_wp2_with (fail)
    go_at_call 26
    refine (HH.out _).mono ?_
    rintro e w1 ⟨he, hb⟩
    rw [HD.out] at he
    subst he
    have HX1 := Lib.hid (And.intro ((hb.cell (p := ⟨w.heap.size, 0, none⟩) (by simp)).trans HX.out.1) ((hb.cell (p := ⟨w.heap.size, 1, none⟩) (by simp)).trans HX.out.2))
    have HB1 := Lib.hid (HBA.out.trans (hb.mono (by simp)))
    have HY1 := Lib.hid (holds_below HY.out (hb.mono (by simp; omega)))
    have HCC := Lib.hid (contains_cov _ B l w.heap.size p q w1 HY1.out (by have := HB1.out.size; omega) hl HX1.out.1 HX1.out.2)
    unfold BoolEnd at HCC
    rw [← HZZ.out] at HCC
    clear hb
    go_wp2_with (fail)
    go_at_call 27
    refine HCC.out.mono ?_
    rintro e w2 ⟨rfl, hb2⟩
    have HB2 := Lib.hid (Base.then_below HB1.out hb2)
    clear hb2
    go_wp2
    go_ret
    exact ⟨rfl, HB2.out⟩
  · have HD : Hid (decide (p < q) = false) := Lib.hid (by simpa using hpq)
    have HC : Hid (covers l (p, q) = true) := Lib.hid (by rw [covers_eq rfl]; simp; omega)
    unfold BoolEnd
    rw [HC.out]
    go_enter Try.func10, Try.ntmps10
    go_wp2_with (fail)
    go_at_call 26
    refine (HH.out _).mono ?_
    rintro e w1 ⟨he, hb⟩
    rw [HD.out] at he
    subst he
    have HB1 := Lib.hid (HBA.out.trans (hb.mono (by simp)))
    clear hb
    go_wp2
    go_ret
    exact ⟨rfl, HB1.out⟩
end Go.Proofs.Ytegaakgmfphcaaa.Spn
