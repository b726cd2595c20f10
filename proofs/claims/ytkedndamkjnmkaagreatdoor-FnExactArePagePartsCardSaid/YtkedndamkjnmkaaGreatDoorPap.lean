/-
  CONTRACTS of the model's l29At and of both sides' ArePageParts; nothing that was there before is changed.
-/
import Derived.Test.YtkedndamkjnmkaaGreatDoorNtV
import Derived.Test.YtkedndamkjnmkaaGreatDoorPapM
import Derived.Test.YtkedndamkjnmkaaGreatDoorKept
import Derived.IntWalk
namespace Go.Proofs.YtkedndamkjnmkaaGreatDoor.Prt
open Go Go.RowKit
set_option linter.unusedVariables false
set_option maxRecDepth 1000000
set_option maxRecDepth 1000000

theorem con_call (y : List UInt8) (W : World) (hl : y.length ≤ 4194200) (hm : Sh.MxL W) : Calls Tryz.prog 61 #[.string ⟨y.toArray⟩, .string ⟨#[60, 37]⟩] W fun e w' => e = .returned (.bool (has2 60 37 y)) ∧ Below W.heap.size W w' := by
  obtain ⟨_, m, hc⟩ := hm
  refine (Tryz.strings_Contains ⟨y.toArray⟩ ⟨#[60, 37]⟩ m W (by simp [ByteArray.size]; omega) hc).mono ?_
  rintro e w' ⟨rfl, rfl⟩
  exact ⟨rfl, Below.refl _ _⟩
theorem ret_i {a b : Int} (h : a = b) : Ending.returned (.int .i64 a) = .returned (.int .i64 b) := by rw [h]
def BoolEnd (b : Bool) (w : World) (e : Ending) (w' : World) : Prop := e = .returned (.bool b) ∧ Below w.heap.size w w'
theorem ret_b {a b : Bool} (h : a = b) : Ending.returned (.bool a) = .returned (.bool b) := by rw [h]
theorem box_kept {wr w1 : World} {C : Array Value} {T : TypeId} (h : Below (wr.alloc (.cells C T)).heap.size (wr.alloc (.cells C T)) w1) : (∀ b o u, wr.cell? ⟨b, o, none⟩ = some u → w1.cell? ⟨b, o, none⟩ = some u) ∧ (∀ j u, C[j]? = some u → w1.cell? ⟨wr.heap.size, j, none⟩ = some u) :=
  ⟨fun b o u hc => by
    have hlt := Rec.lt_of_cell hc
    rw [h.cell (p := ⟨b, o, none⟩) (by show b < _; rw [World.size_alloc]; omega), World.cell?_alloc_past _ _ _ (by omega)]; exact hc, (Kept.one h).1⟩

set_option maxHeartbeats 2000000 in
theorem spec_at_s (s : ByteArray) (a b : UInt8) (p : Nat) (w : World) (hp : p ≤ s.size) (hs : s.size ≤ 4194304) :
    Calls Tryz.prog 34 #[.string s, .int .i64 (p : Int), .string ⟨#[a, b]⟩] w fun e w' => e = .returned (.int .i64 (fnd a b s.data.toList p)) ∧ w = w' := by
  go_enter Tryz.func34, Tryz.ntmps34
  go_wp2
  go_loop [7] (fun i => ∃ k : Nat, p ≤ k ∧ k ≤ s.size ∧ i = .int .i64 (k : Int) ∧ ∀ j, p ≤ j → j < k → occ a b s.data.toList j = false) (fun i => s.size - (intOf i).toNat)
  case atStart => exact ⟨p, Nat.le_refl _, hp, rfl, fun j h1 h2 => absurd h1 (by omega)⟩
  case round =>
    obtain ⟨k, hpk, hk, rfl, hno⟩ := hrel
    have HN := Lib.hid hno
    clear hno
    by_cases hlt : k + 1 < s.size
    · have hlt' : (k : Int) + 2 ≤ (s.size : Int) := by omega
      have hk0 : (0 : Int) ≤ (k : Int) := by omega
      have HO := Lib.hid (occ_two a b hlt)
      rcases hc : ((s.extract k (k + 2)).toList == [a, b]) with _ | _
      · have HC : Hid (occ a b s.data.toList k = false) := Lib.hid (by rw [HO.out, hc])
        go_wp2
        go_round
        case rel => exact ⟨k + 1, by omega, by omega, by go_num, fun j h1 h2 => by
          rcases Nat.lt_or_ge j k with h' | h'
          · exact HN.out j h1 h'
          · have : j = k := by omega
            subst this; exact HC.out⟩
        case measure => simp [intOf]; omega
      · have HC : Hid (occ a b s.data.toList k = true) := Lib.hid (by rw [HO.out, hc])
        have HE := Lib.hid (fnd_hit (a := a) (b := b) hpk (by rw [Tx.list_len]; exact hlt) HC.out HN.out)
        clear HO HC HN
        go_wp2
        go_ret
        exact ⟨ret_i HE.out.symm, rfl⟩
    · have hge : ¬ (k : Int) + 2 ≤ (s.size : Int) := by omega
      have HE : Hid (fnd a b s.data.toList p = -1) := Lib.hid (fnd_miss (fun j h1 h2 => HN.out j h1 (by rw [Tx.list_len] at h2; omega)))
      clear HN
      go_wp2
      go_ret
      exact ⟨ret_i HE.out.symm, rfl⟩
theorem spec_at (l : List UInt8) (a b : UInt8) (p : Nat) (w : World) (hp : p ≤ l.length) (hs : l.length ≤ 4194304) :
    Calls Tryz.prog 34 #[.string ⟨l.toArray⟩, .int .i64 (p : Int), .string ⟨#[a, b]⟩] w fun e w' => e = .returned (.int .i64 (fnd a b l p)) ∧ w = w' := spec_at_s ⟨l.toArray⟩ a b p w (by simpa [ByteArray.size] using hp) (by simpa [ByteArray.size] using hs)

set_option maxHeartbeats 2000000 in
theorem impl_part (x : Int) (y : List UInt8) (w : World) (hl : y.length ≤ 4194200) (he : Par.Errs w) (hm : Sh.MxL w) :
    Calls Tryz.prog 36 #[.agg #[.int .i64 x, .string ⟨y.toArray⟩]] w (BoolEnd (pok (x, y)) w) := by
  have HB0 : Hid (Below w.heap.size w (w.alloc (.cells #[.int .i64 x, .string ⟨y.toArray⟩] 57))) := Lib.hid ((Below.refl _ _).alloc (Nat.le_refl _) _)
  have HC := Lib.hid (fun (W : World) (hb : Below w.heap.size w W) => con_call y W hl (Sh.mxl_below hm hb))
  have HI := Lib.hid (fun (W : World) (hb : Below w.heap.size w W) => Nt.impl_isnt y W hl (Par.errs_below he hb) (Sh.mxl_below hm hb))
  have HE := Lib.hid (pok_eq x y)
  unfold BoolEnd
  generalize pok (x, y) = res at *
  generalize has2 60 37 y = z1 at *
  generalize Nt.isnt y = z2 at *
  have hbs : (⟨y.toArray⟩ : ByteArray).size = y.length := by simp [ByteArray.size]
  clear he hm
  by_cases hx1 : x = 1
  · subst hx1
    cases hy : y.isEmpty with
    | true =>
      obtain rfl : y = [] := by simpa using hy
      have HF : Hid (res = false) := Lib.hid (by rw [HE.out]; rfl)
      clear HE HC HI hy
      go_enter Tryz.func36, Tryz.ntmps36
      go_wp2
      go_ret
      exact ⟨ret_b HF.out.symm, HB0.out⟩
    | false =>
      have hy2 : (!y.isEmpty) = true := by rw [hy]; rfl
      have HF : Hid (res = !z1) := Lib.hid (by simp [HE.out, hy])
      clear HE HI
      go_enter Tryz.func36, Tryz.ntmps36
      go_wp2_with (fail)
      go_at_call 61
      refine (HC.out _ HB0.out).mono ?_
      rintro e w1 ⟨rfl, b1⟩
      have HB1 := Lib.hid (Base.then_below HB0.out b1)
      clear b1
      go_wp2
      go_ret
      exact ⟨ret_b (by simp [HF.out]), HB1.out⟩
  by_cases hx2 : x = 2
  · subst hx2
    by_cases h60 : (y.length : Int) ≤ 60
    · have HF : Hid (res = z2) := Lib.hid (by rw [HE.out, if_neg (by omega), if_pos rfl, decide_eq_true (by omega), Bool.true_and])
      clear HE HC
      go_enter Tryz.func36, Tryz.ntmps36
      go_wp2_with (fail)
      go_at_call 8
      refine (HI.out _ HB0.out).mono ?_
      rintro e w1 ⟨rfl, b1⟩
      have HB1 := Lib.hid (Base.then_below HB0.out b1)
      clear b1
      go_wp2
      go_ret
      exact ⟨ret_b (by rw [HF.out]), HB1.out⟩
    · have HF : Hid (res = false) := Lib.hid (by rw [HE.out, if_neg (by omega), if_pos rfl, decide_eq_false (by omega), Bool.false_and])
      clear HE HC HI
      go_enter Tryz.func36, Tryz.ntmps36
      go_wp2
      go_ret
      exact ⟨ret_b HF.out.symm, HB0.out⟩
  · have HF : Hid (res = false) := Lib.hid (by rw [HE.out, if_neg hx1, if_neg hx2])
    clear HE HC HI
    go_enter Tryz.func36, Tryz.ntmps36
    go_wp2
    go_ret
    exact ⟨ret_b HF.out.symm, HB0.out⟩


set_option maxHeartbeats 4000000 in
theorem impl_are (v : Value) (B : Nat) (l : List T) (w : World) (h : Holds w B v l) (hB : B ≤ w.heap.size) (hl : total l ≤ 1048576) (he : Par.Errs w) (hm : Sh.MxL w) :
    Calls Tryz.prog 19 #[v] w (BoolEnd (okp l) w) := by
  have hll : l.length ≤ 1048576 := Nat.le_trans (len_le_total l) hl
  have HT := Lib.hid hl
  have HER := Lib.hid he
  have HMX := Lib.hid hm
  clear he hm
  obtain ⟨a, cap, rfl, ha⟩ := shape_q h
  have HA := Lib.hid ha
  clear ha h hl
  go_enter Tryz.func19, Tryz.ntmps19
  go_wp2
  go_loopw [7] (fun i wr => ∃ k : Nat, k ≤ l.length ∧ i = .int .i64 (k : Int) ∧ Hid (skn l k = true) ∧ Below w.heap.size w wr) (fun i _ => l.length - (intOf i).toNat)
  case atStart => exact ⟨0, Nat.zero_le _, rfl, Lib.hid (skn_zero l), Below.refl _ _⟩
  case round =>
    obtain ⟨k, hk, rfl, HP, hb⟩ := hrel
    have HB := Lib.hid hb
    by_cases hlt : k < l.length
    · obtain ⟨b, off, rfl, hbw, hcap, hc⟩ := HA.out (by omega)
      have hat := at_below hc hb (Nat.lt_of_lt_of_le hbw hB)
      obtain ⟨c0, c1⟩ := at_cells hat hlt
      have HLE : Hid ((l.getD k nov).2.length ≤ 1048576) := Lib.hid (Nat.le_trans (mem_total (Rec.getD_mem hlt)) HT.out)
      have HS := Lib.hid (fun h => skn_step (k := k) HP.out h)
      have HN := Lib.hid (fun h => okp_bad hlt h)
      have HPV : Hid (0 < k → ∃ z : Int, (l.getD (k - 1) nov).1 = z ∧ wr.cell? ⟨b, off + (k - 1) * 2, none⟩ = some (.int .i64 z)) := Lib.hid (fun h => ⟨_, rfl, (at_cells hat (j := k - 1) (by omega)).1⟩)
      have HG1 := Lib.hid (sok_no (l := l) (k := k))
      have HG2 := Lib.hid (sok_first (l := l) (k := k))
      have HG3 := Lib.hid (sok_behind (l := l) (k := k))
      clear hb hc hat
      generalize hx : l.getD k nov = x at c0 c1 HLE HG1 HG2 HG3
      clear hx
      obtain ⟨x, y⟩ := x
      simp only at c0 c1 HLE HG1 HG2 HG3
      have HBA := Lib.hid (HB.out.alloc HB.out.size (.cells #[.int .i64 x, .string ⟨y.toArray⟩] 57))
      have hbs : (⟨y.toArray⟩ : ByteArray).size = y.length := by simp [ByteArray.size]
      have HCB := Lib.hid (fun (W : World) (hb : Below w.heap.size w W) => impl_part x y W (by have := HLE.out; omega) (Par.errs_below HER.out hb) (Sh.mxl_below HMX.out hb))
      unfold BoolEnd at HCB
      have hki : (k : Int) < (l.length : Int) := by omega
      cases hcan : pok (x, y) with
      | false =>
        have HE := Lib.hid (HN.out (HG1.out hcan))
        rw [hcan] at HCB
        clear HS HN hcan HG1 HG2 HG3 HPV
        go_wp2_with (fail)
        go_at_call 36
        refine (HCB.out _ HBA.out).mono ?_
        rintro e w1 ⟨rfl, b1⟩
        have HKP := box_kept b1
        have HBB := Lib.hid (Base.then_below HBA.out b1)
        have e0 := HKP.2 0 _ rfl
        have e1 := HKP.2 1 _ rfl
        clear b1 HKP
        go_wp2
        go_ret
        exact ⟨ret_b HE.out.symm, HBB.out⟩
      | true =>
        rw [hcan] at HCB
        have HCAN := Lib.hid hcan
        clear hcan
        by_cases hx1 : x = 1
        · subst hx1
          by_cases h4 : 0 < k
          · have h4' : 0 < (k : Int) := by omega
            have d4 : decide (0 < (k : Int)) = true := by simpa using h4'
            obtain ⟨z, hz, p1⟩ := HPV.out h4
            have hk1 : ((k : Int) - 1).toNat = k - 1 := by omega
            have hkb : 0 ≤ (k : Int) - 1 := by omega
            have hkc : (k : Int) - 1 < (l.length : Int) := by omega
            have hw1 : IntKind.i64.wrap ((k : Int) - 1) = (k : Int) - 1 := IntWalk.i64_in _ (by omega)
            have HG := Lib.hid (HG3.out HCAN.out h4)
            rw [hz] at HG
            clear hz HG1 HG2 HG3 HPV
            by_cases h5 : z = 1
            · subst h5
              have HE := Lib.hid (HN.out (by rw [HG.out]; rfl))
              clear HS HN HG
              go_wp2_with (fail)
              go_at_call 36
              refine (HCB.out _ HBA.out).mono ?_
              rintro e w1 ⟨rfl, b1⟩
              have HKP := box_kept b1
              have HBB := Lib.hid (Base.then_below HBA.out b1)
              have e0 := HKP.2 0 _ rfl
              have e1 := HKP.2 1 _ rfl
              have p1 := HKP.1 _ _ _ p1
              clear b1 HKP
              go_wp2
              go_ret
              exact ⟨ret_b HE.out.symm, HBB.out⟩
            · have h5' : (z == 1) = false := by simpa using h5
              have HE := Lib.hid (HS.out (by rw [HG.out]; simp [h5]))
              clear HS HN HG
              go_wp2_with (fail)
              go_at_call 36
              refine (HCB.out _ HBA.out).mono ?_
              rintro e w1 ⟨rfl, b1⟩
              have HKP := box_kept b1
              have HBB := Lib.hid (Base.then_below HBA.out b1)
              have e0 := HKP.2 0 _ rfl
              have e1 := HKP.2 1 _ rfl
              have p1 := HKP.1 _ _ _ p1
              clear b1 HKP
              go_wp2
              go_roundw
              case rel => exact ⟨k + 1, by omega, by go_num, HE, HBB.out⟩
              case measure => simp [intOf]; omega
          · have d4 : decide (0 < (k : Int)) = false := by simp; omega
            have h4' : ¬ 0 < (k : Int) := by omega
            have HE := Lib.hid (HS.out (HG2.out HCAN.out h4))
            clear HS HN HG1 HG2 HG3 HPV
            go_wp2_with (fail)
            go_at_call 36
            refine (HCB.out _ HBA.out).mono ?_
            rintro e w1 ⟨rfl, b1⟩
            have HKP := box_kept b1
            have HBB := Lib.hid (Base.then_below HBA.out b1)
            have e0 := HKP.2 0 _ rfl
            have e1 := HKP.2 1 _ rfl
            clear b1 HKP
            go_wp2
            go_roundw
            case rel => exact ⟨k + 1, by omega, by go_num, HE, HBB.out⟩
            case measure => simp [intOf]; omega
        · have hx1' : (x == 1) = false := by simpa using hx1
          by_cases h4 : 0 < k
          · have HE := Lib.hid (HS.out (by rw [HG3.out HCAN.out h4]; simp [hx1]))
            have h4' : 0 < (k : Int) := by omega
            clear HS HN HG1 HG2 HG3 HPV
            go_wp2_with (fail)
            go_at_call 36
            refine (HCB.out _ HBA.out).mono ?_
            rintro e w1 ⟨rfl, b1⟩
            have HKP := box_kept b1
            have HBB := Lib.hid (Base.then_below HBA.out b1)
            have e0 := HKP.2 0 _ rfl
            have e1 := HKP.2 1 _ rfl
            clear b1 HKP
            go_wp2
            go_roundw
            case rel => exact ⟨k + 1, by omega, by go_num, HE, HBB.out⟩
            case measure => simp [intOf]; omega
          · have HE := Lib.hid (HS.out (HG2.out HCAN.out h4))
            have h4' : ¬ 0 < (k : Int) := by omega
            clear HS HN HG1 HG2 HG3 HPV
            go_wp2_with (fail)
            go_at_call 36
            refine (HCB.out _ HBA.out).mono ?_
            rintro e w1 ⟨rfl, b1⟩
            have HKP := box_kept b1
            have HBB := Lib.hid (Base.then_below HBA.out b1)
            have e0 := HKP.2 0 _ rfl
            have e1 := HKP.2 1 _ rfl
            clear b1 HKP
            go_wp2
            go_roundw
            case rel => exact ⟨k + 1, by omega, by go_num, HE, HBB.out⟩
            case measure => simp [intOf]; omega
    · have HE := Lib.hid (okp_all HP.out hk hlt)
      clear hb
      go_wp2
      go_ret
      exact ⟨ret_b HE.out.symm, HB.out⟩


set_option maxHeartbeats 4000000 in
theorem spec_are (v : Value) (B : Nat) (l : List T) (w : World) (h : Holds w B v l) (hB : B ≤ w.heap.size) (hl : total l ≤ 1048576) :
    Calls Tryz.prog 17 #[v] w (BoolEnd (okp l) w) := by
  have hll : l.length ≤ 1048576 := Nat.le_trans (len_le_total l) hl
  have HT := Lib.hid hl
  obtain ⟨a, cap, rfl, ha⟩ := shape_q h
  have HA := Lib.hid ha
  clear ha h hl
  go_enter Tryz.func17, Tryz.ntmps17
  go_wp2
  go_loopw [3] (fun i wr => ∃ k : Nat, k ≤ l.length ∧ i = .int .i64 (k : Int) ∧ Hid (skn l k = true) ∧ Below w.heap.size w wr) (fun i _ => l.length - (intOf i).toNat)
  case atStart => exact ⟨0, Nat.zero_le _, rfl, Lib.hid (skn_zero l), Below.refl _ _⟩
  case round =>
    obtain ⟨k, hk, rfl, HP, hb⟩ := hrel
    have HB := Lib.hid hb
    by_cases hlt : k < l.length
    · obtain ⟨b, off, rfl, hbw, hcap, hc⟩ := HA.out (by omega)
      have hat := at_below hc hb (Nat.lt_of_lt_of_le hbw hB)
      obtain ⟨c0, c1⟩ := at_cells hat hlt
      have HLE : Hid ((l.getD k nov).2.length ≤ 1048576) := Lib.hid (Nat.le_trans (mem_total (Rec.getD_mem hlt)) HT.out)
      have HS := Lib.hid (fun h => skn_step (k := k) HP.out h)
      have HN := Lib.hid (fun h => okp_bad hlt h)
      have HPV : Hid (0 < k → ∃ z : Int, (l.getD (k - 1) nov).1 = z ∧ wr.cell? ⟨b, off + (k - 1) * 2, none⟩ = some (.int .i64 z)) := Lib.hid (fun h => ⟨_, rfl, (at_cells hat (j := k - 1) (by omega)).1⟩)
      have HG1 := Lib.hid (sok_no (l := l) (k := k))
      have HG2 := Lib.hid (sok_first (l := l) (k := k))
      have HG3 := Lib.hid (sok_behind (l := l) (k := k))
      clear hb hc hat
      generalize hx : l.getD k nov = x at c0 c1 HLE HG1 HG2 HG3
      clear hx
      obtain ⟨x, y⟩ := x
      simp only at c0 c1 HLE HG1 HG2 HG3
      have HBA := Lib.hid (HB.out.alloc HB.out.size (.cells #[.int .i64 x, .string ⟨y.toArray⟩] 57))
      have hbs : (⟨y.toArray⟩ : ByteArray).size = y.length := by simp [ByteArray.size]
      have HAT := Lib.hid (fun (W : World) => spec_at y 60 37 0 W (Nat.zero_le _) (by have := HLE.out; omega))
      have HAU := Lib.hid (fun (W : World) => spec_at y 37 62 0 W (Nat.zero_le _) (by have := HLE.out; omega))
      have HIT := Lib.hid (fun (W : World) => Nt.spec_isnt y W (by have := HLE.out; omega))
      have HPE := Lib.hid (pok_eq x y)
      have HNO := Lib.hid (fnd_norm y)
      have HFN := Lib.hid (has2_fnd 60 37 y)
      have hki : (k : Int) < (l.length : Int) := by omega
      by_cases hx1 : x = 1
      · subst hx1
        cases hy : y.isEmpty with
        | true =>
          obtain rfl : y = [] := by simpa using hy
          have HE := Lib.hid (HN.out (HG1.out (by rw [HPE.out]; rfl)))
          clear HS HN HG1 HG2 HG3 HPV HPE HNO HFN hy
          go_wp2
          go_ret
          exact ⟨ret_b HE.out.symm, HBA.out⟩
        | false =>
          by_cases hf : 0 ≤ fnd 60 37 y 0
          · have HE := Lib.hid (HN.out (HG1.out (by rw [HPE.out, HFN.out, hy, decide_eq_true hf]; rfl)))
            clear HS HN HG1 HG2 HG3 HPV HPE HNO HFN
            go_wp2_with (fail)
            go_at_call 34
            refine (HAT.out _).mono ?_
            rintro e w1 ⟨rfl, rfl⟩
            go_wp2
            go_ret
            exact ⟨ret_b HE.out.symm, HBA.out⟩
          · have HCAN : Hid (pok (1, y) = true) := Lib.hid (by rw [HPE.out, HFN.out, hy, decide_eq_false hf]; rfl)
            clear HPE HNO HFN
            by_cases h4 : 0 < k
            · have h4' : 0 < (k : Int) := by omega
              have d4 : decide (0 < (k : Int)) = true := by simpa using h4'
              obtain ⟨z, hz, p1⟩ := HPV.out h4
              have hk1 : ((k : Int) - 1).toNat = k - 1 := by omega
              have hkb : 0 ≤ (k : Int) - 1 := by omega
              have hkc : (k : Int) - 1 < (l.length : Int) := by omega
              have hw1 : IntKind.i64.wrap ((k : Int) - 1) = (k : Int) - 1 := IntWalk.i64_in _ (by omega)
              have HG := Lib.hid (HG3.out HCAN.out h4)
              rw [hz] at HG
              clear hz HG1 HG2 HG3 HPV
              by_cases h5 : z = 1
              · subst h5
                have HE := Lib.hid (HN.out (by rw [HG.out]; rfl))
                clear HS HN HG
                have p1 := (box_kept (Below.refl (wr.alloc (.cells #[.int .i64 1, .string ⟨y.toArray⟩] 57)).heap.size (wr.alloc (.cells #[.int .i64 1, .string ⟨y.toArray⟩] 57)))).1 _ _ _ p1
                go_wp2_with (fail)
                go_at_call 34
                refine (HAT.out _).mono ?_
                rintro e w1 ⟨rfl, rfl⟩
                go_wp2
                go_ret
                exact ⟨ret_b HE.out.symm, HBA.out⟩
              · have h5' : (z == 1) = false := by simpa using h5
                have HE := Lib.hid (HS.out (by rw [HG.out]; simp [h5]))
                clear HS HN HG
                have p1 := (box_kept (Below.refl (wr.alloc (.cells #[.int .i64 1, .string ⟨y.toArray⟩] 57)).heap.size (wr.alloc (.cells #[.int .i64 1, .string ⟨y.toArray⟩] 57)))).1 _ _ _ p1
                go_wp2_with (fail)
                go_at_call 34
                refine (HAT.out _).mono ?_
                rintro e w1 ⟨rfl, rfl⟩
                go_wp2
                go_roundw
                case rel => exact ⟨k + 1, by omega, by go_num, HE, HBA.out⟩
                case measure => simp [intOf]; omega
            · have d4 : decide (0 < (k : Int)) = false := by simp; omega
              have h4' : ¬ 0 < (k : Int) := by omega
              have HE := Lib.hid (HS.out (HG2.out HCAN.out h4))
              clear HS HN HG1 HG2 HG3 HPV
              go_wp2_with (fail)
              go_at_call 34
              refine (HAT.out _).mono ?_
              rintro e w1 ⟨rfl, rfl⟩
              go_wp2
              go_roundw
              case rel => exact ⟨k + 1, by omega, by go_num, HE, HBA.out⟩
              case measure => simp [intOf]; omega
      by_cases hx2 : x = 2
      · subst hx2
        have hx1' : ((2 : Int) == 1) = false := rfl
        cases hn : Nt.isnt y with
        | false =>
          have HE := Lib.hid (HN.out (HG1.out (by rw [HPE.out, hn]; simp)))
          rw [hn] at HIT
          clear HS HN HG1 HG2 HG3 HPV HPE HNO HFN hn
          go_wp2_with (fail)
          go_at_call 7
          refine (HIT.out _).mono ?_
          rintro e w1 ⟨rfl, b1⟩
          have HKP := box_kept b1
          have HBB := Lib.hid (Base.then_below HBA.out b1)
          have e0 := HKP.2 0 _ rfl
          have e1 := HKP.2 1 _ rfl
          clear b1 HKP
          go_wp2
          go_ret
          exact ⟨ret_b HE.out.symm, HBB.out⟩
        | true =>
          rw [hn] at HIT
          have hno := HNO.out hn
          by_cases h60 : (y.length : Int) ≤ 60
          · have HCAN : Hid (pok (2, y) = true) := Lib.hid (by rw [HPE.out, hn, if_neg (by omega), if_pos rfl, decide_eq_true (by omega)]; rfl)
            have h60' : ¬ 60 < (y.length : Int) := by omega
            have hnn : ¬ 0 ≤ fnd 37 62 y 0 := by omega
            have HE : Hid (skn l (k + 1) = true) := Lib.hid (HS.out (by by_cases h4 : 0 < k; rw [HG3.out HCAN.out h4]; simp; exact HG2.out HCAN.out h4))
            clear HS HN HG1 HG2 HG3 HPV HPE HNO HFN hn hno
            go_wp2_with (fail)
            go_at_call 7
            refine (HIT.out _).mono ?_
            rintro e w1 ⟨rfl, b1⟩
            have HKP := box_kept b1
            have HBB := Lib.hid (Base.then_below HBA.out b1)
            have e0 := HKP.2 0 _ rfl
            have e1 := HKP.2 1 _ rfl
            clear b1 HKP
            go_wp2_with (fail)
            go_at_call 34
            refine (HAU.out _).mono ?_
            rintro e w2 ⟨rfl, rfl⟩
            go_wp2
            go_roundw
            case rel => exact ⟨k + 1, by omega, by go_num, HE, HBB.out⟩
            case measure => simp [intOf]; omega
          · have HE := Lib.hid (HN.out (HG1.out (by rw [HPE.out, if_neg (by omega), if_pos rfl, decide_eq_false (by omega)]; rfl)))
            have h60' : 60 < (y.length : Int) := by omega
            clear HS HN HG1 HG2 HG3 HPV HPE HNO HFN hn hno
            go_wp2_with (fail)
            go_at_call 7
            refine (HIT.out _).mono ?_
            rintro e w1 ⟨rfl, b1⟩
            have HKP := box_kept b1
            have HBB := Lib.hid (Base.then_below HBA.out b1)
            have e0 := HKP.2 0 _ rfl
            have e1 := HKP.2 1 _ rfl
            clear b1 HKP
            go_wp2
            go_ret
            exact ⟨ret_b HE.out.symm, HBB.out⟩
      · have HE := Lib.hid (HN.out (HG1.out (by rw [HPE.out, if_neg hx1, if_neg hx2])))
        clear HS HN HG1 HG2 HG3 HPV HPE HNO HFN
        go_wp2
        go_ret
        exact ⟨ret_b HE.out.symm, HBA.out⟩
    · have HE := Lib.hid (okp_all HP.out hk hlt)
      clear hb
      go_wp2
      go_ret
      exact ⟨ret_b HE.out.symm, HB.out⟩

end Go.Proofs.YtkedndamkjnmkaaGreatDoor.Prt
