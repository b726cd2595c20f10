/-
  CONTRACT of the model's l8Ask; nothing that was there before is changed.
-/
import Derived.Test.YtmfgflbbojaghaaDoorAskP
namespace Go.Proofs.YtmfgflbbojaghaaDoor.Rng
open Go Go.RowKit
set_option linter.unusedVariables false

theorem spec_pin_s (s : ByteArray) (w : World) (hl : s.size ≤ 1048576) : Calls Tryd.prog 7 #[.string s] w (PinEnd s.data.toList w) :=
  (Par.spec_parse s w (by omega)).mono fun _ _ h => pin_end h
theorem pask_cut {l : List UInt8} {k : Nat} (hk : k < l.length) (hi : Tx.idx 45 l = k) : pask l =
    if (pin (l.take k)).2 = true ∧ (pin (l.drop (k + 1))).2 = true ∧ (pin (l.take k)).1 ≤ (pin (l.drop (k + 1))).1 then (((pin (l.take k)).1, (pin (l.drop (k + 1))).1), true)
    else if (pin (l.take k)).2 = true ∧ l.length ≤ k + 1 then (((pin (l.take k)).1, -1), true)
    else if (pin (l.drop (k + 1))).2 = true ∧ k = 0 then ((-1, (pin (l.drop (k + 1))).1), true) else ((0, 0), false) := by
  have e : Tx.cutAt 45 l = (l.take k, l.drop (k + 1), true) := by unfold Tx.cutAt; rw [hi, if_pos hk]
  unfold pask
  rw [e]
  simp only [List.drop_eq_nil_iff, true_and]
  have h1 : (l.take k = []) ↔ k = 0 := by
    constructor
    · intro h; have := congrArg List.length h; rw [List.length_take, List.length_nil] at this; omega
    · rintro rfl; rfl
  simp only [h1]
theorem pask_none {l : List UInt8} (hi : ¬ Tx.idx 45 l < l.length) : pask l = ((0, 0), false) := by
  have e : Tx.cutAt 45 l = (l, [], false) := by unfold Tx.cutAt; rw [if_neg hi]
  unfold pask
  rw [e]
  simp [pin_nil]

set_option maxHeartbeats 8000000 in
theorem spec_ask_s (s : ByteArray) (w : World) (hs : s.size ≤ 1048576) :
    Calls Tryd.prog 8 #[.string s] w (AskEnd s.data.toList w) := by
  have HLN : Hid (s.data.toList.length = s.size) := Lib.hid (by rw [Array.length_toList]; rfl)
  have HBX := Lib.hid (abox_new w 0 0)
  have HB : Hid (Below w.heap.size w (w.alloc (.cells #[.int .i64 0, .int .i64 0] 30))) := Lib.hid ((Below.refl _ _).alloc (Nat.le_refl _) _)
  go_enter Tryd.func8, Tryd.ntmps8
  go_wp2
  go_loop [4] (fun i => ∃ k : Nat, k ≤ s.size ∧ i = .int .i64 k ∧ ∀ j (hj : j < s.data.toList.length), j < k → s.data.toList[j] ≠ 45) (fun i => s.size - (intOf i).toNat)
  case atStart => exact ⟨0, Nat.zero_le _, rfl, fun j hj h => absurd h (by omega)⟩
  case round =>
    obtain ⟨k, hk, rfl, hno⟩ := hrel
    have HN := Lib.hid hno
    clear hno
    by_cases hlt : k < s.size
    case neg =>
      obtain rfl : k = s.size := by omega
      have HE := Lib.hid (pask_none (l := s.data.toList) (by rw [Tx.idx_eq (k := s.size) (by rw [HLN.out]; exact Nat.le_refl _) HN.out (fun h => absurd h (by rw [HLN.out]; omega)), HLN.out]; omega))
      have e1 : (((s.size : Nat) : Int) == ((s.size : Nat) : Int)) = true := by simp
      obtain ⟨⟨q0, q1⟩, z0, z1⟩ := abox_facts HBX.out
      go_wp2
      refine bodyPost_ret (v := .tuple #[.agg #[.int .i64 (0), .int .i64 (0)], .bool false]) (by simp [results, Tryd.results8, go_sem, q0, q1]) rfl ⟨ask_ret HE.out, ?_⟩
      first | exact (HB.out.setCell (Nat.le_refl _) _).setCell (Nat.le_refl _) _ | exact HB.out | exact (Below.refl _ _).alloc (Nat.le_refl _) _
    rcases hc : ((s[k].toNat : Int) == 45) with _ | _
    · have HC : Hid (s[k] ≠ 45) := Lib.hid (by intro h; rw [h] at hc; revert hc; decide)
      have hc2 : ((s[k].toNat : Int) != 45) = true := by rw [bne, hc]; rfl
      go_wp2
      go_round
      case rel => exact ⟨k + 1, by omega, by go_num, fun j hj h => by
        rcases Nat.lt_or_ge j k with h' | h'
        · exact HN.out j hj h'
        · have : j = k := by omega
          subst this; exact HC.out⟩
      case measure => simp [intOf]; omega
    have HC : Hid (s[k] = 45) := Lib.hid (UInt8.toNat_inj.1 (by have := beq_iff_eq.1 hc; simp; omega))
    have hc2 : ((s[k].toNat : Int) != 45) = false := by rw [bne, hc]; rfl
    have HP := Lib.hid (pask_cut (l := s.data.toList) (k := k) (by rw [HLN.out]; exact hlt) (Tx.idx_eq (by rw [HLN.out]; omega) HN.out (fun _ => HC.out)))
    rw [HLN.out] at HP
    have HI1 := Lib.hid (fun W => spec_pin_s (s.extract 0 k) W (by simp; omega))
    have HI2 := Lib.hid (fun W => spec_pin_s (s.extract (k + 1) s.size) W (by simp; omega))
    have x1 : (s.extract 0 k).data.toList = s.data.toList.take k := by rw [Tx.ext_eq]; simp
    have x2 : (s.extract (k + 1) s.size).data.toList = s.data.toList.drop (k + 1) := by
      rw [Tx.ext_eq]; simp only []
      exact List.take_of_length_le (by rw [List.length_drop, HLN.out]; omega)
    rw [x1] at HI1
    rw [x2] at HI2
    have HZ1 : Hid (k = 0 → pin (s.data.toList.take k) = (0, false)) := Lib.hid (fun h => by subst h; exact pin_nil)
    have HZ2 : Hid (s.size ≤ k + 1 → pin (s.data.toList.drop (k + 1)) = (0, false)) := Lib.hid (fun h => by rw [List.drop_eq_nil_of_le (by rw [HLN.out]; exact h)]; exact pin_nil)
    have n1 := pin_nn (s.data.toList.take k)
    clear x1 x2 hc
    unfold PinEnd at HI1 HI2
    generalize pin (s.data.toList.take k) = p1 at HP HI1 HZ1 n1
    generalize pin (s.data.toList.drop (k + 1)) = p2 at HP HI2 HZ2
    obtain ⟨p1, b1⟩ := p1
    obtain ⟨p2, b2⟩ := p2
    simp only at HP HI1 HI2 n1
    have e1 : ((k : Int) == ((s.size : Nat) : Int)) = false := by rw [beq_eq_false_iff_ne]; omega
    by_cases hone : s.size = 1
    · have HE : Hid (pask s.data.toList = ((0, 0), false)) := Lib.hid (by
        have z1 := HZ1.out (by omega)
        have z2 := HZ2.out (by omega)
        rw [HP.out, (Prod.mk.inj z1).2, (Prod.mk.inj z2).2]; simp)
      have e2 : (((s.size : Nat) : Int) == 1) = true := by rw [hone]; rfl
      have HONE := Lib.hid hone
      obtain ⟨⟨q0, q1⟩, z0, z1⟩ := abox_facts HBX.out
      clear hone HP HI1 HI2 HZ1 HZ2
      go_wp2
      refine bodyPost_ret (v := .tuple #[.agg #[.int .i64 (0), .int .i64 (0)], .bool false]) (by simp [results, Tryd.results8, go_sem, q0, q1]) rfl ⟨ask_ret HE.out, ?_⟩
      first | exact (HB.out.setCell (Nat.le_refl _) _).setCell (Nat.le_refl _) _ | exact HB.out | exact (Below.refl _ _).alloc (Nat.le_refl _) _
    have e2 : (((s.size : Nat) : Int) == 1) = false := by rw [beq_eq_false_iff_ne]; omega
    by_cases hk0 : 0 < k
    · have hk0' : 0 < (k : Int) := by omega
      have hkn : ¬ k = 0 := by omega
      cases b1 with
      | false =>
        have HE : Hid (pask s.data.toList = ((0, 0), false)) := Lib.hid (by rw [HP.out]; simp [hkn])
        clear hone hkn HP HZ1 HZ2 HI2
        go_wp2_with (fail)
        go_at_call 7
        refine (HI1.out _).mono ?_
        rintro e w2 ⟨rfl, k1⟩
        have HBX := Lib.hid (abox_keep HBX.out k1)
        have HB := Lib.hid (Base.then_below HB.out k1)
        obtain ⟨⟨q0, q1⟩, z0, z1⟩ := abox_facts HBX.out
        clear k1 HI1
        go_wp2
        refine bodyPost_ret (v := .tuple #[.agg #[.int .i64 (0), .int .i64 (0)], .bool false]) (by simp [results, Tryd.results8, go_sem, q0, q1]) rfl ⟨ask_ret HE.out, ?_⟩
        first | exact (HB.out.setCell (Nat.le_refl _) _).setCell (Nat.le_refl _) _ | exact HB.out | exact (Below.refl _ _).alloc (Nat.le_refl _) _
      | true =>
        have n1a : 0 ≤ p1 := n1.1
        have d1 : decide (0 ≤ p1) = true := by simpa using n1a
        by_cases hk1 : k + 1 < s.size
        · have hk1' : (k : Int) + 1 < ((s.size : Nat) : Int) := by omega
          have hkz : ¬ s.size ≤ k + 1 := by omega
          cases b2 with
          | false =>
            have HE : Hid (pask s.data.toList = ((0, 0), false)) := Lib.hid (by rw [HP.out]; simp [hkz])
            clear hone hkn hkz HP HZ1 HZ2
            go_wp2_with (fail)
            go_at_call 7
            refine (HI1.out _).mono ?_
            rintro e w2 ⟨rfl, k1⟩
            have HBX := Lib.hid (abox_keep HBX.out k1)
            have HB := Lib.hid (Base.then_below HB.out k1)
            clear k1 HI1
            go_wp2_with (fail)
            go_at_call 7
            refine (HI2.out _).mono ?_
            rintro e w3 ⟨rfl, k1⟩
            have HBX := Lib.hid (abox_keep HBX.out k1)
            have HB := Lib.hid (Base.then_below HB.out k1)
            obtain ⟨⟨q0, q1⟩, z0, z1⟩ := abox_facts HBX.out
            clear k1
            go_wp2
            refine bodyPost_ret (v := .tuple #[.agg #[.int .i64 (0), .int .i64 (0)], .bool false]) (by simp [results, Tryd.results8, go_sem, q0, q1]) rfl ⟨ask_ret HE.out, ?_⟩
            first | exact (HB.out.setCell (Nat.le_refl _) _).setCell (Nat.le_refl _) _ | exact HB.out | exact (Below.refl _ _).alloc (Nat.le_refl _) _
          | true =>
            by_cases hle : p2 < p1
            · have HE : Hid (pask s.data.toList = ((0, 0), false)) := Lib.hid (by rw [HP.out, if_neg (by rintro ⟨_, _, h⟩; omega), if_neg (by rintro ⟨_, h⟩; exact hkz h), if_neg (by rintro ⟨_, h⟩; exact hkn h)])
              have d2 : decide (p2 < p1) = true := by simpa using hle
              clear hone hkn hkz HP HZ1 HZ2
              go_wp2_with (fail)
              go_at_call 7
              refine (HI1.out _).mono ?_
              rintro e w2 ⟨rfl, k1⟩
              have HBX := Lib.hid (abox_keep HBX.out k1)
              have HB := Lib.hid (Base.then_below HB.out k1)
              clear k1 HI1
              go_wp2_with (fail)
              go_at_call 7
              refine (HI2.out _).mono ?_
              rintro e w3 ⟨rfl, k1⟩
              have HBX := Lib.hid (abox_keep HBX.out k1)
              have HB := Lib.hid (Base.then_below HB.out k1)
              obtain ⟨⟨q0, q1⟩, z0, z1⟩ := abox_facts HBX.out
              clear k1
              go_wp2
              refine bodyPost_ret (v := .tuple #[.agg #[.int .i64 (0), .int .i64 (0)], .bool false]) (by simp [results, Tryd.results8, go_sem, q0, q1]) rfl ⟨ask_ret HE.out, ?_⟩
              first | exact (HB.out.setCell (Nat.le_refl _) _).setCell (Nat.le_refl _) _ | exact HB.out | exact (Below.refl _ _).alloc (Nat.le_refl _) _
            · have HE : Hid (pask s.data.toList = ((p1, p2), true)) := Lib.hid (by rw [HP.out, if_pos ⟨rfl, rfl, by omega⟩])
              have d2 : decide (p2 < p1) = false := by simpa using hle
              clear hone hkn hkz HP HZ1 HZ2
              go_wp2_with (fail)
              go_at_call 7
              refine (HI1.out _).mono ?_
              rintro e w2 ⟨rfl, k1⟩
              have HBX := Lib.hid (abox_keep HBX.out k1)
              have HB := Lib.hid (Base.then_below HB.out k1)
              clear k1 HI1
              go_wp2_with (fail)
              go_at_call 7
              refine (HI2.out _).mono ?_
              rintro e w3 ⟨rfl, k1⟩
              have HBX := Lib.hid (abox_keep HBX.out k1)
              have HB := Lib.hid (Base.then_below HB.out k1)
              obtain ⟨⟨q0, q1⟩, z0, z1⟩ := abox_facts HBX.out
              clear k1
              go_wp2
              refine bodyPost_ret (v := .tuple #[.agg #[.int .i64 (p1), .int .i64 (p2)], .bool true]) (by simp [results, Tryd.results8, go_sem, q0, q1]) rfl ⟨ask_ret HE.out, ?_⟩
              first | exact (HB.out.setCell (Nat.le_refl _) _).setCell (Nat.le_refl _) _ | exact HB.out | exact (Below.refl _ _).alloc (Nat.le_refl _) _
        · have hk1' : ¬ (k : Int) + 1 < ((s.size : Nat) : Int) := by omega
          have HE : Hid (pask s.data.toList = ((p1, -1), true)) := Lib.hid (by
            have z2 := HZ2.out (by omega)
            rw [HP.out, (Prod.mk.inj z2).2, if_neg (by rintro ⟨_, h, _⟩; cases h), if_pos ⟨rfl, by omega⟩])
          clear hone hkn HP HZ1 HZ2 HI2
          go_wp2_with (fail)
          go_at_call 7
          refine (HI1.out _).mono ?_
          rintro e w2 ⟨rfl, k1⟩
          have HBX := Lib.hid (abox_keep HBX.out k1)
          have HB := Lib.hid (Base.then_below HB.out k1)
          obtain ⟨⟨q0, q1⟩, z0, z1⟩ := abox_facts HBX.out
          clear k1 HI1
          go_wp2
          refine bodyPost_ret (v := .tuple #[.agg #[.int .i64 (p1), .int .i64 (-1)], .bool true]) (by simp [results, Tryd.results8, go_sem, q0, q1]) rfl ⟨ask_ret HE.out, ?_⟩
          first | exact (HB.out.setCell (Nat.le_refl _) _).setCell (Nat.le_refl _) _ | exact HB.out | exact (Below.refl _ _).alloc (Nat.le_refl _) _
    · obtain rfl : k = 0 := by omega
      have z1 := HZ1.out rfl
      obtain ⟨rfl, rfl⟩ := Prod.mk.inj z1
      have h2 : 1 < s.size := by omega
      have h2' : (1 : Int) < ((s.size : Nat) : Int) := by omega
      cases b2 with
      | false =>
        have HE : Hid (pask s.data.toList = ((0, 0), false)) := Lib.hid (by rw [HP.out]; simp)
        clear hone z1 HP HZ1 HZ2 HI1 hk0
        go_wp2_with (fail)
        go_at_call 7
        refine (HI2.out _).mono ?_
        rintro e w3 ⟨rfl, k1⟩
        have HBX := Lib.hid (abox_keep HBX.out k1)
        have HB := Lib.hid (Base.then_below HB.out k1)
        obtain ⟨⟨q0, q1⟩, z0, z1⟩ := abox_facts HBX.out
        clear k1
        go_wp2
        refine bodyPost_ret (v := .tuple #[.agg #[.int .i64 (0), .int .i64 (0)], .bool false]) (by simp [results, Tryd.results8, go_sem, q0, q1]) rfl ⟨ask_ret HE.out, ?_⟩
        first | exact (HB.out.setCell (Nat.le_refl _) _).setCell (Nat.le_refl _) _ | exact HB.out | exact (Below.refl _ _).alloc (Nat.le_refl _) _
      | true =>
        have HE : Hid (pask s.data.toList = ((-1, p2), true)) := Lib.hid (by rw [HP.out]; simp)
        clear hone z1 HP HZ1 HZ2 HI1 hk0
        go_wp2_with (fail)
        go_at_call 7
        refine (HI2.out _).mono ?_
        rintro e w3 ⟨rfl, k1⟩
        have HBX := Lib.hid (abox_keep HBX.out k1)
        have HB := Lib.hid (Base.then_below HB.out k1)
        obtain ⟨⟨q0, q1⟩, z0, z1⟩ := abox_facts HBX.out
        clear k1
        go_wp2
        refine bodyPost_ret (v := .tuple #[.agg #[.int .i64 (-1), .int .i64 (p2)], .bool true]) (by simp [results, Tryd.results8, go_sem, q0, q1]) rfl ⟨ask_ret HE.out, ?_⟩
        first | exact (HB.out.setCell (Nat.le_refl _) _).setCell (Nat.le_refl _) _ | exact HB.out | exact (Below.refl _ _).alloc (Nat.le_refl _) _
theorem spec_ask (l : List UInt8) (w : World) (hl : l.length ≤ 1048576) : Calls Tryd.prog 8 #[.string ⟨l.toArray⟩] w (AskEnd l w) := spec_ask_s ⟨l.toArray⟩ w (by simpa [ByteArray.size] using hl)
end Go.Proofs.YtmfgflbbojaghaaDoor.Rng
