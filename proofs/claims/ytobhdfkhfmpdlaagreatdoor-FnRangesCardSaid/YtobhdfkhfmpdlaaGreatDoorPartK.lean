/-
  CONTRACTS AND PLAIN FACTS, several texts in one; each says in its own words what it proves.
-/
import Derived.Test.YtobhdfkhfmpdlaaGreatDoorPartJ
import Derived.Test.YtobhdfkhfmpdlaaGreatDoorPartG
import Derived.Test.YtobhdfkhfmpdlaaGreatDoorPartA
import Derived.LoopTactic
import Derived.Laws.DeepStrings4
set_option linter.unusedSimpArgs false
set_option linter.unusedVariables false

/-
  CONTRACT of the model's l8Ask; nothing that was there before is changed.
-/
namespace Go.Proofs.YtobhdfkhfmpdlaaGreatDoor.Rng
open Go Go.RowKit
set_option linter.unusedVariables false
set_option maxRecDepth 1000000

theorem spec_pin_s (s : ByteArray) (w : World) (hl : s.size ≤ 1048576) : Calls Tryz.prog 42 #[.string s] w (PinEnd s.data.toList w) :=
  (Par.spec_parse s w (by omega)).mono fun _ _ h => pin_end h
theorem pask_cut {l : List UInt8} {k : Nat} (hk : k < l.length) (hi : Tx.idx 45 l = k) : pask l =
    if (pin (l.take k)).2 = true ∧ (pin (l.drop (k + 1))).2 = true ∧ (pin (l.take k)).1 ≤ (pin (l.drop (k + 1))).1 then (((pin (l.take k)).1, (pin (l.drop (k + 1))).1), true)
    else if (pin (l.take k)).2 = true ∧ l.length ≤ k + 1 then (((pin (l.take k)).1, -1), true)
    else if (pin (l.drop (k + 1))).2 = true ∧ k = 0 then ((-1, (pin (l.drop (k + 1))).1), true) else ((0, 0), false) := by
  have e : Tx.cutAt 45 l = (l.take k, l.drop (k + 1), true) := by unfold Tx.cutAt; rw [hi, if_pos hk]
  unfold pask
  rw [e]
  simp only [List.drop_eq_nil_iff, true_and]
  have h1 : (l.take k = []) ↔ k = 0 := by
    constructor
    · intro h; have := congrArg List.length h; rw [List.length_take, List.length_nil] at this; omega
    · rintro rfl; rfl
  simp only [h1]
theorem pask_none {l : List UInt8} (hi : ¬ Tx.idx 45 l < l.length) : pask l = ((0, 0), false) := by
  have e : Tx.cutAt 45 l = (l, [], false) := by unfold Tx.cutAt; rw [if_neg hi]
  unfold pask
  rw [e]
  simp [pin_nil]

set_option maxHeartbeats 8000000 in
theorem spec_ask_s (s : ByteArray) (w : World) (hs : s.size ≤ 1048576) :
    Calls Tryz.prog 23 #[.string s] w (AskEnd s.data.toList w) := by
  have HLN : Hid (s.data.toList.length = s.size) := Lib.hid (by rw [Array.length_toList]; rfl)
  have HBX := Lib.hid (abox_new w 0 0)
  have HB : Hid (Below w.heap.size w (w.alloc (.cells #[.int .i64 0, .int .i64 0] 30))) := Lib.hid ((Below.refl _ _).alloc (Nat.le_refl _) _)
  go_enter Tryz.func23, Tryz.ntmps23
  go_wp2
  go_loop [4] (fun i => ∃ k : Nat, k ≤ s.size ∧ i = .int .i64 k ∧ ∀ j (hj : j < s.data.toList.length), j < k → s.data.toList[j] ≠ 45) (fun i => s.size - (intOf i).toNat)
  case atStart => exact ⟨0, Nat.zero_le _, rfl, fun j hj h => absurd h (by omega)⟩
  case round =>
    obtain ⟨k, hk, rfl, hno⟩ := hrel
    have HN := Lib.hid hno
    clear hno
    by_cases hlt : k < s.size
    case neg =>
      obtain rfl : k = s.size := by omega
      have HE := Lib.hid (pask_none (l := s.data.toList) (by rw [Tx.idx_eq (k := s.size) (by rw [HLN.out]; exact Nat.le_refl _) HN.out (fun h => absurd h (by rw [HLN.out]; omega)), HLN.out]; omega))
      have e1 : (((s.size : Nat) : Int) == ((s.size : Nat) : Int)) = true := by simp
      obtain ⟨⟨q0, q1⟩, z0, z1⟩ := abox_facts HBX.out
      go_wp2
      refine bodyPost_ret (v := .tuple #[.agg #[.int .i64 (0), .int .i64 (0)], .bool false]) (by simp [results, Tryz.results23, go_sem, q0, q1]) rfl ⟨ask_ret HE.out, ?_⟩
      first | exact (HB.out.setCell (Nat.le_refl _) _).setCell (Nat.le_refl _) _ | exact HB.out | exact (Below.refl _ _).alloc (Nat.le_refl _) _
    rcases hc : ((s[k].toNat : Int) == 45) with _ | _
    · have HC : Hid (s[k] ≠ 45) := Lib.hid (by intro h; rw [h] at hc; revert hc; decide)
      have hc2 : ((s[k].toNat : Int) != 45) = true := by rw [bne, hc]; rfl
      go_wp2
      go_round
      case rel => exact ⟨k + 1, by omega, by go_num, fun j hj h => by
        rcases Nat.lt_or_ge j k with h' | h'
        · exact HN.out j hj h'
        · have : j = k := by omega
          subst this; exact HC.out⟩
      case measure => simp [intOf]; omega
    have HC : Hid (s[k] = 45) := Lib.hid (UInt8.toNat_inj.1 (by have := beq_iff_eq.1 hc; simp; omega))
    have hc2 : ((s[k].toNat : Int) != 45) = false := by rw [bne, hc]; rfl
    have HP := Lib.hid (pask_cut (l := s.data.toList) (k := k) (by rw [HLN.out]; exact hlt) (Tx.idx_eq (by rw [HLN.out]; omega) HN.out (fun _ => HC.out)))
    rw [HLN.out] at HP
    have HI1 := Lib.hid (fun W => spec_pin_s (s.extract 0 k) W (by simp; omega))
    have HI2 := Lib.hid (fun W => spec_pin_s (s.extract (k + 1) s.size) W (by simp; omega))
    have x1 : (s.extract 0 k).data.toList = s.data.toList.take k := by rw [Tx.ext_eq]; simp
    have x2 : (s.extract (k + 1) s.size).data.toList = s.data.toList.drop (k + 1) := by
      rw [Tx.ext_eq]; simp only []
      exact List.take_of_length_le (by rw [List.length_drop, HLN.out]; omega)
    rw [x1] at HI1
    rw [x2] at HI2
    have HZ1 : Hid (k = 0 → pin (s.data.toList.take k) = (0, false)) := Lib.hid (fun h => by subst h; exact pin_nil)
    have HZ2 : Hid (s.size ≤ k + 1 → pin (s.data.toList.drop (k + 1)) = (0, false)) := Lib.hid (fun h => by rw [List.drop_eq_nil_of_le (by rw [HLN.out]; exact h)]; exact pin_nil)
    have n1 := pin_nn (s.data.toList.take k)
    clear x1 x2 hc
    unfold PinEnd at HI1 HI2
    generalize pin (s.data.toList.take k) = p1 at HP HI1 HZ1 n1
    generalize pin (s.data.toList.drop (k + 1)) = p2 at HP HI2 HZ2
    obtain ⟨p1, b1⟩ := p1
    obtain ⟨p2, b2⟩ := p2
    simp only at HP HI1 HI2 n1
    have e1 : ((k : Int) == ((s.size : Nat) : Int)) = false := by rw [beq_eq_false_iff_ne]; omega
    by_cases hone : s.size = 1
    · have HE : Hid (pask s.data.toList = ((0, 0), false)) := Lib.hid (by
        have z1 := HZ1.out (by omega)
        have z2 := HZ2.out (by omega)
        rw [HP.out, (Prod.mk.inj z1).2, (Prod.mk.inj z2).2]; simp)
      have e2 : (((s.size : Nat) : Int) == 1) = true := by rw [hone]; rfl
      have HONE := Lib.hid hone
      obtain ⟨⟨q0, q1⟩, z0, z1⟩ := abox_facts HBX.out
      clear hone HP HI1 HI2 HZ1 HZ2
      go_wp2
      refine bodyPost_ret (v := .tuple #[.agg #[.int .i64 (0), .int .i64 (0)], .bool false]) (by simp [results, Tryz.results23, go_sem, q0, q1]) rfl ⟨ask_ret HE.out, ?_⟩
      first | exact (HB.out.setCell (Nat.le_refl _) _).setCell (Nat.le_refl _) _ | exact HB.out | exact (Below.refl _ _).alloc (Nat.le_refl _) _
    have e2 : (((s.size : Nat) : Int) == 1) = false := by rw [beq_eq_false_iff_ne]; omega
    by_cases hk0 : 0 < k
    · have hk0' : 0 < (k : Int) := by omega
      have hkn : ¬ k = 0 := by omega
      cases b1 with
      | false =>
        have HE : Hid (pask s.data.toList = ((0, 0), false)) := Lib.hid (by rw [HP.out]; simp [hkn])
        clear hone hkn HP HZ1 HZ2 HI2
        go_wp2_with (fail)
        go_at_call 42
        refine (HI1.out _).mono ?_
        rintro e w2 ⟨rfl, k1⟩
        have HBX := Lib.hid (abox_keep HBX.out k1)
        have HB := Lib.hid (Base.then_below HB.out k1)
        obtain ⟨⟨q0, q1⟩, z0, z1⟩ := abox_facts HBX.out
        clear k1 HI1
        go_wp2
        refine bodyPost_ret (v := .tuple #[.agg #[.int .i64 (0), .int .i64 (0)], .bool false]) (by simp [results, Tryz.results23, go_sem, q0, q1]) rfl ⟨ask_ret HE.out, ?_⟩
        first | exact (HB.out.setCell (Nat.le_refl _) _).setCell (Nat.le_refl _) _ | exact HB.out | exact (Below.refl _ _).alloc (Nat.le_refl _) _
      | true =>
        have n1a : 0 ≤ p1 := n1.1
        have d1 : decide (0 ≤ p1) = true := by simpa using n1a
        by_cases hk1 : k + 1 < s.size
        · have hk1' : (k : Int) + 1 < ((s.size : Nat) : Int) := by omega
          have hkz : ¬ s.size ≤ k + 1 := by omega
          cases b2 with
          | false =>
            have HE : Hid (pask s.data.toList = ((0, 0), false)) := Lib.hid (by rw [HP.out]; simp [hkz])
            clear hone hkn hkz HP HZ1 HZ2
            go_wp2_with (fail)
            go_at_call 42
            refine (HI1.out _).mono ?_
            rintro e w2 ⟨rfl, k1⟩
            have HBX := Lib.hid (abox_keep HBX.out k1)
            have HB := Lib.hid (Base.then_below HB.out k1)
            clear k1 HI1
            go_wp2_with (fail)
            go_at_call 42
            refine (HI2.out _).mono ?_
            rintro e w3 ⟨rfl, k1⟩
            have HBX := Lib.hid (abox_keep HBX.out k1)
            have HB := Lib.hid (Base.then_below HB.out k1)
            obtain ⟨⟨q0, q1⟩, z0, z1⟩ := abox_facts HBX.out
            clear k1
            go_wp2
            refine bodyPost_ret (v := .tuple #[.agg #[.int .i64 (0), .int .i64 (0)], .bool false]) (by simp [results, Tryz.results23, go_sem, q0, q1]) rfl ⟨ask_ret HE.out, ?_⟩
            first | exact (HB.out.setCell (Nat.le_refl _) _).setCell (Nat.le_refl _) _ | exact HB.out | exact (Below.refl _ _).alloc (Nat.le_refl _) _
          | true =>
            by_cases hle : p2 < p1
            · have HE : Hid (pask s.data.toList = ((0, 0), false)) := Lib.hid (by rw [HP.out, if_neg (by rintro ⟨_, _, h⟩; omega), if_neg (by rintro ⟨_, h⟩; exact hkz h), if_neg (by rintro ⟨_, h⟩; exact hkn h)])
              have d2 : decide (p2 < p1) = true := by simpa using hle
              clear hone hkn hkz HP HZ1 HZ2
              go_wp2_with (fail)
              go_at_call 42
              refine (HI1.out _).mono ?_
              rintro e w2 ⟨rfl, k1⟩
              have HBX := Lib.hid (abox_keep HBX.out k1)
              have HB := Lib.hid (Base.then_below HB.out k1)
              clear k1 HI1
              go_wp2_with (fail)
              go_at_call 42
              refine (HI2.out _).mono ?_
              rintro e w3 ⟨rfl, k1⟩
              have HBX := Lib.hid (abox_keep HBX.out k1)
              have HB := Lib.hid (Base.then_below HB.out k1)
              obtain ⟨⟨q0, q1⟩, z0, z1⟩ := abox_facts HBX.out
              clear k1
              go_wp2
              refine bodyPost_ret (v := .tuple #[.agg #[.int .i64 (0), .int .i64 (0)], .bool false]) (by simp [results, Tryz.results23, go_sem, q0, q1]) rfl ⟨ask_ret HE.out, ?_⟩
              first | exact (HB.out.setCell (Nat.le_refl _) _).setCell (Nat.le_refl _) _ | exact HB.out | exact (Below.refl _ _).alloc (Nat.le_refl _) _
            · have HE : Hid (pask s.data.toList = ((p1, p2), true)) := Lib.hid (by rw [HP.out, if_pos ⟨rfl, rfl, by omega⟩])
              have d2 : decide (p2 < p1) = false := by simpa using hle
              clear hone hkn hkz HP HZ1 HZ2
              go_wp2_with (fail)
              go_at_call 42
              refine (HI1.out _).mono ?_
              rintro e w2 ⟨rfl, k1⟩
              have HBX := Lib.hid (abox_keep HBX.out k1)
              have HB := Lib.hid (Base.then_below HB.out k1)
              clear k1 HI1
              go_wp2_with (fail)
              go_at_call 42
              refine (HI2.out _).mono ?_
              rintro e w3 ⟨rfl, k1⟩
              have HBX := Lib.hid (abox_keep HBX.out k1)
              have HB := Lib.hid (Base.then_below HB.out k1)
              obtain ⟨⟨q0, q1⟩, z0, z1⟩ := abox_facts HBX.out
              clear k1
              go_wp2
              refine bodyPost_ret (v := .tuple #[.agg #[.int .i64 (p1), .int .i64 (p2)], .bool true]) (by simp [results, Tryz.results23, go_sem, q0, q1]) rfl ⟨ask_ret HE.out, ?_⟩
              first | exact (HB.out.setCell (Nat.le_refl _) _).setCell (Nat.le_refl _) _ | exact HB.out | exact (Below.refl _ _).alloc (Nat.le_refl _) _
        · have hk1' : ¬ (k : Int) + 1 < ((s.size : Nat) : Int) := by omega
          have HE : Hid (pask s.data.toList = ((p1, -1), true)) := Lib.hid (by
            have z2 := HZ2.out (by omega)
            rw [HP.out, (Prod.mk.inj z2).2, if_neg (by rintro ⟨_, h, _⟩; cases h), if_pos ⟨rfl, by omega⟩])
          clear hone hkn HP HZ1 HZ2 HI2
          go_wp2_with (fail)
          go_at_call 42
          refine (HI1.out _).mono ?_
          rintro e w2 ⟨rfl, k1⟩
          have HBX := Lib.hid (abox_keep HBX.out k1)
          have HB := Lib.hid (Base.then_below HB.out k1)
          obtain ⟨⟨q0, q1⟩, z0, z1⟩ := abox_facts HBX.out
          clear k1 HI1
          go_wp2
          refine bodyPost_ret (v := .tuple #[.agg #[.int .i64 (p1), .int .i64 (-1)], .bool true]) (by simp [results, Tryz.results23, go_sem, q0, q1]) rfl ⟨ask_ret HE.out, ?_⟩
          first | exact (HB.out.setCell (Nat.le_refl _) _).setCell (Nat.le_refl _) _ | exact HB.out | exact (Below.refl _ _).alloc (Nat.le_refl _) _
    · obtain rfl : k = 0 := by omega
      have z1 := HZ1.out rfl
      obtain ⟨rfl, rfl⟩ := Prod.mk.inj z1
      have h2 : 1 < s.size := by omega
      have h2' : (1 : Int) < ((s.size : Nat) : Int) := by omega
      cases b2 with
      | false =>
        have HE : Hid (pask s.data.toList = ((0, 0), false)) := Lib.hid (by rw [HP.out]; simp)
        clear hone z1 HP HZ1 HZ2 HI1 hk0
        go_wp2_with (fail)
        go_at_call 42
        refine (HI2.out _).mono ?_
        rintro e w3 ⟨rfl, k1⟩
        have HBX := Lib.hid (abox_keep HBX.out k1)
        have HB := Lib.hid (Base.then_below HB.out k1)
        obtain ⟨⟨q0, q1⟩, z0, z1⟩ := abox_facts HBX.out
        clear k1
        go_wp2
        refine bodyPost_ret (v := .tuple #[.agg #[.int .i64 (0), .int .i64 (0)], .bool false]) (by simp [results, Tryz.results23, go_sem, q0, q1]) rfl ⟨ask_ret HE.out, ?_⟩
        first | exact (HB.out.setCell (Nat.le_refl _) _).setCell (Nat.le_refl _) _ | exact HB.out | exact (Below.refl _ _).alloc (Nat.le_refl _) _
      | true =>
        have HE : Hid (pask s.data.toList = ((-1, p2), true)) := Lib.hid (by rw [HP.out]; simp)
        clear hone z1 HP HZ1 HZ2 HI1 hk0
        go_wp2_with (fail)
        go_at_call 42
        refine (HI2.out _).mono ?_
        rintro e w3 ⟨rfl, k1⟩
        have HBX := Lib.hid (abox_keep HBX.out k1)
        have HB := Lib.hid (Base.then_below HB.out k1)
        obtain ⟨⟨q0, q1⟩, z0, z1⟩ := abox_facts HBX.out
        clear k1
        go_wp2
        refine bodyPost_ret (v := .tuple #[.agg #[.int .i64 (-1), .int .i64 (p2)], .bool true]) (by simp [results, Tryz.results23, go_sem, q0, q1]) rfl ⟨ask_ret HE.out, ?_⟩
        first | exact (HB.out.setCell (Nat.le_refl _) _).setCell (Nat.le_refl _) _ | exact HB.out | exact (Below.refl _ _).alloc (Nat.le_refl _) _
theorem spec_ask (l : List UInt8) (w : World) (hl : l.length ≤ 1048576) : Calls Tryz.prog 23 #[.string ⟨l.toArray⟩] w (AskEnd l w) := spec_ask_s ⟨l.toArray⟩ w (by simpa [ByteArray.size] using hl)
end Go.Proofs.YtobhdfkhfmpdlaaGreatDoor.Rng

/-
  PLAIN FACTS on the bytes of a text, one by one.
-/
namespace Go.Proofs.YtobhdfkhfmpdlaaGreatDoor.Tx
open Go
set_option linter.unusedVariables false
set_option maxRecDepth 1000000

theorem take_snoc (s : ByteArray) (k : Nat) (h : k < s.size) : s.data.toList.take (k + 1) = s.data.toList.take k ++ [s[k]] := by
  rw [List.take_succ_eq_append_getElem (by simpa using h)]; rfl
theorem drop_cons (s : ByteArray) (k : Nat) (h : k < s.size) : s.data.toList.drop k = s[k] :: s.data.toList.drop (k + 1) := by
  rw [List.drop_eq_getElem_cons (by simpa using h)]; rfl
theorem list_len (s : ByteArray) : s.data.toList.length = s.size := by rw [Array.length_toList]; rfl
theorem eq_nat {c : UInt8} {n : Nat} (hn : n < 256) : ((c.toNat : Int) == (n : Int)) = (c == UInt8.ofNat n) := by
  rw [Bool.eq_iff_iff, beq_iff_eq, beq_iff_eq]
  constructor
  · intro h; exact UInt8.toNat_inj.1 (by simp; omega)
  · intro h; rw [h]; simp; omega
theorem e34 (c : UInt8) : ((c.toNat : Int) == 34) = (c == 34) := eq_nat (n := 34) (by omega)
theorem e92 (c : UInt8) : ((c.toNat : Int) == 92) = (c == 92) := eq_nat (n := 92) (by omega)
theorem e44 (c : UInt8) : ((c.toNat : Int) == 44) = (c == 44) := eq_nat (n := 44) (by omega)

end Go.Proofs.YtobhdfkhfmpdlaaGreatDoor.Tx

/-
  CONTRACTS of the program's quoteEnd, addPart and SplitList: at every text SplitList returns the parts between the commas outside quoted strings, trimmed, without the empty ones, in memory of its own; nothing that was there before is changed.
-/
namespace Go.Proofs.YtobhdfkhfmpdlaaGreatDoor.Tx
open Go Go.RowKit
set_option linter.unusedVariables false
set_option maxRecDepth 1000000

/-! where a quoted string ends -/
def QP (s : ByteArray) (Q k : Nat) : Prop := (k ≤ s.size ∧ k + qlen (s.data.toList.drop k) = Q) ∨ (k = s.size + 1 ∧ Q = s.size)
theorem qp_le {s : ByteArray} {Q k : Nat} (h : QP s Q k) : k ≤ s.size + 1 := by rcases h with h | h <;> omega
theorem qp_quote {s : ByteArray} {Q k : Nat} (h : QP s Q k) (hk : k < s.size) (hc : s[k] = 34) : k = Q := by
  rcases h with ⟨_, h⟩ | h
  · rw [drop_cons s k hk, qlen_cons, if_pos (by simp [hc])] at h; omega
  · omega
theorem qp_esc {s : ByteArray} {Q k : Nat} (h : QP s Q k) (hk : k < s.size) (hc : s[k] = 92) : QP s Q (k + 1 + 1) := by
  rcases h with ⟨_, h⟩ | h
  · rw [drop_cons s k hk, qlen_cons, if_neg (by rw [hc]; decide), if_pos (by rw [hc]; decide)] at h
    by_cases h1 : k + 1 < s.size
    · rw [drop_cons s (k + 1) h1, if_neg (by simp), List.drop_succ_cons, List.drop_zero] at h
      exact Or.inl ⟨by omega, by omega⟩
    · rw [List.drop_eq_nil_of_le (by rw [list_len]; omega), if_pos (by simp)] at h
      exact Or.inr ⟨by omega, by omega⟩
  · omega
theorem qp_plain {s : ByteArray} {Q k : Nat} (h : QP s Q k) (hk : k < s.size) (h1 : s[k] ≠ 34) (h2 : s[k] ≠ 92) : QP s Q (k + 1) := by
  rcases h with ⟨_, h⟩ | h
  · rw [drop_cons s k hk, qlen_cons, if_neg (by simpa using h1), if_neg (by simpa using h2)] at h
    exact Or.inl ⟨by omega, by omega⟩
  · omega
theorem qp_end {s : ByteArray} {Q k : Nat} (h : QP s Q k) (hk : s.size ≤ k) : s.size = Q := by
  rcases h with ⟨h0, h⟩ | h
  · have : k = s.size := by omega
    rw [List.drop_eq_nil_of_le (by rw [list_len]; omega), qlen_nil] at h; omega
  · omega
theorem ret_nat {a b : Nat} (h : a = b) : Ending.returned (.int .i64 (a : Int)) = .returned (.int .i64 (b : Int)) := by rw [h]

set_option maxHeartbeats 1000000 in
theorem quote_end (s : ByteArray) (st Q : Nat) (w : World) (hs : s.size ≤ 4194304) (h0 : st < s.size) (hQ : QP s Q (st + 1)) :
    Calls Tryz.prog 35 #[.string s, .int .i64 (st : Int)] w fun e w' => e = .returned (.int .i64 (Q : Int)) ∧ w = w' := by
  have HQ := Lib.hid hQ
  clear hQ
  go_enter Tryz.func35, Tryz.ntmps35
  go_wp2
  go_loop [5] (fun i => ∃ k : Nat, k ≤ s.size + 1 ∧ i = .int .i64 (k : Int) ∧ QP s Q k) (fun i => s.size + 1 - (intOf i).toNat)
  case atStart => exact ⟨st + 1, by omega, by go_num, HQ.out⟩
  case round =>
    clear HQ
    obtain ⟨k, hk, rfl, hq⟩ := hrel
    have HQ := Lib.hid hq
    clear hq
    by_cases hlt : k < s.size
    · by_cases hc : s[k] = 34
      · have h34 : ((s[k].toNat : Int) == 34) = true := by rw [e34]; simp [hc]
        have HE := Lib.hid (qp_quote HQ.out hlt hc)
        clear hc
        go_wp2
        go_ret
        exact ⟨ret_nat HE.out, rfl⟩
      · have h34 : ((s[k].toNat : Int) == 34) = false := by rw [e34]; simpa using hc
        by_cases hc2 : s[k] = 92
        · have h92 : ((s[k].toNat : Int) == 92) = true := by rw [e92]; simp [hc2]
          have HE := Lib.hid (qp_esc HQ.out hlt hc2)
          have HL := Lib.hid (qp_le HE.out)
          clear hc hc2
          go_wp2
          go_round
          case rel => exact ⟨k + 1 + 1, HL.out, by go_num, HE.out⟩
          case measure => simp [intOf]; omega
        · have h92 : ((s[k].toNat : Int) == 92) = false := by rw [e92]; simpa using hc2
          have HE := Lib.hid (qp_plain HQ.out hlt hc hc2)
          clear hc hc2
          go_wp2
          go_round
          case rel => exact ⟨k + 1, by omega, by go_num, HE.out⟩
          case measure => simp [intOf]; omega
    · have HE := Lib.hid (qp_end HQ.out (by omega))
      go_wp2
      go_ret
      exact ⟨ret_nat HE.out, rfl⟩

/-! one more part -/
theorem own_below {w w' : World} {B : Nat} {v : Value} {xs : List (List UInt8)} (h : Strs.Own w B v xs) (hb : Below w.heap.size w w') : Strs.Own w' B v xs := by
  obtain ⟨hl, hc⟩ := h
  refine ⟨hl, ?_⟩
  rcases hc with h0 | ⟨g, cap, cur, rfl, h1, h2, h3⟩
  · exact Or.inl h0
  · have hlt : g < w.heap.size := by
      rcases Nat.lt_or_ge g w.heap.size with h' | h'
      · exact h'
      · rw [Array.getElem?_eq_none h'] at h2; cases h2
    exact Or.inr ⟨g, cap, cur, rfl, h1, by rw [hb.block g hlt]; exact h2, h3⟩
def Added (B : Nat) (xs : List (List UInt8)) (w : World) (e : Ending) (w' : World) : Prop := ∃ v, e = .returned v ∧ Strs.Own w' B v xs ∧ Below B w w'

set_option maxHeartbeats 1000000 in
theorem add_part (s : ByteArray) (B : Nat) (v : Value) (xs : List (List UInt8)) (w : World) (hs : s.size ≤ 4194304) (hx : xs.length ≤ 8000000) (hown : Strs.Own w B v xs) (hB : B ≤ w.heap.size) :
    Calls Tryz.prog 36 #[v, .string s] w (Added B (xs ++ keep [s.data.toList]) w) := by
  obtain ⟨i0, hi, hz0, hz1, hz2⟩ := info_parts Strs.info_str
  have c1 := impl_trim s w (by omega)
  rw [keep_one]
  generalize trim s.data.toList = t at c1 ⊢
  have HO := Lib.hid hown
  clear hown
  cases t with
  | nil =>
    rw [if_pos rfl, List.append_nil]
    go_enter Tryz.func36, Tryz.ntmps36
    go_wp2_with (fail)
    go_at_call 51
    refine c1.mono ?_
    rintro e w1 ⟨rfl, hb1⟩
    have HE := Lib.hid (And.intro (own_below HO.out hb1) (hb1.mono hB))
    clear hb1 HO
    go_wp2
    go_ret
    exact ⟨_, rfl, HE.out.1, HE.out.2⟩
  | cons c r =>
    rw [if_neg (by simp)]
    go_enter Tryz.func36, Tryz.ntmps36
    go_wp2_with (fail)
    go_at_call 51
    refine c1.mono ?_
    rintro e w1 ⟨rfl, hb1⟩
    have hown1 := own_below HO.out hb1
    have hs1 := hb1.size
    have HB := Lib.hid (hb1.mono hB)
    have hlen : (Strs.svs xs).length = xs.length := Strs.svs_len xs
    clear hb1 HO
    go_wp2_with (at_builtin; refine wpList_append_own _ rfl (.tmp 10) (.tmp 12) 41 rfl B 9 i0 (.string ⟨#[]⟩) 1 16 Tryz.underlying41 hi hz0 hz1 hz2 rfl (by decide) _ _ _ rfl (hown1.alloc _) ⟨w1.heap.size, 0, none⟩ 1 1 [Strs.sv (c :: r)] rfl rfl (Strs.news_one _ _ _) (Strs.sv_one _) (by unfold maxLen; omega) (by omega) (by simp; omega) ?_; intro v' w2 hown' hgrow _)
    have HE : Hid (Strs.Own w2 B v' (xs ++ [c :: r]) ∧ Below B w1 w2) := Lib.hid ⟨by show w2.ownsRow B 9 1 v' (xs ++ [c :: r]).length (Strs.svs (xs ++ [c :: r])); rw [List.length_append, Strs.svs_more]; exact hown', ((Below.refl B w1).alloc (by omega) _).grown hgrow (by simp; omega) (fun k e => (hown1.lt k e).1)⟩
    clear hown1 hown' hgrow
    go_wp2
    go_ret
    exact ⟨_, rfl, HE.out.1, HB.out.trans HE.out.2⟩

/-! the parts -/
def seg (l : List UInt8) (f k : Nat) : List UInt8 := (l.drop f).take (k - f)
theorem seg_same (l : List UInt8) (k : Nat) : seg l k k = [] := by unfold seg; simp
theorem seg_all {l : List UInt8} {f k : Nat} (h : l.length ≤ k) : seg l f k = l.drop f := by unfold seg; exact List.take_of_length_le (by rw [List.length_drop]; omega)
theorem seg_more {l : List UInt8} {f k m : Nat} (h : f ≤ k) : seg l f (k + m) = seg l f k ++ (l.drop k).take m := by
  unfold seg
  rw [show k + m - f = (k - f) + m by omega, List.take_add, List.drop_drop, show f + (k - f) = k by omega]
theorem seg_ext {s : ByteArray} {f k : Nat} : (s.extract f k).data.toList = seg s.data.toList f k := by unfold seg; simp
theorem seg_tail {s : ByteArray} {f k : Nat} (h : s.size ≤ k) : (s.extract f s.size).data.toList = seg s.data.toList f k := by
  rw [seg_ext]; unfold seg
  rw [List.take_of_length_le (by rw [List.length_drop, list_len]; exact Nat.le_refl _), List.take_of_length_le (by rw [List.length_drop, list_len]; omega)]
theorem keep_cons (x : List UInt8) (L : List (List UInt8)) : keep (x :: L) = keep [x] ++ keep L := keep_append [x] L

/-- The state of SplitList: k bytes are read, the part that is open began at f; xs are put down. -/
def SP (s : ByteArray) (k f : Nat) (xs : List (List UInt8)) : Prop := f ≤ k ∧ f ≤ s.size ∧ xs.length ≤ k ∧ xs ++ keep (push (seg s.data.toList f k) (cuts false (s.data.toList.drop k))) = split s.data.toList
theorem sp_start (s : ByteArray) : SP s 0 0 [] := ⟨Nat.le_refl _, Nat.zero_le _, Nat.le_refl _, by rw [seg_same, push_nil, List.drop_zero]; rfl⟩
theorem sp_plain {s : ByteArray} {k f : Nat} {xs : List (List UInt8)} (h : SP s k f xs) (hk : k < s.size) (h1 : s[k] ≠ 34) (h2 : s[k] ≠ 44) : SP s (k + 1) f xs := by
  obtain ⟨a, b, b', c⟩ := h
  refine ⟨by omega, b, by omega, ?_⟩
  rw [drop_cons s k hk, cuts_plain false _ (fun e => by cases e) h1 (fun _ => h2), push_push] at c
  rw [seg_more a, drop_cons s k hk]
  exact c
theorem sp_quote {s : ByteArray} {k f Q : Nat} {xs : List (List UInt8)} (h : SP s k f xs) (hk : k < s.size) (h1 : s[k] = 34) (hQ : Q = k + 1 + qlen (s.data.toList.drop (k + 1))) : Q ≤ s.size ∧ SP s (Q + 1) f xs := by
  obtain ⟨a, b, b', c⟩ := h
  obtain ⟨q1, q2⟩ := cuts_qlen _ (s.data.toList.drop (k + 1)) (Nat.le_refl _)
  have hl : (s.data.toList.drop (k + 1)).length = s.size - (k + 1) := by rw [List.length_drop, list_len]
  refine ⟨by omega, by omega, b, by omega, ?_⟩
  rw [drop_cons s k hk, h1, cuts_quote false _ rfl] at c
  show _ ++ keep (push (seg _ f (Q + 1)) (cuts false (List.drop (Q + 1) _))) = _
  have e2 : s.data.toList.drop (k + (1 + (qlen (s.data.toList.drop (k + 1)) + 1))) = (s.data.toList.drop (k + 1)).drop (qlen (s.data.toList.drop (k + 1)) + 1) := by
    rw [List.drop_drop]; congr 1; omega
  rw [show Q + 1 = k + (1 + (qlen (s.data.toList.drop (k + 1)) + 1)) by omega, seg_more a, e2]
  have e1 : (s.data.toList.drop k).take (1 + (qlen (s.data.toList.drop (k + 1)) + 1)) = 34 :: (s.data.toList.drop (k + 1)).take (qlen (s.data.toList.drop (k + 1)) + 1) := by
    rw [drop_cons s k hk, h1, Nat.add_comm 1, List.take_succ_cons]
  rw [e1]
  have hq2 : cuts (!false) (s.data.toList.drop (k + 1)) = _ := q2
  rw [hq2] at c
  generalize s.data.toList.drop (k + 1) = r at *
  by_cases hq : qlen r < r.length
  · rw [if_pos hq, push_push, push_push] at c
    rw [List.append_assoc] at c
    exact c
  · rw [if_neg hq] at c
    rw [List.drop_eq_nil_of_le (by omega), cuts_nil, List.take_of_length_le (by omega)]
    simpa [push] using c
theorem sp_comma {s : ByteArray} {k f : Nat} {xs : List (List UInt8)} (h : SP s k f xs) (hk : k < s.size) (h1 : s[k] = 44) : SP s (k + 1) (k + 1) (xs ++ keep [(s.extract f k).data.toList]) := by
  obtain ⟨a, b, b', c⟩ := h
  have hkl : (keep [(s.extract f k).data.toList]).length ≤ 1 := by rw [keep_one]; split <;> simp
  refine ⟨Nat.le_refl _, by omega, by rw [List.length_append]; omega, ?_⟩
  rw [drop_cons s k hk, cuts_comma _ h1] at c
  have : push (seg s.data.toList f k) ([] :: cuts false (s.data.toList.drop (k + 1))) = seg s.data.toList f k :: cuts false (s.data.toList.drop (k + 1)) := by simp [push]
  rw [this, keep_cons] at c
  rw [seg_same, push_nil, seg_ext, List.append_assoc]
  exact c
theorem sp_end {s : ByteArray} {k f : Nat} {xs : List (List UInt8)} (h : SP s k f xs) (hk : s.size ≤ k) : xs ++ keep [(s.extract f s.size).data.toList] = split s.data.toList := by
  obtain ⟨a, b, b', c⟩ := h
  rw [List.drop_eq_nil_of_le (by rw [list_len]; exact hk), cuts_nil] at c
  rw [seg_tail hk]
  simpa [push] using c

/-- How SplitList ends. -/
def SplitEnd (l : List UInt8) (w : World) (e : Ending) (w' : World) : Prop := ∃ v, e = .returned v ∧ Strs.Own w' w.heap.size v (split l) ∧ Below w.heap.size w w'

set_option maxHeartbeats 1000000 in
theorem impl_split (s : ByteArray) (w : World) (hs : s.size ≤ 4194304) :
    Calls Tryz.prog 14 #[.string s] w (SplitEnd s.data.toList w) := by
  have HO := Lib.hid (Strs.own_lit_nil w)
  go_enter Tryz.func14, Tryz.ntmps14
  go_wp2
  go_loopw [3, 4, 5] (fun v f i wr => ∃ (k fr : Nat) (xs : List (List UInt8)), k ≤ s.size + 1 ∧ i = .int .i64 (k : Int) ∧ f = .int .i64 (fr : Int) ∧ Strs.Own wr w.heap.size v xs ∧ SP s k fr xs ∧ Below w.heap.size w wr) (fun _ _ i _ => s.size + 1 - (intOf i).toNat)
  case atStart => exact ⟨0, 0, [], by omega, rfl, rfl, HO.out, sp_start s, (Below.refl _ _).alloc (Nat.le_refl _) _⟩
  case round =>
    clear HO
    obtain ⟨k, fr, xs, hk, rfl, rfl, hown, hsp, hb⟩ := hrel
    have HS := Lib.hid hsp
    have hf1 : fr ≤ k := hsp.1
    have hf2 : fr ≤ s.size := hsp.2.1
    have hfi : (fr : Int) ≤ (k : Int) := by omega
    have HX := Lib.hid hsp.2.2.1
    clear hsp
    by_cases hlt : k < s.size
    · by_cases hc : s[k] = 34
      · have h34 : ((s[k].toNat : Int) == 34) = true := by rw [e34]; simp [hc]
        obtain ⟨Q, hQ⟩ : ∃ Q, Q = k + 1 + qlen (s.data.toList.drop (k + 1)) := ⟨_, rfl⟩
        obtain ⟨hQ1, hSP⟩ := sp_quote HS.out hlt hc hQ
        have HE := Lib.hid hSP
        have HQ := Lib.hid hQ
        have HO := Lib.hid (And.intro hown hb)
        have hQk : k < Q := by omega
        clear hc hQ hSP hown hb
        go_wp2_with (fail)
        go_at_call 35
        refine (quote_end s k Q _ hs hlt (Or.inl ⟨by omega, HQ.out.symm⟩)).mono ?_
        rintro e w' ⟨rfl, rfl⟩
        go_wp2
        go_roundw
        case rel => exact ⟨Q + 1, fr, xs, by omega, by go_num, rfl, HO.out.1, HE.out, HO.out.2⟩
        case measure => simp [intOf]; omega
      · have h34 : ((s[k].toNat : Int) == 34) = false := by rw [e34]; simpa using hc
        by_cases hc2 : s[k] = 44
        · have h44 : ((s[k].toNat : Int) == 44) = true := by rw [e44]; simp [hc2]
          have HE := Lib.hid (sp_comma HS.out hlt hc2)
          have hbs := hb.size
          have HB := Lib.hid hb
          have HO := Lib.hid hown
          clear hc hc2 hb hown
          go_wp2_with (fail)
          go_at_call 36
          refine (add_part (s.extract fr k) w.heap.size _ xs _ (by simp; omega) (by have := HX.out; omega) HO.out (by omega)).mono ?_
          rintro e w1 ⟨v1, rfl, hown1, hb1⟩
          have H1 := Lib.hid (And.intro hown1 (HB.out.trans hb1))
          clear hown1 hb1
          go_wp2
          go_roundw
          case rel => exact ⟨k + 1, k + 1, _, by omega, by go_num, by go_num, H1.out.1, HE.out, H1.out.2⟩
          case measure => simp [intOf]; omega
        · have h44 : ((s[k].toNat : Int) == 44) = false := by rw [e44]; simpa using hc2
          have HE := Lib.hid (sp_plain HS.out hlt hc hc2)
          have HO := Lib.hid (And.intro hown hb)
          clear hc hc2 hown hb
          go_wp2
          go_roundw
          case rel => exact ⟨k + 1, fr, xs, by omega, by go_num, rfl, HO.out.1, HE.out, HO.out.2⟩
          case measure => simp [intOf]; omega
    · have HE := Lib.hid (sp_end HS.out (by omega))
      have hbs := hb.size
      have HB := Lib.hid hb
      have HO := Lib.hid hown
      clear hb hown
      go_wp2_with (fail)
      go_at_call 36
      refine (add_part (s.extract fr s.size) w.heap.size _ xs _ (by simp; omega) (by have := HX.out; omega) HO.out (by omega)).mono ?_
      rintro e w1 ⟨v1, rfl, hown1, hb1⟩
      have H1 := Lib.hid (And.intro hown1 (HB.out.trans hb1))
      clear hown1 hb1
      go_wp2
      go_ret
      exact ⟨_, rfl, by rw [← HE.out]; exact H1.out.1, H1.out.2⟩
end Go.Proofs.YtobhdfkhfmpdlaaGreatDoor.Tx
