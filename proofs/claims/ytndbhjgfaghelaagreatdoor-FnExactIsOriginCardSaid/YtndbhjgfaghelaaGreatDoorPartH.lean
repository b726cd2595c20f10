/-
  CONTRACTS AND PLAIN FACTS, several texts in one; each says in its own words what it proves.
-/
import Derived.Test.YtndbhjgfaghelaaGreatDoorPartG
import Derived.Test.YtndbhjgfaghelaaGreatDoorPartC
import Derived.Lib.ConvBytes
import Derived.Lib.AtoiAllMem
import Derived.Laws.Strings3
import Derived.Laws.Closers25
import Derived.Laws.Closers25b
import Derived.WalkKit
import Derived.IntWalk
import Derived.Test.YtndbhjgfaghelaaGreatDoorPartA
import Derived.Deep.QuietTactic
import Derived.BigQuiet
import Derived.Test.YtndbhjgfaghelaaGreatDoorPartD
import Derived.Test.YtndbhjgfaghelaaGreatDoorPartB
import Derived.Lib.AppendStr
import Derived.Laws.DeepStrings4
import Derived.Laws.Concat
set_option linter.unusedSimpArgs false
set_option linter.unusedVariables false

/-
  CONTRACTS of the library's ParseUint at a text of two bytes, base 16 and 8 bits: the number that the two digits mean, or an error; nothing that was there before is changed.
-/
namespace Go.Proofs.YtndbhjgfaghelaaGreatDoor.Nt
open Go Go.RowKit Bys
set_option linter.unusedVariables false
set_option maxRecDepth 1000000
set_option maxRecDepth 1000000

theorem or32 : ∀ r : Fin 256, bits .or .u8 ((r.1 : Nat) : Int) 32 = (if r.1 / 32 % 2 = 1 then (r.1 : Int) else (r.1 : Int) + 32) := by decide
/-- What is read up to place k of two digits x, y. -/
def acc (x y k : Nat) : Nat := if k = 0 then 0 else if k = 1 then x else 16 * x + y
def PuEnd (x y : Nat) (w : World) (e : Ending) (w' : World) : Prop := (e = .returned (.tuple #[.int .u64 (if x < 16 ∧ y < 16 then (16 * x + y : Nat) else 0 : Int), if x < 16 ∧ y < 16 then .nilIface else .iface 199 (.int .i64 2)])) ∧ Below w.heap.size w w'

/-- What a byte is for the reader: a digit, a small or a capital letter of the sixteen, or neither. -/
theorem hex_kind (c : UInt8) : (48 ≤ c.toNat ∧ c.toNat ≤ 57 ∧ hexn c = c.toNat - 48) ∨ (97 ≤ c.toNat ∧ c.toNat ≤ 102 ∧ hexn c = c.toNat - 87) ∨ (65 ≤ c.toNat ∧ c.toNat ≤ 70 ∧ hexn c = c.toNat - 55) ∨ (hexn c = 16 ∧ ¬ (48 ≤ c.toNat ∧ c.toNat ≤ 57) ∧ ¬ (97 ≤ c.toNat ∧ c.toNat ≤ 102) ∧ ¬ (65 ≤ c.toNat ∧ c.toNat ≤ 70)) := by
  unfold hexn
  by_cases h1 : 48 ≤ c.toNat ∧ c.toNat ≤ 57
  · exact Or.inl ⟨h1.1, h1.2, if_pos h1⟩
  by_cases h2 : 97 ≤ c.toNat ∧ c.toNat ≤ 102
  · exact Or.inr (Or.inl ⟨h2.1, h2.2, by rw [if_neg h1, if_pos h2]⟩)
  by_cases h3 : 65 ≤ c.toNat ∧ c.toNat ≤ 70
  · exact Or.inr (Or.inr (Or.inl ⟨h3.1, h3.2, by rw [if_neg h1, if_neg h2, if_pos h3]⟩))
  · exact Or.inr (Or.inr (Or.inr ⟨by rw [if_neg h1, if_neg h2, if_neg h3], h1, h2, h3⟩))
theorem or_small {n : Nat} (h : 97 ≤ n ∧ n ≤ 102) : bits .or .u8 (n : Int) 32 = (n : Int) := by
  have := or32 ⟨n, by omega⟩; simp only at this; rw [this, if_pos (by omega)]
theorem or_big {n : Nat} (h : 65 ≤ n ∧ n ≤ 70) : bits .or .u8 (n : Int) 32 = (n : Int) + 32 := by
  have := or32 ⟨n, by omega⟩; simp only at this; rw [this, if_neg (by omega)]
/-- .. and of the others no letter below g. -/
theorem or_no {n : Nat} (h0 : n < 256) (h1 : ¬ (97 ≤ n ∧ n ≤ 102)) (h2 : ¬ (65 ≤ n ∧ n ≤ 70)) : ¬ (97 ≤ bits .or .u8 (n : Int) 32 ∧ bits .or .u8 (n : Int) 32 ≤ 102) := by
  have := or32 ⟨n, h0⟩; simp only at this; rw [this]; split <;> omega

set_option maxHeartbeats 8000000 in
theorem pu_in (a b : UInt8) (w : World) : Calls Tryz.prog 243 #[.string ⟨#[a, b]⟩, .int .i64 16, .int .i64 8] w (PuEnd (hexn a) (hexn b) w) := by
  have hcv := Lib.run_convert_string_bytes (P := Tryz.prog) w 9 22 5 ⟨#[a, b]⟩ (u := .string) Tryz.underlying9 Tryz.underlying22 Tryz.underlying5
  have hB : ∀ j, j < 2 → (Lib.bytesWorld w 5 ⟨#[a, b]⟩).cell? ⟨w.heap.size, j, none⟩ = some (.int .u8 (([a, b].getD j 0).toNat : Int)) := fun j hj => Lib.bytesWorld_cell w 5 ⟨#[a, b]⟩ j hj
  have hbw : Below w.heap.size w (Lib.bytesWorld w 5 ⟨#[a, b]⟩) := Joins.below_bytesWorld _ _ _ _ (Nat.le_refl _)
  obtain ⟨W1, hW1⟩ : ∃ W1, W1 = Lib.bytesWorld w 5 ⟨#[a, b]⟩ := ⟨_, rfl⟩
  rw [← hW1] at hcv hB hbw
  clear hW1
  have HBW := Lib.hid hbw
  have HBB := Lib.hid hB
  clear hbw hB
  have hmv : IntKind.u64.wrap (IntKind.u64.wrap 256 - 1) = 255 := by rw [IntKind.wrap_u64, IntKind.wrap_u64]; decide
  have hsz : (⟨#[a, b]⟩ : ByteArray).size = 2 := rfl
  unfold PuEnd
  obtain ⟨v1, hv1⟩ : ∃ v : Int, v = (if hexn a < 16 ∧ hexn b < 16 then (16 * hexn a + hexn b : Nat) else 0 : Int) := ⟨_, rfl⟩
  obtain ⟨v2, hv2⟩ : ∃ v : Value, v = (if hexn a < 16 ∧ hexn b < 16 then .nilIface else .iface 199 (.int .i64 2)) := ⟨_, rfl⟩
  rw [← hv1, ← hv2]
  have HV : Hid (v1 = (if hexn a < 16 ∧ hexn b < 16 then (16 * hexn a + hexn b : Nat) else 0 : Int) ∧ v2 = (if hexn a < 16 ∧ hexn b < 16 then .nilIface else .iface 199 (.int .i64 2))) := Lib.hid ⟨hv1, hv2⟩
  clear hv1 hv2
  go_enter Tryz.func243, Tryz.ntmps243
  go_wp2
  go_loop [12, 13, 101] (fun vu vn vi => ∃ (k : Nat) (n : Int), vu = .bool false ∧ vn = .int .u64 n ∧ vi = .int .i64 (k : Int) ∧ k ≤ 2 ∧ Hid (n = (acc (hexn a) (hexn b) k : Int) ∧ (1 ≤ k → hexn a < 16) ∧ (2 ≤ k → hexn b < 16)))
    (fun _ _ vi => 2 - (intOf vi).toNat)
  case atStart => exact ⟨0, 0, rfl, rfl, rfl, by omega, Lib.hid ⟨rfl, fun h => by omega, fun h => by omega⟩⟩
  case round =>
    obtain ⟨k, n, rfl, rfl, rfl, hk, HH⟩ := hrel
    by_cases hkn : k < 2
    · have hc := HBB.out k hkn
      have hki : (k : Int) < 2 := by omega
      -- the byte, what it is, and what the number is before it
      obtain ⟨c, hcd⟩ : ∃ c, c = [a, b].getD k 0 := ⟨_, rfl⟩
      rw [← hcd] at hc
      have HC := Lib.hid hcd
      clear hcd
      have hc256 : c.toNat < 256 := c.toNat_lt
      have n0 : 0 ≤ n ∧ n < 16 := by
        obtain ⟨e, h1, h2⟩ := HH.out
        rw [e]; unfold acc
        match k, hkn with
        | 0, _ => simp
        | 1, _ => have := h1 (by omega); simp; omega
      obtain ⟨n1, n2⟩ := n0
      have HN : Hid (hexn c < 16 → (16 * n + (hexn c : Int)) = (acc (hexn a) (hexn b) (k + 1) : Int) ∧ (1 ≤ k + 1 → hexn a < 16) ∧ (2 ≤ k + 1 → hexn b < 16)) := Lib.hid (fun hx => by
        obtain ⟨e, h1, h2⟩ := HH.out
        have hc' := HC.out
        match k, hkn with
        | 0, _ => obtain rfl : c = a := by simpa using hc'
                  rw [e]; exact ⟨by simp [acc], fun _ => hx, fun h => by omega⟩
        | 1, _ => obtain rfl : c = b := by simpa using hc'
                  rw [e]; exact ⟨by simp [acc], fun _ => h1 (by omega), fun _ => hx⟩)
      have HBad : Hid (¬ hexn c < 16 → v1 = 0 ∧ v2 = .iface 199 (.int .i64 2)) := Lib.hid (fun hx => by
        have hc' := HC.out
        have hnn : ¬ (hexn a < 16 ∧ hexn b < 16) := by
          match k, hkn with
          | 0, _ => obtain rfl : c = a := by simpa using hc'
                    exact fun h => hx h.1
          | 1, _ => obtain rfl : c = b := by simpa using hc'
                    exact fun h => hx h.2
        have := HV.out; rw [if_neg hnn, if_neg hnn] at this; exact this)
      have HB := Lib.hid HBW.out
      clear HH HC hkn
      rcases hex_kind c with ⟨p1, p2, p3⟩ | ⟨p1, p2, p3⟩ | ⟨p1, p2, p3⟩ | ⟨p3, p4, p5, p6⟩
      · have HN := Lib.hid (HN.out (by omega))
        rw [p3] at HN
        have q1 : 48 ≤ (c.toNat : Int) := by omega
        have q2 : (c.toNat : Int) ≤ 57 := by omega
        have HQ : Hid (((c.toNat - 48 : Nat) : Int) = (c.toNat : Int) - 48) := Lib.hid (by omega)
        rw [HQ.out] at HN
        clear p1 p2 p3 HBad HQ
        generalize (c.toNat : Int) = m at *
        have icut : n < 1152921504606846976 := by omega
        have iov : n * 16 + (m - 48) ≤ 255 := by omega
        have HM : Hid (n * 16 + (m - 48) = (acc (hexn a) (hexn b) (k + 1) : Int) ∧ (1 ≤ k + 1 → hexn a < 16) ∧ (2 ≤ k + 1 → hexn b < 16)) := Lib.hid (by have h := HN.out; rw [show n * 16 + (m - 48) = 16 * n + (m - 48) by omega]; exact h)
        clear HN hc256
        go_wp2
        refine ⟨⟨k + 1, n * 16 + (m - 48), rfl, (by first | rfl | (congr 1; omega)), (by first | rfl | (congr 1; omega)), by omega, HM⟩, by simp [intOf]; omega⟩
      · have HN := Lib.hid (HN.out (by omega))
        rw [p3] at HN
        have q1 : 97 ≤ (c.toNat : Int) := by omega
        have q2 : (c.toNat : Int) ≤ 102 := by omega
        have HQ : Hid (((c.toNat - 87 : Nat) : Int) = (c.toNat : Int) - 87) := Lib.hid (by omega)
        have HLW : Hid (∀ W, Calls Tryz.prog 273 #[.int .u8 (c.toNat : Int)] W fun e w' => e = .returned (.int .u8 ((c.toNat : Int))) ∧ w' = W) := Lib.hid (fun W => by have h := Tryz.internal_strconv_lower (c.toNat : Int) W; rw [or_small ⟨p1, p2⟩] at h; exact h)
        rw [HQ.out] at HN
        clear p1 p2 p3 HBad HQ hc256
        generalize (c.toNat : Int) = m at *
        have icut : n < 1152921504606846976 := by omega
        have iov : n * 16 + (m - 87) ≤ 255 := by omega
        have HM : Hid (n * 16 + (m - 87) = (acc (hexn a) (hexn b) (k + 1) : Int) ∧ (1 ≤ k + 1 → hexn a < 16) ∧ (2 ≤ k + 1 → hexn b < 16)) := Lib.hid (by have h := HN.out; rw [show n * 16 + (m - 87) = 16 * n + (m - 87) by omega]; exact h)
        clear HN
        go_wp2_with (go_at_call 273; refine (HLW.out _).mono ?_; rintro e w' ⟨rfl, rfl⟩)
        refine ⟨⟨k + 1, n * 16 + (m - 87), rfl, (by first | rfl | (congr 1; omega)), (by first | rfl | (congr 1; omega)), by omega, HM⟩, by simp [intOf]; omega⟩
      · have HN := Lib.hid (HN.out (by omega))
        rw [p3] at HN
        have q1 : 65 ≤ (c.toNat : Int) := by omega
        have q2 : (c.toNat : Int) ≤ 70 := by omega
        have HQ : Hid (((c.toNat - 55 : Nat) : Int) = (c.toNat : Int) - 55) := Lib.hid (by omega)
        have HLW : Hid (∀ W, Calls Tryz.prog 273 #[.int .u8 (c.toNat : Int)] W fun e w' => e = .returned (.int .u8 ((c.toNat : Int) + 32)) ∧ w' = W) := Lib.hid (fun W => by have h := Tryz.internal_strconv_lower (c.toNat : Int) W; rw [or_big ⟨p1, p2⟩] at h; exact h)
        rw [HQ.out] at HN
        clear p1 p2 p3 HBad HQ hc256
        generalize (c.toNat : Int) = m at *
        have icut : n < 1152921504606846976 := by omega
        have iov : n * 16 + (m - 55) ≤ 255 := by omega
        have HM : Hid (n * 16 + (m - 55) = (acc (hexn a) (hexn b) (k + 1) : Int) ∧ (1 ≤ k + 1 → hexn a < 16) ∧ (2 ≤ k + 1 → hexn b < 16)) := Lib.hid (by have h := HN.out; rw [show n * 16 + (m - 55) = 16 * n + (m - 55) by omega]; exact h)
        clear HN
        go_wp2_with (go_at_call 273; refine (HLW.out _).mono ?_; rintro e w' ⟨rfl, rfl⟩)
        refine ⟨⟨k + 1, n * 16 + (m - 55), rfl, (by first | rfl | (congr 1; omega)), (by first | rfl | (congr 1; omega)), by omega, HM⟩, by simp [intOf]; omega⟩
      · have HE := Lib.hid (HBad.out (by omega))
        have hz1 := or_no hc256 p5 p6
        have hz2 := bits_lo_u8 .or (c.toNat : Int) 32
        have hz3 := bits_hi_u8 .or (c.toNat : Int) 32
        have q1 : ¬ (48 ≤ (c.toNat : Int) ∧ (c.toNat : Int) ≤ 57) := by omega
        have q3 : 0 ≤ (c.toNat : Int) := by omega
        have q4 : (c.toNat : Int) ≤ 255 := by omega
        have HLW : Hid (∀ W, Calls Tryz.prog 273 #[.int .u8 (c.toNat : Int)] W fun e w' => e = .returned (.int .u8 (bits .or .u8 (c.toNat : Int) 32)) ∧ w' = W) := Lib.hid (fun W => Tryz.internal_strconv_lower (c.toNat : Int) W)
        generalize bits .or .u8 (c.toNat : Int) 32 = z at *
        clear p3 p4 p5 p6 HBad HN hc256
        generalize (c.toNat : Int) = m at *
        by_cases h95 : m = 95
        · subst h95
          by_cases g1 : 97 ≤ z
          · have g2 : 102 < z := by omega
            clear hz1 q1
            go_wp2_with (go_at_call 273; refine (HLW.out _).mono ?_; rintro e w' ⟨rfl, rfl⟩)
            all_goals go_ret2
            all_goals exact ⟨by rw [HE.out.1, HE.out.2] <;> rfl, HB.out⟩
          · clear hz1 q1
            go_wp2_with (go_at_call 273; refine (HLW.out _).mono ?_; rintro e w' ⟨rfl, rfl⟩)
            all_goals go_ret2
            all_goals exact ⟨by rw [HE.out.1, HE.out.2] <;> rfl, HB.out⟩
        · have h95' : (m == 95) = false := by simpa using h95
          by_cases g0 : 48 ≤ m
          · have g3 : 57 < m := by omega
            by_cases g1 : 97 ≤ z
            · have g2 : 102 < z := by omega
              clear hz1 q1 h95
              go_wp2_with (go_at_call 273; refine (HLW.out _).mono ?_; rintro e w' ⟨rfl, rfl⟩)
              all_goals go_ret2
              all_goals exact ⟨by rw [HE.out.1, HE.out.2] <;> rfl, HB.out⟩
            · clear hz1 q1 h95
              go_wp2_with (go_at_call 273; refine (HLW.out _).mono ?_; rintro e w' ⟨rfl, rfl⟩)
              all_goals go_ret2
              all_goals exact ⟨by rw [HE.out.1, HE.out.2] <;> rfl, HB.out⟩
          · by_cases g1 : 97 ≤ z
            · have g2 : 102 < z := by omega
              clear hz1 q1 h95
              go_wp2_with (go_at_call 273; refine (HLW.out _).mono ?_; rintro e w' ⟨rfl, rfl⟩)
              all_goals go_ret2
              all_goals exact ⟨by rw [HE.out.1, HE.out.2] <;> rfl, HB.out⟩
            · clear hz1 q1 h95
              go_wp2_with (go_at_call 273; refine (HLW.out _).mono ?_; rintro e w' ⟨rfl, rfl⟩)
              all_goals go_ret2
              all_goals exact ⟨by rw [HE.out.1, HE.out.2] <;> rfl, HB.out⟩
    · have HE : Hid (v1 = n ∧ v2 = .nilIface) := Lib.hid (by
        obtain ⟨e, h1, h2⟩ := HH.out
        have hk2 : k = 2 := by omega
        subst hk2
        have hx : hexn a < 16 ∧ hexn b < 16 := ⟨h1 (by omega), h2 (by omega)⟩
        have h := HV.out
        rw [if_pos hx, if_pos hx] at h
        exact ⟨by rw [h.1, e]; rfl, h.2⟩)
      have hki : ¬ (k : Int) < 2 := by omega
      have HB := Lib.hid HBW.out
      clear HH
      go_wp2
      go_ret2
      exact ⟨by rw [HE.out.1, HE.out.2] <;> rfl, HB.out⟩

/-- .. the package's own: the error is some value that is not nil. -/
def PuOut (x y : Nat) (w : World) (e : Ending) (w' : World) : Prop := (if x < 16 ∧ y < 16 then e = .returned (.tuple #[.int .u64 ((16 * x + y : Nat) : Int), .nilIface]) else ∃ t v, e = .returned (.tuple #[.int .u64 0, .iface t v])) ∧ Below w.heap.size w w'
set_option maxHeartbeats 4000000 in
theorem pu_call (a b : UInt8) (w : World) (he : Par.Errs w) : Calls Tryz.prog 286 #[.string ⟨#[a, b]⟩, .int .i64 16, .int .i64 8] w (PuOut (hexn a) (hexn b) w) := by
  have HI := Lib.hid (pu_in a b w)
  unfold PuEnd at HI
  have HE := Lib.hid (fun W (hb : Below w.heap.size w W) => Par.errs_below he hb)
  unfold PuOut
  clear he
  by_cases hx : hexn a < 16 ∧ hexn b < 16
  · rw [if_pos hx, if_pos hx] at HI
    simp only [if_pos hx]
    clear hx HE
    generalize ((16 * hexn a + hexn b : Nat) : Int) = n at HI ⊢
    go_enter Tryz.func286, Tryz.ntmps286
    go_wp2_with (fail)
    go_at_call 243
    refine HI.out.mono ?_
    rintro e w1 ⟨rfl, hb1⟩
    have HB := Lib.hid hb1
    clear hb1
    go_wp2
    go_ret2
    exact ⟨rfl, HB.out⟩
  · rw [if_neg hx, if_neg hx] at HI
    simp only [if_neg hx]
    clear hx
    go_enter Tryz.func286, Tryz.ntmps286
    go_wp2_with (fail)
    go_at_call 243
    refine HI.out.mono ?_
    rintro e w1 ⟨rfl, hb1⟩
    have HB := Lib.hid hb1
    have HEW := Lib.hid (HE.out w1 hb1)
    obtain ⟨⟨tp, pv, hvar⟩, _⟩ := HEW.out
    have HTE := Lib.hid (Tryz.strconv_toError_syntax ⟨#[80, 97, 114, 115, 101, 85, 105, 110, 116]⟩ ⟨#[a, b]⟩ 16 8 (.iface tp pv) w1 (by show 2 ≤ _; decide) (by have h0 := World.var?_cell Tryz.laysC245.m15 hvar 0; simpa [Tryz.laysC245_ren] using h0) (Or.inr ⟨tp, pv, rfl⟩))
    clear hb1 hvar HEW
    go_wp2_with (fail)
    go_at_call 148
    refine HTE.out.mono ?_
    rintro e w2 ⟨N, rfl, _, _, hb2⟩
    have HB2 := Lib.hid (Base.then_below HB.out hb2)
    clear hb2
    go_wp2
    go_ret2
    exact ⟨⟨_, _, rfl⟩, HB2.out⟩
end Go.Proofs.YtndbhjgfaghelaaGreatDoor.Nt

/-
  CONTRACT of strings.Cut at a separator of one byte: what stands before the first such byte, what stands behind it, and whether there is one; nothing that was there before is changed.
-/
namespace Go.Proofs.YtndbhjgfaghelaaGreatDoor.Tx
open Go Go.RowKit
set_option linter.unusedVariables false
set_option maxRecDepth 1000000

theorem indexByte_idx (c : UInt8) (l : List UInt8) : Lib.indexByte l c = if idx c l < l.length then (idx c l : Int) else -1 := by
  induction l with
  | nil => simp [Lib.indexByte, idx]
  | cons a r ih =>
    unfold Lib.indexByte idx
    by_cases h : a == c
    · rw [if_pos h, if_pos h, if_pos (by simp)]; rfl
    · rw [if_neg h, if_neg h, ih]
      by_cases hl : idx c r < r.length
      · have hn : ((idx c r : Int) == -1) = false := by rw [beq_eq_false_iff_ne]; omega
        rw [if_pos hl, hn, if_neg (by simp), if_pos (by simp; omega)]; omega
      · rw [if_neg hl, if_pos (by decide), if_neg (by simp; omega)]
/-- How a cut ends. -/
def CutEnd (c : UInt8) (l : List UInt8) (w : World) (e : Ending) (w' : World) : Prop :=
  e = .returned (.tuple #[.string ⟨(cutAt c l).1.toArray⟩, .string ⟨(cutAt c l).2.1.toArray⟩, .bool (cutAt c l).2.2]) ∧ Below w.heap.size w w'
theorem below_drewN' {B : Nat} {a w : World} (h : Below B a w) (n : Nat) : Below B a (w.drewN n) := ⟨h.os, h.tape, h.output, h.size, h.block⟩
theorem ext_eq (s : ByteArray) (a b : Nat) : s.extract a b = ⟨((s.data.toList.drop a).take (b - a)).toArray⟩ := by
  apply ByteArray.ext
  rw [ByteArray.data_extract]
  apply Array.ext'
  simp
theorem cut_hit {s : ByteArray} {c : UInt8} {w w' : World} {i : Nat} (hi : i = idx c s.data.toList) (h : i < s.size) (hb : Below w.heap.size w w') :
    CutEnd c s.data.toList w (.returned (.tuple #[.string (s.extract 0 i), .string (s.extract (i + 1) s.size), .bool true])) w' := by
  have hl : s.data.toList.length = s.size := by rw [Array.length_toList]; rfl
  have e : cutAt c s.data.toList = (s.data.toList.take i, s.data.toList.drop (i + 1), true) := by
    unfold cutAt; rw [← hi, hl, if_pos h]
  unfold CutEnd
  rw [e, ext_eq, ext_eq]
  refine ⟨?_, hb⟩
  have h2 : (s.data.toList.drop (i + 1)).take (s.size - (i + 1)) = s.data.toList.drop (i + 1) := List.take_of_length_le (by rw [List.length_drop, hl]; omega)
  rw [h2, List.drop_zero, Nat.sub_zero]
theorem cut_miss {s : ByteArray} {c : UInt8} {w w' : World} (h : ¬ idx c s.data.toList < s.size) (hb : Below w.heap.size w w') :
    CutEnd c s.data.toList w (.returned (.tuple #[.string s, .string ⟨#[]⟩, .bool false])) w' := by
  have hl : s.data.toList.length = s.size := by rw [Array.length_toList]; rfl
  have e : cutAt c s.data.toList = (s.data.toList, [], false) := by
    unfold cutAt; rw [hl, if_neg h]
  unfold CutEnd
  rw [e]
  exact ⟨by simp, hb⟩

set_option maxHeartbeats 1000000 in
theorem lite_cut (s : ByteArray) (c : UInt8) (w : World) (hs : s.size ≤ 9223372036854775806) :
    Calls Tryz.prog 210 #[.string s, .string ⟨#[c]⟩] w (CutEnd c s.data.toList w) := by
  have hl : s.data.toList.length = s.size := by rw [Array.length_toList]; rfl
  have c1 := Tryz.stringslite_Index_one s c w
  rw [indexByte_idx, hl] at c1
  by_cases h : idx c s.data.toList < s.size
  · rw [if_pos h] at c1
    obtain ⟨i, hi⟩ : ∃ i, i = idx c s.data.toList := ⟨_, rfl⟩
    rw [← hi] at c1 h
    have HI := Lib.hid hi
    clear hi hl
    go_enter Tryz.func210, Tryz.ntmps210
    go_wp2_with (go_at_call 255; refine c1.mono ?_; rintro e w' ⟨rfl, rfl⟩)
    go_quiet (fail)
    go_wp2
    go_ret3
    exact cut_hit HI.out h (below_drewN' (Below.refl _ _) _)
  · rw [if_neg h] at c1
    have H := Lib.hid h
    clear h hl
    go_enter Tryz.func210, Tryz.ntmps210
    go_wp2_with (go_at_call 255; refine c1.mono ?_; rintro e w' ⟨rfl, rfl⟩)
    go_ret3
    exact cut_miss H.out (Below.refl _ _)

theorem cut_any (s : ByteArray) (c : UInt8) (w : World) (hs : s.size ≤ 9223372036854775806) :
    Calls Tryz.prog 155 #[.string s, .string ⟨#[c]⟩] w (CutEnd c s.data.toList w) := by
  have c1 := lite_cut s c w hs
  go_enter Tryz.func155, Tryz.ntmps155
  go_wp2_with (go_at_call 210; refine c1.mono ?_; rintro e w' ⟨rfl, hb⟩)
  go_ret3
  exact ⟨rfl, hb⟩
end Go.Proofs.YtndbhjgfaghelaaGreatDoor.Tx

/-
  CONTRACTS of the program's isPlainByte, normalCode and normalCodes; nothing that was there before is changed.
-/
namespace Go.Proofs.YtndbhjgfaghelaaGreatDoor.Nt
open Go Go.RowKit Bys
set_option linter.unusedVariables false
set_option maxRecDepth 1000000
set_option maxRecDepth 1000000

def pm : List UInt8 := [45, 46, 95, 126]
def pmk (c : UInt8) : Int := Lib.indexByte pm c
theorem pmk_ge {c : UInt8} : 0 ≤ pmk c ↔ pm.contains c = true := Tx.index_contains pm c
theorem plainb_let {c : UInt8} (h : Tx.letc c = true) : plainb c = true := by unfold plainb; rw [h, Bool.true_or]
theorem plainb_no {c : UInt8} (h : Tx.letc c = false) : plainb c = pm.contains c := by
  unfold plainb pm; rw [h, Bool.false_or]
  simp only [List.contains_cons, List.contains_nil, Bool.or_false]
  cases (c == 45) <;> cases (c == 46) <;> cases (c == 95) <;> rfl
theorem pidx_byte (c : UInt8) (w : World) :
    Calls Tryz.prog 211 #[.string ⟨#[45, 46, 95, 126]⟩, .int .u8 (c.toNat : Int)] w fun e w' => e = .returned (.int .i64 (pmk c)) ∧ w = w' := by
  refine (Tryz.strings_IndexByte _ _ _).mono ?_
  rintro e w' ⟨rfl, rfl⟩
  refine ⟨?_, rfl⟩
  have : ((c.toNat : Int).toNat.toUInt8) = c := by simp
  rw [this]; rfl

set_option maxHeartbeats 1000000 in
theorem plain_byte (c : UInt8) (w : World) : Calls Tryz.prog 287 #[.int .u8 (c.toNat : Int)] w fun e w' => e = .returned (.bool (plainb c)) ∧ w = w' := by
  by_cases hl : Tx.letc c = true
  · rw [plainb_let hl]
    have h3 : (97 ≤ (c.toNat : Int) ∧ (c.toNat : Int) ≤ 122) ∨ (65 ≤ (c.toNat : Int) ∧ (c.toNat : Int) ≤ 90) ∨ (48 ≤ (c.toNat : Int) ∧ (c.toNat : Int) ≤ 57) := by
      unfold Tx.letc at hl; simp at hl; omega
    clear hl
    rcases h3 with ⟨h1, h2⟩ | ⟨h1, h2⟩ | ⟨h1, h2⟩
    · go_enter Tryz.func287, Tryz.ntmps287
      go_wp2
      go_ret
      exact ⟨rfl, rfl⟩
    · have h3 : ¬ 97 ≤ (c.toNat : Int) := by omega
      go_enter Tryz.func287, Tryz.ntmps287
      go_wp2_with (go_at_call 157; refine (Tx.up_yes _ _ h1 h2).mono ?_; rintro e w' ⟨rfl, rfl⟩)
      go_ret
      exact ⟨rfl, rfl⟩
    · have h3 : ¬ 97 ≤ (c.toNat : Int) := by omega
      have h4 : (c.toNat : Int) < 65 ∨ 90 < (c.toNat : Int) := by omega
      have H4 := Lib.hid h4
      clear h4
      go_enter Tryz.func287, Tryz.ntmps287
      go_wp2_with (go_at_call 157; refine (Tx.up_no _ _ H4.out).mono ?_; rintro e w' ⟨rfl, rfl⟩)
      go_ret
      exact ⟨rfl, rfl⟩
  · have hl' : Tx.letc c = false := by simpa using hl
    rw [plainb_no hl']
    have h3 : ((c.toNat : Int) < 97 ∨ 122 < (c.toNat : Int)) ∧ ((c.toNat : Int) < 65 ∨ 90 < (c.toNat : Int)) ∧ ((c.toNat : Int) < 48 ∨ 57 < (c.toNat : Int)) := by
      unfold Tx.letc at hl'; simp at hl'; omega
    clear hl hl'
    obtain ⟨h1, h4, h5⟩ := h3
    have H4 := Lib.hid h4
    clear h4
    have hm : 0 ≤ pmk c ↔ pm.contains c = true := pmk_ge
    rcases hmk : pm.contains c with _ | _
    · have h6 : ¬ 0 ≤ pmk c := by rw [hm, hmk]; simp
      clear hm hmk
      rcases h1 with h1 | h1 <;> rcases h5 with h5 | h5
      all_goals first | (exfalso; omega) | skip
      · have g1 : ¬ 97 ≤ (c.toNat : Int) := by omega
        have g2 : ¬ 48 ≤ (c.toNat : Int) := by omega
        clear h1 h5
        go_enter Tryz.func287, Tryz.ntmps287
        go_wp2_with (first | (go_at_call 157; refine (Tx.up_no _ _ H4.out).mono ?_; rintro e w' ⟨rfl, rfl⟩) | (go_at_call 211; refine (pidx_byte c _).mono ?_; rintro e w' ⟨rfl, rfl⟩))
        go_ret
        first | exact ⟨rfl, rfl⟩ | exact ⟨Tx.ret_bool (by simp; omega), rfl⟩
      · have g1 : ¬ 97 ≤ (c.toNat : Int) := by omega
        have g2 : 48 ≤ (c.toNat : Int) := by omega
        have g3 : ¬ (c.toNat : Int) ≤ 57 := by omega
        clear h1 h5
        go_enter Tryz.func287, Tryz.ntmps287
        go_wp2_with (first | (go_at_call 157; refine (Tx.up_no _ _ H4.out).mono ?_; rintro e w' ⟨rfl, rfl⟩) | (go_at_call 211; refine (pidx_byte c _).mono ?_; rintro e w' ⟨rfl, rfl⟩))
        go_ret
        first | exact ⟨rfl, rfl⟩ | exact ⟨Tx.ret_bool (by simp; omega), rfl⟩
      · have g1 : 97 ≤ (c.toNat : Int) := by omega
        have g2 : 48 ≤ (c.toNat : Int) := by omega
        have g3 : ¬ (c.toNat : Int) ≤ 57 := by omega
        have g4 : ¬ (c.toNat : Int) ≤ 122 := by omega
        clear h1 h5
        go_enter Tryz.func287, Tryz.ntmps287
        go_wp2_with (first | (go_at_call 157; refine (Tx.up_no _ _ H4.out).mono ?_; rintro e w' ⟨rfl, rfl⟩) | (go_at_call 211; refine (pidx_byte c _).mono ?_; rintro e w' ⟨rfl, rfl⟩))
        go_ret
        first | exact ⟨rfl, rfl⟩ | exact ⟨Tx.ret_bool (by simp; omega), rfl⟩
    · have h6 : 0 ≤ pmk c := by rw [hm]; exact hmk
      clear hm hmk
      rcases h1 with h1 | h1 <;> rcases h5 with h5 | h5
      all_goals first | (exfalso; omega) | skip
      · have g1 : ¬ 97 ≤ (c.toNat : Int) := by omega
        have g2 : ¬ 48 ≤ (c.toNat : Int) := by omega
        clear h1 h5
        go_enter Tryz.func287, Tryz.ntmps287
        go_wp2_with (first | (go_at_call 157; refine (Tx.up_no _ _ H4.out).mono ?_; rintro e w' ⟨rfl, rfl⟩) | (go_at_call 211; refine (pidx_byte c _).mono ?_; rintro e w' ⟨rfl, rfl⟩))
        go_ret
        first | exact ⟨rfl, rfl⟩ | exact ⟨Tx.ret_bool (by simp; omega), rfl⟩
      · have g1 : ¬ 97 ≤ (c.toNat : Int) := by omega
        have g2 : 48 ≤ (c.toNat : Int) := by omega
        have g3 : ¬ (c.toNat : Int) ≤ 57 := by omega
        clear h1 h5
        go_enter Tryz.func287, Tryz.ntmps287
        go_wp2_with (first | (go_at_call 157; refine (Tx.up_no _ _ H4.out).mono ?_; rintro e w' ⟨rfl, rfl⟩) | (go_at_call 211; refine (pidx_byte c _).mono ?_; rintro e w' ⟨rfl, rfl⟩))
        go_ret
        first | exact ⟨rfl, rfl⟩ | exact ⟨Tx.ret_bool (by simp; omega), rfl⟩
      · have g1 : 97 ≤ (c.toNat : Int) := by omega
        have g2 : 48 ≤ (c.toNat : Int) := by omega
        have g3 : ¬ (c.toNat : Int) ≤ 57 := by omega
        have g4 : ¬ (c.toNat : Int) ≤ 122 := by omega
        clear h1 h5
        go_enter Tryz.func287, Tryz.ntmps287
        go_wp2_with (first | (go_at_call 157; refine (Tx.up_no _ _ H4.out).mono ?_; rintro e w' ⟨rfl, rfl⟩) | (go_at_call 211; refine (pidx_byte c _).mono ?_; rintro e w' ⟨rfl, rfl⟩))
        go_ret
        first | exact ⟨rfl, rfl⟩ | exact ⟨Tx.ret_bool (by simp; omega), rfl⟩

/-- What a percent sign in front of l is written as. -/
def codep (a b : UInt8) : List UInt8 × Bool := if hexn a < 16 ∧ hexn b < 16 then (code (hexn a) (hexn b), true) else ([], false)
theorem up_fin : ∀ r : Fin 256, hexn (UInt8.ofNat r.1) < 16 → Lib.toUpperA [UInt8.ofNat r.1] = [dig (hexn (UInt8.ofNat r.1))] ∧ r.1 < 128 := by decide +kernel
theorem up_one {c : UInt8} (h : hexn c < 16) : Lib.toUpperA [c] = [dig (hexn c)] ∧ c.toNat < 128 := by
  have := up_fin ⟨c.toNat, c.toNat_lt⟩
  simp only [UInt8.ofNat_toNat] at this
  exact this h
theorem up_three {a b : UInt8} (h1 : hexn a < 16) (h2 : hexn b < 16) : Lib.toUpperA [37, a, b] = [37, dig (hexn a), dig (hexn b)] := by
  have e1 := (up_one h1).1
  have e2 := (up_one h2).1
  have e0 : Lib.toUpperA [37] = [37] := by decide
  unfold Lib.toUpperA at *
  simp only [List.map_cons, List.map_nil, List.cons.injEq, and_true] at *
  exact ⟨e0, e1, e2⟩

theorem code_short (s : ByteArray) (w : World) (hs : s.size < 3) : Calls Tryz.prog 265 #[.string s] w (PairEnd ([], false) w) := by
  have HB := Lib.hid (Below.refl w.heap.size w)
  have h3 : (s.size : Int) < 3 := by omega
  clear hs
  unfold PairEnd
  go_enter Tryz.func265, Tryz.ntmps265
  go_wp2
  go_ret2
  exact ⟨rfl, HB.out⟩

set_option maxHeartbeats 4000000 in
theorem code_call (a b : UInt8) (s : ByteArray) (w : World) (hs : 3 ≤ s.size) (he1 : s.extract 1 3 = ⟨#[a, b]⟩) (he2 : s.extract 0 3 = ⟨#[37, a, b]⟩) (he : Par.Errs w) :
    Calls Tryz.prog 265 #[.string s] w (PairEnd (codep a b) w) := by
  have HP := Lib.hid (pu_call a b w he)
  have h3 : 3 ≤ (s.size : Int) := by omega
  unfold PuOut at HP
  unfold PairEnd
  clear hs he
  by_cases hx : hexn a < 16 ∧ hexn b < 16
  case neg =>
    have hc : codep a b = ([], false) := if_neg hx
    rw [hc]
    simp only [if_neg hx] at HP
    clear hx hc
    go_enter Tryz.func265, Tryz.ntmps265
    go_wp2_with (fail)
    go_at_call 286
    refine HP.out.mono ?_
    rintro e w1 ⟨⟨t, v, rfl⟩, hb1⟩
    have HB := Lib.hid hb1
    clear hb1
    go_wp2
    go_ret2
    exact ⟨rfl, HB.out⟩
  have hc : codep a b = (code (hexn a) (hexn b), true) := if_pos hx
  rw [hc]
  simp only [if_pos hx] at HP
  obtain ⟨hx1, hx2⟩ := hx
  have HUP := Lib.hid (up_three hx1 hx2)
  have HA1 := Lib.hid (up_one hx1).2
  have HA2 := Lib.hid (up_one hx2).2
  generalize hexn a = x at *
  generalize hexn b = y at *
  have hbn : ((bt x y).toNat : Int) = ((16 * x + y : Nat) : Int) := by rw [bt_nat hx1 hx2]
  have HPB := Lib.hid (fun W => plain_byte (bt x y) W)
  have HCV : Hid (∀ W : World, (convert 22 9 (.slice (some ⟨W.heap.size, 0, none⟩) 1 1)).run Tryz.prog (W.alloc (.cells #[.int .u8 ((16 * x + y : Nat) : Int)] 5)) = .ok (.string ⟨#[bt x y]⟩) (W.alloc (.cells #[.int .u8 ((16 * x + y : Nat) : Int)] 5))) := Lib.hid (fun W => by
    have h := own_str (own_lit_one W (bt x y))
    unfold bvl at h
    rw [hbn] at h
    exact h)
  rw [hbn] at HPB
  have HY : Hid (plainb (bt x y) = true → code x y = [bt x y]) := Lib.hid code_yes
  have HN : Hid (plainb (bt x y) = false → code x y = [37, dig x, dig y]) := Lib.hid code_no
  have n1 : ((16 * x + y : Nat) : Int) ≤ 255 := by omega
  have n0 : 0 ≤ ((16 * x + y : Nat) : Int) := by omega
  generalize ((16 * x + y : Nat) : Int) = n at *
  generalize code x y = z at HY HN ⊢
  generalize bt x y = c at *
  clear hbn hx1 hx2 hc
  cases hp : plainb c with
  | true =>
    have HZ := Lib.hid (HY.out hp)
    rw [hp] at HPB
    clear HY HN hp HA1 HA2 HUP
    go_enter Tryz.func265, Tryz.ntmps265
    go_wp2_with (fail)
    go_at_call 286
    refine HP.out.mono ?_
    rintro e w1 ⟨rfl, hb1⟩
    have HB := Lib.hid hb1
    have hcv := HCV.out w1
    clear hb1
    go_wp2_with (fail)
    go_at_call 287
    refine (HPB.out _).mono ?_
    rintro e w' ⟨rfl, rfl⟩
    go_wp2
    go_ret2
    exact ⟨by rw [HZ.out] <;> rfl, HB.out.alloc HB.out.size _⟩
  | false =>
    have HZ := Lib.hid (HN.out hp)
    rw [hp] at HPB
    clear HY HN hp HCV
    go_enter Tryz.func265, Tryz.ntmps265
    go_wp2_with (fail)
    go_at_call 286
    refine HP.out.mono ?_
    rintro e w1 ⟨rfl, hb1⟩
    have HB := Lib.hid hb1
    have HU := Lib.hid (Tryz.strings_ToUpper_ascii ⟨#[37, a, b]⟩ w1 (by show 3 ≤ _; decide) (fun j u h => by
      match j, h with
      | 0, h => simp at h; subst h; decide
      | 1, h => simp at h; subst h; exact HA1.out
      | 2, h => simp at h; subst h; exact HA2.out))
    rw [show (⟨#[37, a, b]⟩ : ByteArray).data.toList = [37, a, b] from rfl, HUP.out] at HU
    clear hb1 HA1 HA2 HUP
    go_wp2_with (fail)
    go_at_call 287
    refine (HPB.out _).mono ?_
    rintro e w' ⟨rfl, rfl⟩
    go_wp2_with (fail)
    go_at_call 168
    refine HU.out.mono ?_
    rintro e w2 ⟨rfl, hb2⟩
    have HB2 := Lib.hid (Base.then_below HB.out hb2)
    clear hb2
    go_wp2
    go_ret2
    exact ⟨by rw [HZ.out] <;> rfl, HB2.out⟩
end Go.Proofs.YtndbhjgfaghelaaGreatDoor.Nt

/-
  PLAIN FACTS on the size of a list of texts.
-/
namespace Go.Proofs.YtndbhjgfaghelaaGreatDoor.Strs
open Go Go.RowKit
set_option linter.unusedVariables false
set_option maxRecDepth 1000000

/-! the size -/
def total (xs : List (List UInt8)) : Nat := (xs.map (·.length)).sum + xs.length
theorem total_nil : total [] = 0 := rfl
def pre (xs : List (List UInt8)) (k : Nat) : Nat := ((xs.take k).map (·.length)).sum
theorem pre_zero (xs : List (List UInt8)) : pre xs 0 = 0 := by unfold pre; simp
theorem pre_more {xs : List (List UInt8)} {k : Nat} (h : k < xs.length) : pre xs (k + 1) = pre xs k + (xs.getD k []).length := by
  unfold pre; rw [List.take_succ_eq_append_getElem h, List.map_append, List.sum_append]; simp [List.getD, h]
theorem pre_all {xs : List (List UInt8)} {k : Nat} (h : k = xs.length) : total xs = pre xs k + xs.length := by unfold pre total; subst h; simp
end Go.Proofs.YtndbhjgfaghelaaGreatDoor.Strs

/-
  PLAIN FACTS on joined texts.
-/
namespace Go.Proofs.YtndbhjgfaghelaaGreatDoor.Tx
open Go Go.RowKit Strs
set_option linter.unusedVariables false
set_option maxRecDepth 1000000

theorem addtwo (a b : List UInt8) (h : a.length + b.length ≤ 1000000000) (W : World) :
    (Op.stringOp .add ⟨a.toArray⟩ ⟨b.toArray⟩).run Tryz.prog W = .ok (.string ⟨(a ++ b).toArray⟩) W := by
  rw [run_string_add_sum W _ _ (by simp [ByteArray.size]; omega)]
  congr 2
theorem join_snoc {xs : List (List UInt8)} (x : List UInt8) (h : xs ≠ []) : join (xs ++ [x]) = join xs ++ [44, 32] ++ x := by
  induction xs with
  | nil => exact absurd rfl h
  | cons a r ih =>
    by_cases hr : r = []
    · subst hr; rw [List.singleton_append, join_cons _ _ (by simp), join_one, join_one]; simp
    · rw [List.cons_append, join_cons _ _ (by simp), join_cons _ _ hr, ih hr]; simp
theorem join_more {xs : List (List UInt8)} {k : Nat} (h : k < xs.length) (h0 : 0 < k) : join (xs.take (k + 1)) = join (xs.take k) ++ [44, 32] ++ xs.getD k [] := by
  rw [List.take_succ_eq_append_getElem h, join_snoc _ (by intro e; have h' := congrArg List.length e; rw [List.length_take, List.length_nil] at h'; omega)]
  simp [List.getD, h]
theorem join_first {xs : List (List UInt8)} (h : 0 < xs.length) : join (xs.take 1) = xs.getD 0 [] := by
  cases xs with
  | nil => simp at h
  | cons a r => simp [join_one]
theorem join_nil : join [] = [] := rfl
theorem pre_le (xs : List (List UInt8)) (k : Nat) : pre xs k ≤ (xs.map (·.length)).sum := by
  unfold pre
  conv => rhs; rw [← List.take_append_drop k xs]
  rw [List.map_append, List.sum_append]; omega
theorem join_len (xs : List (List UInt8)) (k : Nat) (hk : k ≤ xs.length) : (join (xs.take k)).length ≤ pre xs k + 2 * k := by
  induction k with
  | zero => simp [join_nil]
  | succ k ih =>
    have ih := ih (by omega)
    have hp := pre_more (xs := xs) (k := k) (by omega)
    by_cases h0 : 0 < k
    · rw [join_more (by omega) h0]; simp only [List.length_append, List.length_cons, List.length_nil]; omega
    · have : k = 0 := by omega
      subst this
      rw [join_first (by omega)]; rw [hp]; omega

def JoinEnd (xs : List (List UInt8)) (w : World) (e : Ending) (w' : World) : Prop := e = .returned (.string ⟨(join xs).toArray⟩) ∧ Below w.heap.size w w'
theorem ret_join {a b : List UInt8} (h : a = b) : Ending.returned (.string ⟨a.toArray⟩) = .returned (.string ⟨b.toArray⟩) := by rw [h]

end Go.Proofs.YtndbhjgfaghelaaGreatDoor.Tx
