/-
  CONTRACT of the model's l12Hex; the world stays as it was.
-/
import Derived.Test.YtkedndamkjnmkaaGreatDoorNtM
import Derived.Test.YtkedndamkjnmkaaGreatDoorNumIn
namespace Go.Proofs.YtkedndamkjnmkaaGreatDoor.Nt
open Go Go.RowKit
set_option linter.unusedVariables false
set_option maxRecDepth 1000000

theorem ret_i {a b : Int} (h : a = b) : Ending.returned (.int .i64 a) = .returned (.int .i64 b) := by rw [h]
theorem byte_bd (c : UInt8) : 0 ≤ (c.toNat : Int) ∧ (c.toNat : Int) ≤ 255 := by have := c.toNat_lt; omega

set_option maxHeartbeats 1000000 in
theorem spec_hex (c : UInt8) (w : World) : Calls Tryz.prog 62 #[.int .u8 (c.toNat : Int)] w fun e w' => e = .returned (.int .i64 (hexi c)) ∧ w = w' := by
  have hb := byte_bd c
  have H1 : Hid ((48 ≤ (c.toNat : Int) ∧ (c.toNat : Int) ≤ 57) → hexi c = (c.toNat : Int) - 48) := Lib.hid (fun h => by unfold hexi hexn; rw [if_pos (by omega : 48 ≤ c.toNat ∧ c.toNat ≤ 57), if_pos (by omega)]; omega)
  have H2 : Hid (¬ (48 ≤ (c.toNat : Int) ∧ (c.toNat : Int) ≤ 57) → (97 ≤ (c.toNat : Int) ∧ (c.toNat : Int) ≤ 102) → hexi c = (c.toNat : Int) - 97 + 10) := Lib.hid (fun h h2 => by unfold hexi hexn; rw [if_neg (by omega : ¬ (48 ≤ c.toNat ∧ c.toNat ≤ 57)), if_pos (by omega : 97 ≤ c.toNat ∧ c.toNat ≤ 102), if_pos (by omega)]; omega)
  have H3 : Hid (¬ (48 ≤ (c.toNat : Int) ∧ (c.toNat : Int) ≤ 57) → ¬ (97 ≤ (c.toNat : Int) ∧ (c.toNat : Int) ≤ 102) → (65 ≤ (c.toNat : Int) ∧ (c.toNat : Int) ≤ 70) → hexi c = (c.toNat : Int) - 65 + 10) := Lib.hid (fun h h2 h3 => by unfold hexi hexn; rw [if_neg (by omega : ¬ (48 ≤ c.toNat ∧ c.toNat ≤ 57)), if_neg (by omega : ¬ (97 ≤ c.toNat ∧ c.toNat ≤ 102)), if_pos (by omega : 65 ≤ c.toNat ∧ c.toNat ≤ 70), if_pos (by omega)]; omega)
  have H4 : Hid (¬ (48 ≤ (c.toNat : Int) ∧ (c.toNat : Int) ≤ 57) → ¬ (97 ≤ (c.toNat : Int) ∧ (c.toNat : Int) ≤ 102) → ¬ (65 ≤ (c.toNat : Int) ∧ (c.toNat : Int) ≤ 70) → hexi c = -1) := Lib.hid (fun h h2 h3 => by unfold hexi hexn; rw [if_neg (by omega : ¬ (48 ≤ c.toNat ∧ c.toNat ≤ 57)), if_neg (by omega : ¬ (97 ≤ c.toNat ∧ c.toNat ≤ 102)), if_neg (by omega : ¬ (65 ≤ c.toNat ∧ c.toNat ≤ 70)), if_neg (by omega)])
  generalize hexi c = z at H1 H2 H3 H4 ⊢
  generalize (c.toNat : Int) = n at H1 H2 H3 H4 hb ⊢
  obtain ⟨hb1, hb2⟩ := hb
  by_cases h1 : 48 ≤ n ∧ n ≤ 57
  · have HE := Lib.hid (H1.out h1)
    obtain ⟨p1, p2⟩ := h1
    clear H1 H2 H3 H4
    go_enter Tryz.func62, Tryz.ntmps62
    go_wp2_with (go_at_call 48; refine (NumDiv.in_yes _ _ _ _ p1 p2).mono ?_; rintro e w' ⟨rfl, rfl⟩)
    go_ret
    exact ⟨ret_i HE.out.symm, rfl⟩
  have N1 : Hid (n < 48 ∨ 57 < n) := Lib.hid (by omega)
  by_cases h2 : 97 ≤ n ∧ n ≤ 102
  · have HE := Lib.hid (H2.out h1 h2)
    obtain ⟨p1, p2⟩ := h2
    clear H1 H2 H3 H4 h1
    go_enter Tryz.func62, Tryz.ntmps62
    go_wp2_with (fail)
    go_at_call 48
    refine (NumDiv.in_no _ _ _ _ N1.out).mono ?_
    rintro e w' ⟨rfl, rfl⟩
    go_wp2_with (fail)
    go_at_call 48
    refine (NumDiv.in_yes _ _ _ _ p1 p2).mono ?_
    rintro e w' ⟨rfl, rfl⟩
    go_wp2
    go_ret
    exact ⟨ret_i HE.out.symm, rfl⟩
  have N2 : Hid (n < 97 ∨ 102 < n) := Lib.hid (by omega)
  by_cases h3 : 65 ≤ n ∧ n ≤ 70
  · have HE := Lib.hid (H3.out h1 h2 h3)
    obtain ⟨p1, p2⟩ := h3
    clear H1 H2 H3 H4 h1 h2
    go_enter Tryz.func62, Tryz.ntmps62
    go_wp2_with (fail)
    go_at_call 48
    refine (NumDiv.in_no _ _ _ _ N1.out).mono ?_
    rintro e w' ⟨rfl, rfl⟩
    go_wp2_with (fail)
    go_at_call 48
    refine (NumDiv.in_no _ _ _ _ N2.out).mono ?_
    rintro e w' ⟨rfl, rfl⟩
    go_wp2_with (fail)
    go_at_call 48
    refine (NumDiv.in_yes _ _ _ _ p1 p2).mono ?_
    rintro e w' ⟨rfl, rfl⟩
    go_wp2
    go_ret
    exact ⟨ret_i HE.out.symm, rfl⟩
  have N3 : Hid (n < 65 ∨ 70 < n) := Lib.hid (by omega)
  have HE := Lib.hid (H4.out h1 h2 h3)
  clear H1 H2 H3 H4 h1 h2 h3
  go_enter Tryz.func62, Tryz.ntmps62
  go_wp2_with (fail)
  go_at_call 48
  refine (NumDiv.in_no _ _ _ _ N1.out).mono ?_
  rintro e w' ⟨rfl, rfl⟩
  go_wp2_with (fail)
  go_at_call 48
  refine (NumDiv.in_no _ _ _ _ N2.out).mono ?_
  rintro e w' ⟨rfl, rfl⟩
  go_wp2_with (fail)
  go_at_call 48
  refine (NumDiv.in_no _ _ _ _ N3.out).mono ?_
  rintro e w' ⟨rfl, rfl⟩
  go_wp2
  go_ret
  exact ⟨ret_i HE.out.symm, rfl⟩
end Go.Proofs.YtkedndamkjnmkaaGreatDoor.Nt
