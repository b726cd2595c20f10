/-
  CONTRACTS of the draws that stand on the model's cursor: l1Byte at every cursor, l1Below, l1Once: each answers a number in its range, writes into the cursor alone, and leaves it a cursor over the same bytes.
-/
import Derived.Test.YtegaakgmfphcaaaCur
namespace Go.Proofs.Ytegaakgmfphcaaa.Cur
open Go Go.RowKit
set_option linter.unusedVariables false
set_option maxRecDepth 1000000

theorem byte_any (c B : Nat) (bv : Value) (w : World) (hcur : CurAt w c bv) (hby : Bytes w B bv) (hB : B ≤ c) :
    Calls Try.prog 36 #[.pointer (some ⟨c, 0, none⟩)] w (Drawn (fun x => 0 ≤ x ∧ x ≤ 255) c bv w) := by
  obtain ⟨i, h, hi0, hb⟩ := hcur
  rcases hby with ⟨a, cap, rfl⟩ | ⟨b, off, len, cap, f, rfl, h2, h3, h4, h5⟩
  · exact byte_done c a 0 cap i h w hb hi0 (by simp; omega)
  · by_cases hi : i < (len : Int)
    · obtain ⟨k0, k1, k2⟩ := h5 i.toNat (by omega)
      exact byte_more c b off len cap _ i h w hb hi0 hi h4 (by omega) k2 k0 k1
    · exact byte_done c _ len cap i h w hb hi0 hi

/-- The numbers below n; 0 alone where n is not above 0. -/
def Under (n x : Int) : Prop := 0 ≤ x ∧ (x < n ∨ (n ≤ 0 ∧ x = 0))
theorem under_mod {n x : Int} (h : 0 < n) (hx : 0 ≤ x) : Under n (x % n) := ⟨Int.emod_nonneg _ (by omega), Or.inl (Int.emod_lt_of_pos _ h)⟩

theorem below_any (c B : Nat) (bv : Value) (n : Int) (w : World) (hcur : CurAt w c bv) (hby : Bytes w B bv) (hB : B ≤ c) (hn : n ≤ 9223372036854775807) :
    Calls Try.prog 29 #[.pointer (some ⟨c, 0, none⟩), .int .i64 n] w (Drawn (Under n) c bv w) := by
  by_cases h0 : n ≤ 0
  · have HU : Hid (Under n 0) := ⟨by omega, Or.inr ⟨h0, rfl⟩⟩
    go_enter Try.func29, Try.ntmps29
    go_wp2
    go_ret
    exact ⟨_, HU.out, rfl, hcur, World.grownBy.refl _ _⟩
  · have h1 : 1 ≤ n := by omega
    by_cases h2 : n ≤ 256
    · go_enter Try.func29, Try.ntmps29
      go_wp2_with (go_at_call 36; refine (byte_any _ B _ _ hcur hby hB).mono ?_; rintro e w1 ⟨x, ⟨hx0, hx1⟩, rfl, hc1, hg1⟩)
      go_ret
      exact ⟨_, under_mod (by omega) hx0, rfl, hc1, hg1⟩
    · go_enter Try.func29, Try.ntmps29
      go_wp2_with (fail)
      go_at_call 36
      refine (byte_any _ B _ _ hcur hby hB).mono ?_
      rintro e w1 ⟨x, ⟨hx0, hx1⟩, rfl, hc1, hg1⟩
      go_wp2_with (fail)
      go_at_call 36
      refine (byte_any _ B _ _ hc1 (bytes_kept hby hg1 hB) hB).mono ?_
      rintro e w2 ⟨y, ⟨hy0, hy1⟩, rfl, hc2, hg2⟩
      go_wp2_with (fail)
      go_at_call 36
      refine (byte_any _ B _ _ hc2 (bytes_kept hby (gb_trans hg1 hg2) hB) hB).mono ?_
      rintro e w3 ⟨z, ⟨hz0, hz1⟩, rfl, hc3, hg3⟩
      go_wp2
      go_ret
      exact ⟨_, under_mod (by omega) (by omega), rfl, hc3, gb_trans (gb_trans hg1 hg2) hg3⟩
end Go.Proofs.Ytegaakgmfphcaaa.Cur
