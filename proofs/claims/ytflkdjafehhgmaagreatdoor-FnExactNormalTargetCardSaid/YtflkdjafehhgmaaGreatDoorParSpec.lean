/-
  CONTRACT of the model's ParseInt: at every text it answers the number whose decimal numeral the text is, if it lies between 0 and the greatest integer that is read; nothing that was there before is changed.
-/
import Derived.Test.YtflkdjafehhgmaaGreatDoorParMath
import Derived.Test.YtflkdjafehhgmaaGreatDoorFmtSpec
import Derived.Test.YtflkdjafehhgmaaGreatDoorNumIn
import Derived.Test.YtflkdjafehhgmaaGreatDoorBase
import Derived.Outline
namespace Go.Proofs.YtflkdjafehhgmaaGreatDoor.Par
open Go Go.RowKit
set_option linter.unusedVariables false
set_option maxRecDepth 1000000

theorem list_eq {l : List UInt8} {s : ByteArray} (h : (!l == s.toList) = false) : l = s.data.toList := by
  rw [← Go.ByteArray.toList_eq]
  simpa using h
theorem list_ne {l : List UInt8} {s : ByteArray} (h : (!l == s.toList) = true) : l ≠ s.data.toList := by
  rw [← Go.ByteArray.toList_eq]
  simpa using h
/-- How ParseInt ends. -/
def Parsed (l : List UInt8) (w : World) (e : Ending) (w' : World) : Prop := ∃ v b, PS l v b ∧ e = .returned (.tuple #[.int .i64 v, .bool b]) ∧ Below w.heap.size w w'

set_option maxHeartbeats 1000000 in
theorem spec_parse (s : ByteArray) (w : World) (hs : s.size ≤ 9223372036854775806) :
    Calls Tryz.prog 77 #[.string s] w (Parsed s.data.toList w) := by
  by_cases hlen : 1 ≤ (s.size : Int) ∧ (s.size : Int) ≤ 13
  · obtain ⟨hl1, hl2⟩ := hlen
    go_enter Tryz.func77, Tryz.ntmps77
    go_wp2_with (go_at_call 80; refine (NumDiv.in_yes _ _ _ _ hl1 hl2).mono ?_; rintro e w' ⟨rfl, rfl⟩)
    go_loop [4, 5] (fun n i => ∃ k m : Nat, k ≤ s.size ∧ i = .int .i64 k ∧ n = .int .i64 m ∧ Good s k m) (fun _ i => s.size - (intOf i).toNat)
    case atStart => exact ⟨0, 0, Nat.zero_le _, rfl, rfl, good_zero s⟩
    case round =>
      obtain ⟨k, m, hk, rfl, rfl, hg⟩ := hrel
      have hmb := good_bound hg (by omega)
      by_cases hlt : k < s.size
      · by_cases hc : 48 ≤ (s[k].toNat : Int) ∧ (s[k].toNat : Int) ≤ 57
        · obtain ⟨hc1, hc2⟩ := hc
          have G := Lib.hid (good_step hlt hg hc1 hc2)
          clear hg
          go_wp2_with (go_at_call 80; refine (NumDiv.in_yes _ _ _ _ hc1 hc2).mono ?_; rintro e w' ⟨rfl, rfl⟩)
          go_round
          case rel => exact ⟨k + 1, _, by omega, by go_num, by go_num, G.out⟩
          case measure => simp [intOf]; omega
        · have hc' : (s[k].toNat : Int) < 48 ∨ 57 < (s[k].toNat : Int) := by omega
          have G := Lib.hid (ps_bad hlt hc')
          have HC := Lib.hid hc'
          clear hg hc hc'
          have hub : (s[k].toNat : Int) ≤ 255 := by have := s[k].toNat_lt; omega
          have hub0 : 0 ≤ (s[k].toNat : Int) := by omega
          go_wp2_with (go_at_call 80; (with_reducible refine (NumDiv.in_no _ _ _ _ HC.out).mono ?_); rintro e w' ⟨rfl, rfl⟩)
          go_ret2
          exact ⟨_, _, G.out, rfl, Below.refl _ _⟩
      · have hks : k = s.size := by omega
        by_cases hm : 1000000000000 < (m : Int)
        · have G := Lib.hid (ps_great (hks ▸ hg) hm)
          clear hg hks
          go_wp2
          go_ret2
          exact ⟨_, _, G.out, rfl, Below.refl _ _⟩
        · have HK := Lib.hid hks
          clear hks
          go_wp2_with (go_at_call 120; refine (Fmt.spec_fmt m (by omega) (by omega) _).mono ?_; rintro e w1 ⟨rfl, hb1⟩)
          · have hq : (!Lib.itoa (m : Int) == s.toList) = true := by assumption
            go_ret2
            exact ⟨_, _, ps_other (HK.out ▸ hg) (list_ne hq), rfl, hb1⟩
          · have hq : (!Lib.itoa (m : Int) == s.toList) = false := by assumption
            go_ret2
            exact ⟨_, _, ps_is (by omega) (list_eq hq), rfl, hb1⟩
  · have hl : (s.size : Int) < 1 ∨ 13 < (s.size : Int) := by omega
    have H := Lib.hid hl
    have G := Lib.hid (ps_short hl)
    clear hl hlen
    go_enter Tryz.func77, Tryz.ntmps77
    go_wp2_with (go_at_call 80; refine (NumDiv.in_no _ _ _ _ H.out).mono ?_; rintro e w' ⟨rfl, rfl⟩)
    go_ret2
    exact ⟨_, _, G.out, rfl, Below.refl _ _⟩
end Go.Proofs.YtflkdjafehhgmaaGreatDoor.Par
