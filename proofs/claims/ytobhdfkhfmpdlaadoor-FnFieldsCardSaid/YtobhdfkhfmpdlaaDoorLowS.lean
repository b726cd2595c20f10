/-
  CONTRACT of the model's LowerText: at every text it returns it with the letters A to Z as a to z; nothing that was there before is changed.
-/
import Derived.Test.YtobhdfkhfmpdlaaDoorLowM
import Derived.Test.YtobhdfkhfmpdlaaDoorNumIn
import Derived.LoopTactic
namespace Go.Proofs.YtobhdfkhfmpdlaaDoor.Tx
open Go Go.RowKit Bys
set_option linter.unusedVariables false
set_option maxRecDepth 1000000

set_option maxHeartbeats 1000000 in
theorem spec_lower (s : ByteArray) (w : World) (hs : s.size ≤ 9223372036854775806) :
    Calls Tryd.prog 32 #[.string s] w fun e w' => e = .returned (.string ⟨(lower s.data.toList).toArray⟩) ∧ Below w.heap.size w w' := by
  obtain ⟨cap, w1, hcv, hat, hb⟩ := of_string s w
  have HT := Lib.hid (And.intro hat hb)
  clear hat hb
  go_enter Tryd.func32, Tryd.ntmps32
  go_wp2
  clear hcv
  go_loopw [4] (fun i wr => ∃ k : Nat, k ≤ s.size ∧ i = .int .i64 k ∧ BAt wr w.heap.size (lowk s.data.toList k) ∧ Below w.heap.size w wr) (fun i _ => s.size - (intOf i).toNat)
  case atStart => exact ⟨0, Nat.zero_le _, rfl, by rw [lowk_zero]; exact HT.out.1, HT.out.2⟩
  case round =>
    clear HT
    obtain ⟨k, hk, rfl, hat, hb⟩ := hrel
    have hL := list_len s
    by_cases hlt : k < s.size
    · have hlt' : k < s.data.toList.length := by omega
      have hcell := (hat.2 k (by rw [lowk_len]; exact hlt')).1
      have hfz := (hat.2 k (by rw [lowk_len]; exact hlt')).2
      rw [lowk_at hlt'] at hcell
      have HM := Lib.hid (lowk_more hlt')
      have HN := Lib.hid (lowk_same hlt')
      have HS := Lib.hid (bat_set (lowc (s.data.toList.getD k 0)) hat (by rw [lowk_len]; exact hlt'))
      have hub : ((s.data.toList.getD k 0).toNat : Int) ≤ 255 := by have := (s.data.toList.getD k 0).toNat_lt; omega
      have hub0 : 0 ≤ ((s.data.toList.getD k 0).toNat : Int) := by omega
      have HB := Lib.hid hb
      have HA := Lib.hid hat
      have HK := Lib.hid (show (k + 1 : Nat) ≤ s.size by omega)
      clear hlt' hL hb hat
      generalize s.data.toList.getD k 0 = c at *
      unfold bvl at hcell
      rcases hu : upc c with _ | _
      · have h1 : (c.toNat : Int) < 65 ∨ 90 < (c.toNat : Int) := by unfold upc at hu; simp at hu; omega
        have H1 := Lib.hid h1
        have HU := Lib.hid hu
        clear h1 hu
        go_wp2_with (go_at_call 70; (with_reducible refine (NumDiv.in_no _ _ _ _ H1.out).mono ?_); rintro e w' ⟨rfl, rfl⟩)
        go_roundw
        case rel => exact ⟨k + 1, HK.out, by go_num, by rw [HN.out HU.out]; exact HA.out, HB.out⟩
        case measure => simp [intOf]; omega
      · have h1 : 65 ≤ (c.toNat : Int) := by unfold upc at hu; simp at hu; omega
        have h2 : (c.toNat : Int) ≤ 90 := by unfold upc at hu; simp at hu; omega
        have hs : (c.toNat : Int) + 32 = ((lowc c).toNat : Int) := (lowc_up hu).symm
        clear hu
        go_wp2_with (go_at_call 70; (with_reducible refine (NumDiv.in_yes _ _ _ _ h1 h2).mono ?_); rintro e w' ⟨rfl, rfl⟩)
        go_roundw
        case rel => exact ⟨k + 1, HK.out, by go_num, by rw [← HM.out]; exact HS.out, below_set _ HB.out (Nat.le_refl _)⟩
        case measure => simp [intOf]; omega
    · have HE := Lib.hid (lowk_all (l := s.data.toList) (k := k) (by omega))
      have hbk := back wr w.heap.size cap (lowk s.data.toList k) hat
      rw [lowk_len, hL] at hbk
      have HB := Lib.hid hb
      clear hat hL hb
      go_wp2
      go_ret
      exact ⟨ret_str HE.out, HB.out⟩

end Go.Proofs.YtobhdfkhfmpdlaaDoor.Tx
