/-
  CONTRACT of the program's HashText: at every number and every text it returns the digest of the number and the text's bytes; nothing that was there before is changed.
-/
import Derived.Test.YtebkhailknbnhaaPush
import Derived.Test.YtebkhailknbnhaaHashImpl
namespace Go.Proofs.Ytebkhailknbnhaa.Dg
open Go Go.RowKit
set_option linter.unusedVariables false
set_option maxRecDepth 1000000

def TextI (z : Int) (s : ByteArray) (w : World) (e : Ending) (w' : World) : Prop := e = .returned (.int .i64 (hash (z :: Nums.bytes s))) ∧ Below w.heap.size w w'

set_option maxHeartbeats 1000000 in
theorem impl_text (z : Int) (s : ByteArray) (w : World) (wz : (Lit.int .i64 z).wf = true) (hl : s.size ≤ 1048576) :
    Calls Try.prog 69 #[.int .i64 z, .string s] w (TextI z s w) := by
  obtain ⟨i0, hi, hz0, hz1, hz2⟩ := info_parts Nums.info_int
  have HW := Lib.hid (Nums.text_wf s wz)
  clear wz
  go_enter Try.func69, Try.ntmps69
  go_wp2_with (first | (at_make; refine wpList_make_own _ rfl _ (.tmp 9) 22 rfl w.heap.size 3 i0 (.int .i64 0) 1 Try.underlying22 hi hz0 hz1 .i64 .i64 _ (s.size + 1) rfl rfl (by omega) (by rw [hz2]; omega) (by unfold maxLen; omega) (Nat.le_refl _) ?_; intro w1 hown hgrow; have hb1 : Below w.heap.size w w1 := (Below.refl _ _).grown hgrow (Nat.le_refl _) (fun k e => by cases e)) | (at_builtin; refine wpList_append_own _ rfl (.tmp 11) (.tmp 13) 22 rfl w.heap.size 3 i0 (.int .i64 0) 1 8 Try.underlying22 hi hz0 hz1 hz2 rfl (by decide) _ 0 [] rfl (hown.alloc _) ⟨w1.heap.size, 0, none⟩ 1 1 [.int .i64 z] rfl rfl (Nums.news_one _ _ _) (Nums.one_cell _ _) (by decide) (by decide) (by have := hb1.size; simp; omega) ?_; intro v2 w2 hown2 hgrow2 _))
  have R := Nums.push_own (xs := []) hown hb1 (Nat.le_refl _) hown2 hgrow2
  clear hown hgrow hb1 hown2 hgrow2
  have RR := Lib.hid R
  clear R
  go_loopw [5, 17] (fun v i wr => ∃ k : Nat, k ≤ s.size ∧ i = .int .i64 k ∧ wr.ownsRow w.heap.size 3 1 v (Nums.txt z s k).length ((Nums.txt z s k).map (Value.int .i64)) ∧ Below w.heap.size w wr)
    (fun _ i _ => s.size - (intOf i).toNat)
  case atStart => exact ⟨0, Nat.zero_le _, rfl, by rw [Nums.txt_zero]; exact RR.out.1, RR.out.2⟩
  case round =>
    clear RR
    obtain ⟨k, hk, rfl, hown, hb⟩ := hrel
    by_cases hlt : k < s.size
    · have hub : (s[k].toNat : Int) ≤ 255 := by have := s[k].toNat_lt; omega
      have hub0 : 0 ≤ (s[k].toNat : Int) := by omega
      have HL := Lib.hid (Nums.txt_len (z := z) hk)
      have HS := Lib.hid (Nums.txt_more (z := z) hlt)
      go_wp2_with (at_builtin; refine wpList_append_own _ rfl _ _ 22 rfl w.heap.size 3 i0 (.int .i64 0) 1 8 Try.underlying22 hi hz0 hz1 hz2 rfl (by decide) _ _ _ rfl (hown.alloc _) ⟨wr.heap.size, 0, none⟩ 1 1 [.int .i64 (s[k].toNat : Int)] rfl rfl (Nums.news_one _ _ _) (Nums.one_cell _ _) (by have := HL.out; unfold maxLen; omega) (by have := HL.out; omega) (by have := hb.size; simp; omega) ?_; intro v' w1 hown' hgrow _)
      have R := Lib.hid (Nums.push_own hown hb (Nat.le_refl _) hown' hgrow)
      clear hown hown' hgrow hb
      go_wp2
      go_roundw
      case rel => exact ⟨k + 1, by omega, by go_num, by rw [HS.out]; exact R.out.1, R.out.2⟩
      case measure => simp [intOf]; omega
    · have HA := Nums.txt_all z s (show k = s.size by omega)
      rw [HA] at hown
      have HL := Lib.hid (Nums.text_len z s)
      clear HA
      go_wp2_with (fail)
      go_at_call 91
      refine (impl_hash _ _ _ (Nums.own_holds hown) HW.out (by have := HL.out; omega)).mono ?_
      rintro e w' ⟨rfl, rfl⟩
      go_wp2
      go_ret
      exact ⟨rfl, hb⟩
end Go.Proofs.Ytebkhailknbnhaa.Dg
