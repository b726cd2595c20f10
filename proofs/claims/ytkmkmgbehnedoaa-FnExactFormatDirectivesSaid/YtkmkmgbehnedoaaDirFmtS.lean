/-
  CONTRACT of the model's FormatDirectives: the directives' texts, joined; nothing that was there before is changed.
-/
import Derived.Test.YtkmkmgbehnedoaaDirFmtM
import Derived.Test.YtkmkmgbehnedoaaQuoS
import Derived.Test.YtkmkmgbehnedoaaJoinS
import Derived.Test.YtkmkmgbehnedoaaTokFn
import Derived.Outline
namespace Go.Proofs.Ytkmkmgbehnedoaa.Dir
open Go Go.RowKit
set_option linter.unusedVariables false

set_option maxHeartbeats 4000000 in
theorem spec_fmt (v : Value) (B : Nat) (l : List T) (w : World) (h : Holds w B v l) (hB : B ≤ w.heap.size) (hl : total l ≤ 1048576) :
    Calls Try.prog 7 #[v] w (Txt (fmt l) w) := by
  obtain ⟨i0, hi, hz0, hz1, hz2⟩ := info_parts Strs.info_str
  have hll : l.length ≤ 1048576 := Nat.le_trans (len_le_total l) hl
  have HT := Lib.hid hl
  have hshape : ∃ a cap, v = .slice a l.length cap ∧ (0 < l.length → ∃ b off, a = some ⟨b, off, none⟩ ∧ b < w.heap.size ∧ At w b off l) := by
    rcases h with ⟨rfl, a, cap, rfl⟩ | ⟨h0, b, off, cap, rfl, hb, _, hc⟩
    · exact ⟨a, cap, rfl, fun h => by simp at h⟩
    · exact ⟨_, cap, rfl, fun _ => ⟨b, off, rfl, by omega, hc⟩⟩
  obtain ⟨a, cap, rfl, ha⟩ := hshape
  have HA := Lib.hid ha
  have HO := Lib.hid (Strs.own_lit_nil w)
  clear ha h hl
  go_enter Try.func7, Try.ntmps7
  go_wp2
  go_loopw [3, 4] (fun u i wr => ∃ k : Nat, k ≤ l.length ∧ i = .int .i64 (k : Int) ∧ Strs.Own wr w.heap.size u (dtxs (l.take k)) ∧ Below w.heap.size w wr) (fun _ i _ => l.length - (intOf i).toNat)
  case atStart => exact ⟨0, Nat.zero_le _, rfl, by rw [List.take_zero]; exact HO.out, (Below.refl _ _).alloc (Nat.le_refl _) _⟩
  case round =>
    clear HO
    obtain ⟨k, hk, rfl, hown, hb⟩ := hrel
    by_cases hlt : k < l.length
    · obtain ⟨b, off, rfl, hbw, hc⟩ := HA.out (by omega)
      obtain ⟨c0, c1, c2⟩ := at_cells (at_below hc hb hbw) hlt
      have HM := Lib.hid (dtxs_more hlt)
      have HLE : Hid ((l.getD k nov).1.length + (l.getD k nov).2.1.length ≤ 1048576) := Lib.hid (Nat.le_trans (at_le hlt) HT.out)
      have HDL : Hid ((dtxs (l.take k)).length ≤ 1048576) := Lib.hid (by rw [dtxs_len, List.length_take]; omega)
      clear hc
      generalize l.getD k nov = f at c0 c1 c2 HM HLE
      obtain ⟨x, y, z⟩ := f
      dsimp only at c0 c1 c2 HLE
      generalize dtxs (l.take k) = ds at hown HM HDL
      have HB := Lib.hid hb
      have hL := Strs.svs_len ds
      have hsy : (⟨y.toArray⟩ : ByteArray).size = y.length := by simp [ByteArray.size]
      have HT2 := Lib.hid (fun W => Tx.spec_token ⟨y.toArray⟩ W (by rw [hsy]; have := HLE.out; omega))
      have a1 := Tx.addtwo x [61] (by have := HLE.out; simp only [List.length_cons, List.length_nil]; omega)
      cases z with
      | false =>
        rw [dtx_no] at HM
        clear hb a1 hsy
        go_wp2_with (at_builtin; refine wpList_append_own _ rfl (.tmp 46) (.tmp 48) 35 rfl w.heap.size 9 i0 (.string ⟨#[]⟩) 1 16 Try.underlying35 hi hz0 hz1 hz2 rfl (by decide) _ _ _ rfl (hown.alloc _) ⟨wr.heap.size, 0, none⟩ 1 1 [.string ⟨x.toArray⟩] rfl rfl (Strs.news_one _ _ _) (Strs.sv_one x) (by have := HDL.out; unfold maxLen; omega) (by have := HDL.out; omega) (by have := HB.out.size; simp; omega) ?_; intro v1 w2 hown1 hg1 _)
        have R := Lib.hid (Strs.push_own (x := x) hown HB.out (Nat.le_refl _) hown1 hg1)
        clear hown hown1 hg1
        go_wp2
        go_roundw
        case rel => exact ⟨k + 1, by omega, by go_num, by rw [HM.out]; exact R.out.1, R.out.2⟩
        case measure => simp [intOf]; omega
      | true =>
        cases hz : Tx.token y with
        | true =>
          rw [dtx_tok hz] at HM
          have a2 := Tx.addtwo (x ++ [61]) y (by have := HLE.out; simp only [List.length_append, List.length_cons, List.length_nil]; omega)
          generalize hx1 : x ++ [61] = x1 at a1 a2 HM
          generalize hx2 : x1 ++ y = x2 at a2 HM
          have HZ : Hid (Tx.token (⟨y.toArray⟩ : ByteArray).data.toList = true) := Lib.hid hz
          clear hx1 hx2 hz hsy hb
          go_wp2_with (fail)
          go_at_call 16
          refine (HT2.out _).mono ?_
          rintro e w1 ⟨he, rfl⟩
          rw [HZ.out] at he
          subst he
          go_wp2_with (at_builtin; refine wpList_append_own _ rfl (.tmp 46) (.tmp 48) 35 rfl w.heap.size 9 i0 (.string ⟨#[]⟩) 1 16 Try.underlying35 hi hz0 hz1 hz2 rfl (by decide) _ _ _ rfl (hown.alloc _) ⟨wr.heap.size, 0, none⟩ 1 1 [.string ⟨x2.toArray⟩] rfl rfl (Strs.news_one _ _ _) (Strs.sv_one x2) (by have := HDL.out; unfold maxLen; omega) (by have := HDL.out; omega) (by have := HB.out.size; simp; omega) ?_; intro v1 w2 hown1 hg1 _)
          have R := Lib.hid (Strs.push_own (x := x2) hown HB.out (Nat.le_refl _) hown1 hg1)
          clear hown hown1 hg1
          go_wp2
          go_roundw
          case rel => exact ⟨k + 1, by omega, by go_num, by rw [HM.out]; exact R.out.1, R.out.2⟩
          case measure => simp [intOf]; omega
        | false =>
          rw [dtx_quo hz] at HM
          have HQ : Hid (∀ W : World, Calls Try.prog 17 #[.string ⟨y.toArray⟩] W fun e w' => e = .returned (.string ⟨(Tx.quo y).toArray⟩) ∧ Below W.heap.size W w') := Lib.hid (fun W => Tx.spec_quote ⟨y.toArray⟩ W (by rw [hsy]; have := HLE.out; omega))
          have hq := quo_len y
          generalize Tx.quo y = r at HM HQ hq
          have a2 := Tx.addtwo (x ++ [61]) r (by have := HLE.out; simp only [List.length_append, List.length_cons, List.length_nil]; omega)
          generalize hx1 : x ++ [61] = x1 at a1 a2 HM
          generalize hx2 : x1 ++ r = x2 at a2 HM
          have HZ : Hid (Tx.token (⟨y.toArray⟩ : ByteArray).data.toList = false) := Lib.hid hz
          have HO := Lib.hid hown
          clear hx1 hx2 hq hz hsy hb hown
          go_wp2_with (fail)
          go_at_call 16
          refine (HT2.out _).mono ?_
          rintro e w1 ⟨he, rfl⟩
          rw [HZ.out] at he
          subst he
          go_wp2_with (fail)
          go_at_call 17
          refine (HQ.out _).mono ?_
          rintro e w1 ⟨rfl, hb1⟩
          have hown := Rec.row_below HO.out hb1
          have HB1 := Lib.hid (Base.then_below HB.out hb1)
          clear hb1
          go_wp2_with (at_builtin; refine wpList_append_own _ rfl (.tmp 46) (.tmp 48) 35 rfl w.heap.size 9 i0 (.string ⟨#[]⟩) 1 16 Try.underlying35 hi hz0 hz1 hz2 rfl (by decide) _ _ _ rfl (hown.alloc _) ⟨w1.heap.size, 0, none⟩ 1 1 [.string ⟨x2.toArray⟩] rfl rfl (Strs.news_one _ _ _) (Strs.sv_one x2) (by have := HDL.out; unfold maxLen; omega) (by have := HDL.out; omega) (by have := HB1.out.size; simp; omega) ?_; intro v1 w2 hown1 hg1 _)
          have R := Lib.hid (Strs.push_own (x := x2) hown HB1.out (Nat.le_refl _) hown1 hg1)
          clear hown hown1 hg1
          go_wp2
          go_roundw
          case rel => exact ⟨k + 1, by omega, by go_num, by rw [HM.out]; exact R.out.1, R.out.2⟩
          case measure => simp [intOf]; omega
    · have HE : Hid (dtxs (l.take k) = dtxs l) := Lib.hid (by rw [List.take_of_length_le (by omega)])
      obtain ⟨a', cp', rfl, _⟩ := Rec.shape_at hown
      have HJ := Lib.hid (Tx.spec_join _ _ (dtxs (l.take k)) wr (Strs.own_holds hown) (by rw [HE.out]; have := dtxs_total l; have := HT.out; omega))
      have HB := Lib.hid hb
      clear hown hb
      go_wp2_with (fail)
      go_at_call 18
      refine HJ.out.mono ?_
      rintro e w1 ⟨rfl, hb1⟩
      go_wp2
      go_ret
      exact ⟨ret_txt (by unfold fmt; rw [HE.out]), Base.then_below HB.out hb1⟩
end Go.Proofs.Ytkmkmgbehnedoaa.Dir
