/-
  CONTRACT of the program's FormatDirectives: the directives' texts, joined; nothing that was there before is changed.
-/
import Derived.Test.YtkmkmgbehnedoaaDirFmtM
import Derived.Test.YtkmkmgbehnedoaaQuoI
import Derived.Test.YtkmkmgbehnedoaaJoinI
import Derived.Test.YtkmkmgbehnedoaaTokFn
import Derived.Outline
import Derived.RegionTactic
import Derived.Deep.RegionWith
namespace Go.Proofs.Ytkmkmgbehnedoaa.Dir
open Go Go.RowKit
set_option linter.unusedVariables false

set_option maxHeartbeats 1000000 in
theorem impl_dtx (x y : List UInt8) (z : Bool) (w : World) (hl : x.length + y.length ≤ 1048576) :
    Calls Try.prog 20 #[.agg #[.string ⟨x.toArray⟩, .string ⟨y.toArray⟩, .bool z]] w (Txt (dtx (x, y, z)) w) := by
  cases z with
  | false =>
    go_enter Try.func20, Try.ntmps20
    go_wp2
    go_ret
    exact ⟨rfl, (Below.refl _ _).alloc (Nat.le_refl _) _⟩
  | true =>
    have hsy : (⟨y.toArray⟩ : ByteArray).size = y.length := by simp [ByteArray.size]
    have a1 := Tx.addtwo x [61] (by simp only [List.length_cons, List.length_nil]; omega)
    have HT := Lib.hid (fun W => Tx.impl_token ⟨y.toArray⟩ W (by rw [hsy]; omega))
    cases hz : Tx.token y with
    | true =>
      have HE := Lib.hid (dtx_tok (x := x) hz)
      have a2 := Tx.addtwo (x ++ [61]) y (by simp only [List.length_append, List.length_cons, List.length_nil]; omega)
      generalize hx1 : x ++ [61] = x1 at a1 a2 HE
      generalize hx2 : x1 ++ y = x2 at a2 HE
      clear hx1 hx2
      have HZ : Hid (Tx.token (⟨y.toArray⟩ : ByteArray).data.toList = true) := Lib.hid hz
      clear hz hsy
      go_enter Try.func20, Try.ntmps20
      go_wp2_with (fail)
      go_at_call 25
      refine (HT.out _).mono ?_
      rintro e w1 ⟨he, rfl⟩
      rw [HZ.out] at he
      subst he
      go_wp2
      go_ret
      exact ⟨ret_txt HE.out.symm, (Below.refl _ _).alloc (Nat.le_refl _) _⟩
    | false =>
      have HE := Lib.hid (dtx_quo (x := x) hz)
      have HQ : Hid (∀ W : World, Calls Try.prog 26 #[.string ⟨y.toArray⟩] W fun e w' => e = .returned (.string ⟨(Tx.quo y).toArray⟩) ∧ Below W.heap.size W w') := Lib.hid (fun W => Tx.impl_quote ⟨y.toArray⟩ W (by rw [hsy]; omega))
      have hq := quo_len y
      generalize Tx.quo y = r at HE HQ hq
      have a2 := Tx.addtwo (x ++ [61]) r (by simp only [List.length_append, List.length_cons, List.length_nil]; omega)
      generalize hx1 : x ++ [61] = x1 at a1 a2 HE
      generalize hx2 : x1 ++ r = x2 at a2 HE
      clear hx1 hx2 hq
      have HZ : Hid (Tx.token (⟨y.toArray⟩ : ByteArray).data.toList = false) := Lib.hid hz
      clear hz hsy
      have HB : Hid (∀ (W w1 : World), Below (W.alloc (.cells #[.string ⟨x.toArray⟩, .string ⟨y.toArray⟩, .bool true] 36)).heap.size (W.alloc (.cells #[.string ⟨x.toArray⟩, .string ⟨y.toArray⟩, .bool true] 36)) w1 → Below W.heap.size W w1 ∧ w1.cell? ⟨W.heap.size, 0, none⟩ = some (.string ⟨x.toArray⟩) ∧ w1.cell? ⟨W.heap.size, 1, none⟩ = some (.string ⟨y.toArray⟩)) := Lib.hid (fun W w1 h => by
        refine ⟨((Below.refl _ _).alloc (Nat.le_refl _) _).trans (h.mono (by simp)), ?_, ?_⟩
        · rw [h.cell (p := ⟨W.heap.size, 0, none⟩) (by simp), World.cell?_alloc_new]; rfl
        · rw [h.cell (p := ⟨W.heap.size, 1, none⟩) (by simp), World.cell?_alloc_new]; rfl)
      go_enter Try.func20, Try.ntmps20
      go_wp2_with (fail)
      go_at_call 25
      refine (HT.out _).mono ?_
      rintro e w1 ⟨he, rfl⟩
      rw [HZ.out] at he
      subst he
      go_wp2
      go_region_with (go_at_call 26; refine (HQ.out _).mono ?_; rintro e w1 ⟨rfl, hb1⟩; have h2 := HB.out _ _ (Rec.below_of_drew hb1); have hc1 := h2.2.1; have hc2 := h2.2.2; have HBB := Lib.hid h2.1; clear hb1 h2)
      all_goals go_wp2
      all_goals go_ret
      all_goals exact ⟨ret_txt HE.out.symm, HBB.out⟩

set_option maxHeartbeats 2000000 in
theorem impl_fmt (v : Value) (B : Nat) (l : List T) (w : World) (h : Holds w B v l) (hB : B ≤ w.heap.size) (hl : total l ≤ 1048576) :
    Calls Try.prog 9 #[v] w (Txt (fmt l) w) := by
  obtain ⟨i0, hi, hz0, hz1, hz2⟩ := info_parts Strs.info_str
  have hll : l.length ≤ 1048576 := Nat.le_trans (len_le_total l) hl
  have HT := Lib.hid hl
  have hshape : ∃ a cap, v = .slice a l.length cap ∧ (0 < l.length → ∃ b off, a = some ⟨b, off, none⟩ ∧ b < w.heap.size ∧ At w b off l) := by
    rcases h with ⟨rfl, a, cap, rfl⟩ | ⟨h0, b, off, cap, rfl, hb, _, hc⟩
    · exact ⟨a, cap, rfl, fun h => by simp at h⟩
    · exact ⟨_, cap, rfl, fun _ => ⟨b, off, rfl, by omega, hc⟩⟩
  obtain ⟨a, cap, rfl, ha⟩ := hshape
  have HA := Lib.hid ha
  have HO := Lib.hid (Strs.own_lit_nil w)
  clear ha h hl
  go_enter Try.func9, Try.ntmps9
  go_wp2
  go_loopw [3, 9] (fun u i wr => ∃ k : Nat, k ≤ l.length ∧ i = .int .i64 (k : Int) ∧ Strs.Own wr w.heap.size u (dtxs (l.take k)) ∧ Below w.heap.size w wr) (fun _ i _ => l.length - (intOf i).toNat)
  case atStart => exact ⟨0, Nat.zero_le _, rfl, by rw [List.take_zero]; exact HO.out, (Below.refl _ _).alloc (Nat.le_refl _) _⟩
  case round =>
    clear HO
    obtain ⟨k, hk, rfl, hown, hb⟩ := hrel
    by_cases hlt : k < l.length
    · obtain ⟨b, off, rfl, hbw, hc⟩ := HA.out (by omega)
      obtain ⟨c0, c1, c2⟩ := at_cells (at_below hc hb hbw) hlt
      have HM := Lib.hid (dtxs_more hlt)
      have HLE : Hid ((l.getD k nov).1.length + (l.getD k nov).2.1.length ≤ 1048576) := Lib.hid (Nat.le_trans (at_le hlt) HT.out)
      have HDL : Hid ((dtxs (l.take k)).length ≤ 1048576) := Lib.hid (by rw [dtxs_len, List.length_take]; omega)
      clear hc
      generalize l.getD k nov = f at c0 c1 c2 HM HLE
      obtain ⟨x, y, z⟩ := f
      dsimp only at c0 c1 c2
      generalize dtxs (l.take k) = ds at hown HM HDL
      have HB := Lib.hid hb
      have HOA := Lib.hid hown
      clear hown hb
      go_wp2_with (fail)
      go_at_call 20
      refine (impl_dtx x y z _ HLE.out).mono ?_
      rintro e w1 ⟨rfl, hb1⟩
      have hba : Below wr.heap.size wr w1 := ((Below.refl _ _).alloc (Nat.le_refl _) _).trans (hb1.mono (by simp))
      have hown := Rec.row_below HOA.out hba
      have HB1 := Lib.hid (Base.then_below HB.out hba)
      clear hb1 hba
      generalize hd : dtx (x, y, z) = t at HM
      clear hd
      have hL := Strs.svs_len ds
      go_wp2_with (at_builtin; refine wpList_append_own _ rfl (.tmp 13) (.tmp 16) 35 rfl w.heap.size 9 i0 (.string ⟨#[]⟩) 1 16 Try.underlying35 hi hz0 hz1 hz2 rfl (by decide) _ _ _ rfl (hown.alloc _) ⟨w1.heap.size, 0, none⟩ 1 1 [.string ⟨t.toArray⟩] rfl rfl (Strs.news_one _ _ _) (Strs.sv_one t) (by have := HDL.out; unfold maxLen; omega) (by have := HDL.out; omega) (by have := HB1.out.size; simp; omega) ?_; intro v1 w2 hown1 hg1 _)
      have R := Lib.hid (Strs.push_own (x := t) hown HB1.out (Nat.le_refl _) hown1 hg1)
      clear hown hown1 hg1
      go_wp2
      go_roundw
      case rel => exact ⟨k + 1, by omega, by go_num, by rw [HM.out]; exact R.out.1, R.out.2⟩
      case measure => simp [intOf]; omega
    · have HE : Hid (dtxs (l.take k) = dtxs l) := Lib.hid (by rw [List.take_of_length_le (by omega)])
      obtain ⟨a', cp', rfl, _⟩ := Rec.shape_at hown
      have HJ := Lib.hid (Tx.impl_join _ _ (dtxs (l.take k)) wr (Strs.own_holds hown) (by rw [HE.out]; have := dtxs_total l; have := HT.out; omega))
      have HB := Lib.hid hb
      clear hown hb
      go_wp2_with (fail)
      go_at_call 21
      refine HJ.out.mono ?_
      rintro e w1 ⟨rfl, hb1⟩
      go_wp2
      go_ret
      exact ⟨ret_txt (by unfold fmt; rw [HE.out]), Base.then_below HB.out hb1⟩
end Go.Proofs.Ytkmkmgbehnedoaa.Dir
