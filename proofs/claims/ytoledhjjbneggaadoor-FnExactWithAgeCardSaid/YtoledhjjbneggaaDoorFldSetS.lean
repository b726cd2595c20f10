/-
  CONTRACT of the model's SetField: in new memory, the fields with this value as the only one with this name; nothing that was there before is changed.
-/
import Derived.Test.YtoledhjjbneggaaDoorFldSetI
namespace Go.Proofs.YtoledhjjbneggaaDoor.Flds
open Go Go.RowKit
set_option linter.unusedVariables false
set_option maxRecDepth 1000000

def setm (n u : List UInt8) (l : List Fld) : List Fld := (setl n false l).map (pv n u)
theorem setm_more (n u : List UInt8) {l : List Fld} {k : Nat} (h : k < l.length) : setm n u (l.take (k + 1)) = setm n u (l.take k) ++ (if (l.getD k nofld).1 = n ∧ sn n (l.take k) = true then [] else [pv n u (l.getD k nofld)]) := by
  unfold setm
  rw [setl_more h, List.map_append]
  split <;> rfl
theorem setm_len (n u : List UInt8) (l : List Fld) : (setm n u l).length ≤ l.length := by unfold setm; rw [List.length_map]; exact setl_len n false l

set_option maxHeartbeats 2000000 in
theorem spec_set (v : Value) (B : Nat) (l : List Fld) (n u : List UInt8) (w : World) (h : Holds w B v l) (hB : B ≤ w.heap.size) (hl : l.length ≤ 1048576) :
    Calls Tryd.prog 30 #[v, .string ⟨n.toArray⟩, .string ⟨u.toArray⟩] w (FilterEnd (fin n u l) w) := by
  obtain ⟨i0, hi, hz0, hz1, hz2⟩ := info_parts info_fld
  obtain ⟨a, cap, rfl, ha⟩ := shape_any h
  have HA := Lib.hid ha
  have HO := Lib.hid (own_lit_nil w)
  clear ha h
  go_enter Tryd.func30, Tryd.ntmps30
  go_wp2
  go_loopw [7, 8, 9] (fun v q i wr => ∃ k : Nat, k ≤ l.length ∧ i = .int .i64 (k : Int) ∧ q = .bool (sn n (l.take k)) ∧ Own wr w.heap.size v (setm n u (l.take k)) ∧ Below w.heap.size w wr) (fun _ _ i _ => l.length - (intOf i).toNat)
  case atStart => exact ⟨0, Nat.zero_le _, rfl, rfl, by rw [List.take_zero]; exact HO.out, (Below.refl _ _).alloc (Nat.le_refl _) _⟩
  case round =>
    clear HO
    obtain ⟨k, hk, rfl, rfl, hown, hb⟩ := hrel
    by_cases hlt : k < l.length
    · obtain ⟨b, off, rfl, hbl, hc⟩ := HA.out (by omega)
      obtain ⟨c1, c2⟩ := at_below hc hb (by omega) k hlt
      have HM := Lib.hid (setm_more n u hlt)
      have HN := Lib.hid (sn_more (n := n) hlt)
      have hL := fcs_len (setm n u (l.take k))
      have HL := Lib.hid (show (setm n u (l.take k)).length ≤ 1048576 by have h1 := setm_len n u (l.take k); have h2 := List.length_take_le' k l; omega)
      generalize hx : l.getD k nofld = f at c1 c2 HM HN
      clear hx hc
      obtain ⟨x, y⟩ := f
      unfold sv at c1 c2
      simp only at HM HN
      generalize sn n (l.take k) = s at HM HN ⊢
      by_cases hx : x = n
      · subst hx
        have hp : pv x u (x, y) = (x, u) := by unfold pv; rw [if_pos rfl]
        rw [hp] at HM
        clear hp
        have HN' : Hid (sn x (l.take (k + 1)) = true) := Lib.hid (by rw [HN.out]; simp)
        cases s
        · rw [if_neg (by simp)] at HM
          go_wp2_with (at_builtin; refine wpList_append_own _ rfl (.tmp 35) (.tmp 39) 32 rfl w.heap.size 60 i0 (.agg #[.string ⟨#[]⟩, .string ⟨#[]⟩]) 2 32 Tryd.underlying32 hi hz0 hz1 hz2 rfl (by decide) _ _ _ rfl (hown.alloc _) ⟨wr.heap.size, 0, none⟩ 1 1 [.string ⟨x.toArray⟩, .string ⟨u.toArray⟩] rfl rfl (news_two _ _ _ _) (two_one (x, u)) (by have := HL.out; unfold maxLen; omega) (by have := HL.out; omega) (by have := hb.size; simp; omega) ?_; intro v1 w1 hown1 hg1 _)
          have R := Lib.hid (push_own (f := (x, u)) hown hb (Nat.le_refl _) hown1 hg1)
          clear hown hown1 hg1 hb
          go_wp2
          go_roundw
          case rel => exact ⟨k + 1, by omega, by go_num, by rw [HN'.out], by rw [HM.out]; exact R.out.1, R.out.2⟩
          case measure => simp [intOf]; omega
        · rw [if_pos (by simp), List.append_nil] at HM
          have HO := Lib.hid (And.intro hown hb)
          clear hown hb
          go_wp2
          go_roundw
          case rel => exact ⟨k + 1, by omega, by go_num, by rw [HN'.out], by rw [HM.out]; exact HO.out.1, HO.out.2⟩
          case measure => simp [intOf]; omega
      · have hq : (x == n) = false := by simpa using hx
        have hp : pv n u (x, y) = (x, y) := by unfold pv; rw [if_neg hx]
        rw [hp, if_neg (fun e => hx e.1)] at HM
        have HN' : Hid (sn n (l.take (k + 1)) = s) := Lib.hid (by rw [HN.out, hq]; simp)
        clear hp HN
        go_wp2_with (at_builtin; refine wpList_append_own _ rfl (.tmp 25) (.tmp 30) 32 rfl w.heap.size 60 i0 (.agg #[.string ⟨#[]⟩, .string ⟨#[]⟩]) 2 32 Tryd.underlying32 hi hz0 hz1 hz2 rfl (by decide) _ _ _ rfl (hown.alloc _) ⟨wr.heap.size, 0, none⟩ 1 1 [.string ⟨x.toArray⟩, .string ⟨y.toArray⟩] rfl rfl (news_two _ _ _ _) (two_one (x, y)) (by have := HL.out; unfold maxLen; omega) (by have := HL.out; omega) (by have := hb.size; simp; omega) ?_; intro v1 w1 hown1 hg1 _)
        have R := Lib.hid (push_own (f := (x, y)) hown hb (Nat.le_refl _) hown1 hg1)
        clear hown hown1 hg1 hb
        go_wp2
        go_roundw
        case rel => exact ⟨k + 1, by omega, by go_num, by rw [HN'.out], by rw [HM.out]; exact R.out.1, R.out.2⟩
        case measure => simp [intOf]; omega
    · have HE : Hid (l.take k = l) := Lib.hid (by rw [List.take_of_length_le (by omega)])
      rw [HE.out] at hown
      rw [HE.out]
      have HF : Hid (setm n u l ++ (if sn n l = true then [] else [(n, u)]) = fin n u l) := Lib.hid rfl
      have hL := fcs_len (setm n u l)
      have HL := Lib.hid (show (setm n u l).length ≤ 1048576 by have h1 := setm_len n u l; omega)
      generalize sn n l = sq at HF ⊢
      cases sq
      · go_wp2_with (at_builtin; refine wpList_append_own _ rfl (.tmp 43) (.tmp 47) 32 rfl w.heap.size 60 i0 (.agg #[.string ⟨#[]⟩, .string ⟨#[]⟩]) 2 32 Tryd.underlying32 hi hz0 hz1 hz2 rfl (by decide) _ _ _ rfl (hown.alloc _) ⟨wr.heap.size, 0, none⟩ 1 1 [.string ⟨n.toArray⟩, .string ⟨u.toArray⟩] rfl rfl (news_two _ _ _ _) (two_one (n, u)) (by have := HL.out; unfold maxLen; omega) (by have := HL.out; omega) (by have := hb.size; simp; omega) ?_; intro v1 w1 hown1 hg1 _)
        have R := Lib.hid (push_own (f := (n, u)) hown hb (Nat.le_refl _) hown1 hg1)
        rw [show setm n u l ++ [(n, u)] = fin n u l from HF.out] at R
        clear hown hown1 hg1 hb
        go_wp2
        go_ret
        exact ⟨_, rfl, R.out.1, R.out.2⟩
      · have R := Lib.hid (And.intro hown hb)
        rw [show setm n u l = fin n u l from (List.append_nil _).symm.trans HF.out] at R
        clear hown hb
        go_wp2
        go_ret
        exact ⟨_, rfl, R.out.1, R.out.2⟩
end Go.Proofs.YtoledhjjbneggaaDoor.Flds
