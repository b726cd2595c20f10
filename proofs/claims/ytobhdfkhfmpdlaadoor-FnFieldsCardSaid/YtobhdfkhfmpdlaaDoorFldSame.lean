/-
  CONTRACTS of SameFields, the model's and the program's (by slices.Equal): whether the two lists of fields are the same; nothing that was there before is changed.
-/
import Derived.Test.YtobhdfkhfmpdlaaDoorFldEq
namespace Go.Proofs.YtobhdfkhfmpdlaaDoor.Flds
open Go Go.RowKit
set_option linter.unusedVariables false
set_option maxRecDepth 1000000

theorem take_more_eq {l l' : List Fld} {k : Nat} (h : l.take k = l'.take k) (h1 : k < l.length) (h2 : k < l'.length) (e : l.getD k nofld = l'.getD k nofld) : l.take (k + 1) = l'.take (k + 1) := by
  have e' : l[k] = l'[k] := by simpa [List.getD, h1, h2] using e
  rw [List.take_succ_eq_append_getElem h1, List.take_succ_eq_append_getElem h2, h, e']
theorem ne_of_getD {l l' : List Fld} {k : Nat} (e : l.getD k nofld ≠ l'.getD k nofld) : l ≠ l' := fun h => e (by rw [h])
theorem ret_yes {l l' : List Fld} (h : l = l') : Ending.returned (.bool true) = .returned (.bool (decide (l = l'))) := by rw [decide_eq_true h]
theorem ret_no {l l' : List Fld} (h : l ≠ l') : Ending.returned (.bool false) = .returned (.bool (decide (l = l'))) := by rw [decide_eq_false h]

def SameEnd (l l' : List Fld) (w : World) (e : Ending) (w' : World) : Prop := e = .returned (.bool (decide (l = l'))) ∧ Below w.heap.size w w'

/-! The program's: slices.Equal at fields. -/
theorem eqq_nil (a a' : Option Addr) (cap cap' : Nat) (w : World) :
    Calls Tryd.prog 47 #[.slice a 0 cap, .slice a' 0 cap'] w (SameEnd [] [] w) := by
  go_enter Tryd.func47, Tryd.ntmps47
  go_wp2
  go_loop [13] (fun i => i = .int .i64 0) (fun i => 0)
  case atStart => rfl
  case round =>
    obtain rfl := hrel
    go_wp2
    go_ret
    exact ⟨rfl, Below.refl _ _⟩

theorem eqq_len (a a' : Option Addr) (cap cap' n m : Nat) (l l' : List Fld) (w : World) (hn : n = l.length) (hm : m = l'.length) (hne : n ≠ m) (h1 : n ≤ 1048576) (h2 : m ≤ 1048576) :
    Calls Tryd.prog 47 #[.slice a n cap, .slice a' m cap'] w (SameEnd l l' w) := by
  have HN := Lib.hid (show l ≠ l' from fun h => hne (by rw [hn, hm, h]))
  have hni : ¬ (n : Int) = (m : Int) := by omega
  clear hn hm
  go_enter Tryd.func47, Tryd.ntmps47
  go_wp2
  go_ret
  exact ⟨ret_no HN.out, Below.refl _ _⟩

set_option maxHeartbeats 2000000 in
theorem eqq_some (b off cap b' off' cap' : Nat) (l l' : List Fld) (n : Nat) (w : World) (hc : At w b off l) (hc' : At w b' off' l') (h0 : 0 < n) (hl : n ≤ 1048576) (hn : l.length = n) (hn' : l'.length = n) :
    Calls Tryd.prog 47 #[.slice (some ⟨b, off, none⟩) n cap, .slice (some ⟨b', off', none⟩) n cap'] w (SameEnd l l' w) := by
  have hbl := at_lt hc (by omega)
  have hbl' := at_lt hc' (by omega)
  have HC := Lib.hid hc
  have HC' := Lib.hid hc'
  have HN := Lib.hid (And.intro hn hn')
  clear hc hc' hn hn'
  go_enter Tryd.func47, Tryd.ntmps47
  go_wp2
  go_loopw [13] (fun i wr => ∃ k : Nat, k ≤ n ∧ i = .int .i64 k ∧ Hid (l.take k = l'.take k) ∧ Below w.heap.size w wr) (fun i _ => n - (intOf i).toNat)
  case atStart => exact ⟨0, Nat.zero_le _, rfl, rfl, Below.refl _ _⟩
  case round =>
    obtain ⟨k, hk, rfl, he, hb⟩ := hrel
    by_cases hlt : k < n
    · obtain ⟨c1, c2⟩ := at_below HC.out hb hbl k (by have := HN.out.1; omega)
      obtain ⟨c1', c2'⟩ := at_below HC'.out hb hbl' k (by have := HN.out.2; omega)
      have HT : Hid (l.getD k nofld = l'.getD k nofld → l.take (k + 1) = l'.take (k + 1)) := Lib.hid (fun e => take_more_eq he.out (by have := HN.out.1; omega) (by have := HN.out.2; omega) e)
      have HF : Hid (l.getD k nofld ≠ l'.getD k nofld → l ≠ l') := Lib.hid (fun e => ne_of_getD e)
      have HB := Lib.hid (below_drew hb)
      clear hb he
      generalize l.getD k nofld = f at c1 c2 HT HF
      generalize l'.getD k nofld = f' at c1' c2' HT HF
      obtain ⟨x, y⟩ := f
      obtain ⟨x', y'⟩ := f'
      unfold sv at c1 c2 c1' c2'
      by_cases e1 : x = x'
      · subst e1
        by_cases e2 : y = y'
        · subst e2
          have HT' := Lib.hid (HT.out rfl)
          clear HT HF
          go_wp2
          all_goals go_region
          all_goals go_wp2
          all_goals go_roundw
          case rel => exact ⟨k + 1, by omega, by go_num, HT'.out, HB.out⟩
          case measure => simp [intOf]; omega
        · have HF' := Lib.hid (HF.out (fun h => e2 (Prod.mk.inj h).2))
          clear HT HF
          go_wp2
          all_goals go_region
          all_goals go_wp2
          all_goals go_ret
          all_goals exact ⟨ret_no HF'.out, HB.out⟩
      · have HF' := Lib.hid (HF.out (fun h => e1 (Prod.mk.inj h).1))
        clear HT HF
        go_wp2
        all_goals go_region
        all_goals go_wp2
        all_goals go_ret
        all_goals exact ⟨ret_no HF'.out, HB.out⟩
    · have HE : Hid (l = l') := Lib.hid (by have h := he.out; have := HN.out; rwa [List.take_of_length_le (by omega), List.take_of_length_le (by omega)] at h)
      have HB := Lib.hid hb
      clear hb he
      go_wp2
      go_ret
      exact ⟨ret_yes HE.out, HB.out⟩

theorem eqq (v v' : Value) (B B' : Nat) (l l' : List Fld) (w : World) (h : Holds w B v l) (h' : Holds w B' v' l') (h1 : l.length ≤ 1048576) (h2 : l'.length ≤ 1048576) :
    Calls Tryd.prog 47 #[v, v'] w (SameEnd l l' w) := by
  rcases h with ⟨rfl, a, cap, rfl⟩ | ⟨h0, b, off, cap, rfl, _, _, hc⟩
  · rcases h' with ⟨rfl, a', cap', rfl⟩ | ⟨h0, b', off', cap', rfl, _, _, hc'⟩
    · exact eqq_nil a a' cap cap' w
    · exact eqq_len _ _ _ _ _ _ _ _ w rfl rfl (by simp; omega) (by simp) h2
  · rcases h' with ⟨rfl, a', cap', rfl⟩ | ⟨h0', b', off', cap', rfl, _, _, hc'⟩
    · exact eqq_len _ _ _ _ _ _ _ _ w rfl rfl (by show l.length ≠ 0; omega) h1 (by simp)
    · by_cases e : l.length = l'.length
      · rw [← e]; exact eqq_some b off cap b' off' cap' l l' _ w hc hc' h0 h1 rfl e.symm
      · exact eqq_len _ _ _ _ _ _ _ _ w rfl rfl e h1 h2

theorem impl_same (v v' : Value) (B B' : Nat) (l l' : List Fld) (w : World) (h : Holds w B v l) (h' : Holds w B' v' l') (h1 : l.length ≤ 1048576) (h2 : l'.length ≤ 1048576) :
    Calls Tryd.prog 17 #[v, v'] w (SameEnd l l' w) := by
  have HQ := Lib.hid (eqq v v' B B' l l' w h h' h1 h2)
  clear h h'
  go_enter Tryd.func17, Tryd.ntmps17
  go_wp2_with (go_at_call 47; refine HQ.out.mono ?_; rintro e w1 ⟨rfl, hb⟩)
  go_ret
  exact ⟨rfl, hb⟩
end Go.Proofs.YtobhdfkhfmpdlaaDoor.Flds
