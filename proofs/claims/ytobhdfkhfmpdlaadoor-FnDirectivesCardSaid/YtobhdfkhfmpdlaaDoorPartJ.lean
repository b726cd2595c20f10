/-
  CONTRACTS AND PLAIN FACTS, several texts in one; each says in its own words what it proves.
-/
import Derived.Test.YtobhdfkhfmpdlaaDoorPartH
import Derived.LoopTactic
import Derived.Deep.QuietTactic
import Derived.BigQuiet
import Derived.Test.YtobhdfkhfmpdlaaDoorPartD
import Derived.Test.YtobhdfkhfmpdlaaDoorPartG
import Derived.Test.YtobhdfkhfmpdlaaDoorPartB
import Derived.Test.YtobhdfkhfmpdlaaDoorPartI
import Derived.Outline
import Derived.RegionTactic
set_option linter.unusedSimpArgs false
set_option linter.unusedVariables false

/-
  CONTRACT of the program's UnquoteText: at every text it returns what a quoted string means and whether the text is just one; nothing that was there before is changed.
-/
namespace Go.Proofs.YtobhdfkhfmpdlaaDoor.Tx
open Go Go.RowKit Bys
set_option linter.unusedVariables false
set_option maxRecDepth 1000000

set_option maxRecDepth 1000000 in
set_option maxHeartbeats 2000000 in
theorem impl_unquote (s : ByteArray) (w : World) (hs : s.size ≤ 1048576) :
    Calls Tryd.prog 82 #[.string s] w (Unq s.data.toList w) := by
  obtain ⟨i0, hi, hz0, hz1, hz2⟩ := info_parts info_byte
  have HO := Lib.hid (own_lit_nil w)
  go_enter Tryd.func82, Tryd.ntmps82
  go_wp2
  go_loopw [4, 5] (fun v i wr => ∃ (k : Nat) (l : List UInt8), 1 ≤ k ∧ k ≤ s.size + 1 ∧ i = .int .i64 k ∧ Own wr w.heap.size v l ∧ UQ s k l ∧ Below w.heap.size w wr) (fun _ i _ => s.size + 1 - (intOf i).toNat)
  case atStart => exact ⟨1, [], by omega, by omega, rfl, HO.out, uq_start s, (Below.refl _ _).alloc (Nat.le_refl _) _⟩
  case round =>
    clear HO
    obtain ⟨k, l, hk1, hk, rfl, hown, hq, hb⟩ := hrel
    have HL := Lib.hid hq.2.2
    have HQ := Lib.hid hq
    clear hq
    by_cases hlt : k < s.size
    · by_cases hc : s[k] = 34
      · have hz : 0 < s.size := by omega
        have HE := Lib.hid (uq_quote HQ.out hlt hc hz)
        have h34 : ((s[k].toNat : Int) == 34) = true := by rw [e34]; simp [hc]
        have hcv : ∀ n, (convert 22 9 u4).run Tryd.prog (wr.drewN n) = .ok (.string ⟨l.toArray⟩) (wr.drewN n) := fun n => own_str (w := wr.drewN n) (B := w.heap.size) hown
        have HB := Lib.hid hb
        clear hc hown hb
        by_cases h0 : s[0] = 34
        · have g0 : ((s[0].toNat : Int) == 34) = true := by rw [e34]; simp [h0]
          rcases hg1 : ((k : Int) == (s.size : Int) - 1) with _ | _
          all_goals
            rw [hg1, h0] at HE
            clear h0
            go_wp2
            go_quiet (fail)
            go_wp2
            go_ret2
            exact unq_ret HE.out (below_drewN HB.out _) rfl
        · have g0 : ((s[0].toNat : Int) == 34) = false := by rw [e34]; simpa using h0
          have g1 : (s[0] == 34) = false := by simpa using h0
          rw [g1, Bool.false_and] at HE
          clear h0 g1
          go_wp2
          go_quiet (fail)
          go_wp2
          go_ret2
          exact unq_ret HE.out (below_drewN HB.out _) rfl
      · have h34 : ((s[k].toNat : Int) == 34) = false := by rw [e34]; simpa using hc
        by_cases he : s[k] = 92
        · have h92 : ((s[k].toNat : Int) == 92) = true := by rw [e92]; simp [he]
          by_cases hlt1 : k + 1 < s.size
          · have HE := Lib.hid (uq_esc HQ.out hlt hlt1 he)
            have hlt2 : ((k : Int) + 1 < (s.size : Int)) := by omega
            clear hc he
            go_wp2_with (at_builtin; refine wpList_append_own _ rfl (.tmp 42) (.tmp 46) 22 rfl w.heap.size 5 i0 (.int .u8 0) 1 1 Tryd.underlying22 hi hz0 hz1 hz2 rfl (by decide) _ _ _ rfl (hown.alloc _) ⟨wr.heap.size, 0, none⟩ 1 1 [.int .u8 (s[k + 1].toNat : Int)] rfl rfl (news_one _ _ _) (bvl_one _) (by have := HL.out; unfold maxLen; omega) (by have := HL.out; omega) (by have := hb.size; simp; omega) ?_; intro v1 w1 hown1 hg1 _)
            have R := Lib.hid (push_own (c := s[k + 1]) hown hb (Nat.le_refl _) hown1 hg1)
            clear hown hown1 hg1 hb
            go_wp2
            go_roundw
            case rel => exact ⟨k + 1 + 1, _, by omega, by omega, by go_num, R.out.1, HE.out, R.out.2⟩
            case measure => simp [intOf]; omega
          · have HE := Lib.hid (uq_plain HQ.out hlt hc (Or.inr (by omega)))
            have hlt2 : ¬ ((k : Int) + 1 < (s.size : Int)) := by omega
            clear hc he
            go_wp2_with (at_builtin; refine wpList_append_own _ rfl (.tmp 42) (.tmp 46) 22 rfl w.heap.size 5 i0 (.int .u8 0) 1 1 Tryd.underlying22 hi hz0 hz1 hz2 rfl (by decide) _ _ _ rfl (hown.alloc _) ⟨wr.heap.size, 0, none⟩ 1 1 [.int .u8 (s[k].toNat : Int)] rfl rfl (news_one _ _ _) (bvl_one _) (by have := HL.out; unfold maxLen; omega) (by have := HL.out; omega) (by have := hb.size; simp; omega) ?_; intro v1 w1 hown1 hg1 _)
            have R := Lib.hid (push_own (c := s[k]) hown hb (Nat.le_refl _) hown1 hg1)
            clear hown hown1 hg1 hb
            go_wp2
            go_roundw
            case rel => exact ⟨k + 1, _, by omega, by omega, by go_num, R.out.1, HE.out, R.out.2⟩
            case measure => simp [intOf]; omega
        · have h92 : ((s[k].toNat : Int) == 92) = false := by rw [e92]; simpa using he
          have HE := Lib.hid (uq_plain HQ.out hlt hc (Or.inl he))
          clear hc he
          go_wp2_with (at_builtin; refine wpList_append_own _ rfl (.tmp 42) (.tmp 46) 22 rfl w.heap.size 5 i0 (.int .u8 0) 1 1 Tryd.underlying22 hi hz0 hz1 hz2 rfl (by decide) _ _ _ rfl (hown.alloc _) ⟨wr.heap.size, 0, none⟩ 1 1 [.int .u8 (s[k].toNat : Int)] rfl rfl (news_one _ _ _) (bvl_one _) (by have := HL.out; unfold maxLen; omega) (by have := HL.out; omega) (by have := hb.size; simp; omega) ?_; intro v1 w1 hown1 hg1 _)
          have R := Lib.hid (push_own (c := s[k]) hown hb (Nat.le_refl _) hown1 hg1)
          clear hown hown1 hg1 hb
          go_wp2
          go_roundw
          case rel => exact ⟨k + 1, _, by omega, by omega, by go_num, R.out.1, HE.out, R.out.2⟩
          case measure => simp [intOf]; omega
    · have HE := Lib.hid (uq_end HQ.out (by omega))
      have hcv := own_str hown
      have HB := Lib.hid hb
      clear hown hb
      go_wp2
      go_ret2
      exact unq_ret HE.out HB.out rfl
end Go.Proofs.YtobhdfkhfmpdlaaDoor.Tx

/-
  PLAIN FACTS on a text whose first bytes are in lower case.
-/
namespace Go.Proofs.YtobhdfkhfmpdlaaDoor.Tx
open Go Go.RowKit Bys
set_option linter.unusedVariables false
set_option maxRecDepth 1000000

/-- The first k bytes are in lower case. -/
def lowk (l : List UInt8) (k : Nat) : List UInt8 := (l.take k).map lowc ++ l.drop k
theorem lowk_zero (l : List UInt8) : lowk l 0 = l := by unfold lowk; simp
theorem lowk_len (l : List UInt8) (k : Nat) : (lowk l k).length = l.length := by unfold lowk; simp; omega
theorem getD_at {l : List UInt8} {k : Nat} (h : k < l.length) : l.getD k 0 = l[k] := by simp [List.getD, h]
theorem lowk_at {l : List UInt8} {k : Nat} (h : k < l.length) : (lowk l k).getD k 0 = l.getD k 0 := by
  unfold lowk
  rw [List.getD, List.getElem?_append_right (by simp; omega)]
  simp [Nat.min_eq_left (Nat.le_of_lt h), h]
theorem lowk_more {l : List UInt8} {k : Nat} (h : k < l.length) : (lowk l k).set k (lowc (l.getD k 0)) = lowk l (k + 1) := by
  rw [getD_at h]
  unfold lowk
  rw [List.set_append_right _ _ (by simp; omega), List.take_succ_eq_append_getElem h, List.map_append, List.append_assoc, List.length_map, List.length_take, Nat.min_eq_left (Nat.le_of_lt h), Nat.sub_self, List.drop_eq_getElem_cons h, List.set_cons_zero]
  rfl
theorem lowk_same {l : List UInt8} {k : Nat} (h : k < l.length) (hc : upc (l.getD k 0) = false) : lowk l (k + 1) = lowk l k := by
  rw [getD_at h] at hc
  unfold lowk
  rw [List.take_succ_eq_append_getElem h, List.map_append, List.append_assoc, List.drop_eq_getElem_cons h]
  simp [lowc_no hc]
theorem lowk_all {l : List UInt8} {k : Nat} (h : k = l.length) : lowk l k = lower l := by unfold lowk lower; subst h; simp

end Go.Proofs.YtobhdfkhfmpdlaaDoor.Tx

/-
  CONTRACT of the program's LowerText: at every text it returns it with the letters A to Z as a to z; nothing that was there before is changed.
-/
namespace Go.Proofs.YtobhdfkhfmpdlaaDoor.Tx
open Go Go.RowKit Bys
set_option linter.unusedVariables false
set_option maxRecDepth 1000000

set_option maxHeartbeats 1000000 in
theorem impl_lower (s : ByteArray) (w : World) (hs : s.size ≤ 9223372036854775806) :
    Calls Tryd.prog 11 #[.string s] w fun e w' => e = .returned (.string ⟨(lower s.data.toList).toArray⟩) ∧ Below w.heap.size w w' := by
  obtain ⟨cap, w1, hcv, hat, hb⟩ := of_string s w
  have HT := Lib.hid (And.intro hat hb)
  clear hat hb
  go_enter Tryd.func11, Tryd.ntmps11
  go_wp2
  clear hcv
  go_loopw [4, 5, 10] (fun x y i wr => ∃ k : Nat, k ≤ s.size ∧ i = .int .i64 k ∧ BAt wr w.heap.size (lowk s.data.toList k) ∧ Below w.heap.size w wr) (fun _ _ i _ => s.size - (intOf i).toNat)
  case atStart => exact ⟨0, Nat.zero_le _, rfl, by rw [lowk_zero]; exact HT.out.1, HT.out.2⟩
  case round =>
    clear HT
    obtain ⟨k, hk, rfl, hat, hb⟩ := hrel
    have hL := list_len s
    by_cases hlt : k < s.size
    · have hlt' : k < s.data.toList.length := by omega
      have hcell := (hat.2 k (by rw [lowk_len]; exact hlt')).1
      have hfz := (hat.2 k (by rw [lowk_len]; exact hlt')).2
      rw [lowk_at hlt'] at hcell
      have HM := Lib.hid (lowk_more hlt')
      have HN := Lib.hid (lowk_same hlt')
      have HS := Lib.hid (bat_set (lowc (s.data.toList.getD k 0)) hat (by rw [lowk_len]; exact hlt'))
      have hub : ((s.data.toList.getD k 0).toNat : Int) ≤ 255 := by have := (s.data.toList.getD k 0).toNat_lt; omega
      have hub0 : 0 ≤ ((s.data.toList.getD k 0).toNat : Int) := by omega
      have HB := Lib.hid hb
      have HA := Lib.hid hat
      have HK := Lib.hid (show (k + 1 : Nat) ≤ s.size by omega)
      clear hlt' hL hb hat
      generalize s.data.toList.getD k 0 = c at *
      unfold bvl at hcell
      rcases hu : upc c with _ | _
      · have h1 : (c.toNat : Int) < 65 ∨ 90 < (c.toNat : Int) := by unfold upc at hu; simp at hu; omega
        have H1 := Lib.hid h1
        have HU := Lib.hid hu
        clear h1 hu
        go_wp2_with (go_at_call 38; (with_reducible refine (up_no _ _ H1.out).mono ?_); rintro e w' ⟨rfl, rfl⟩)
        go_roundw
        case rel => exact ⟨k + 1, HK.out, by go_num, by rw [HN.out HU.out]; exact HA.out, HB.out⟩
        case measure => simp [intOf]; omega
      · have h1 : 65 ≤ (c.toNat : Int) := by unfold upc at hu; simp at hu; omega
        have h2 : (c.toNat : Int) ≤ 90 := by unfold upc at hu; simp at hu; omega
        have hs : (c.toNat : Int) - 65 + 97 = ((lowc c).toNat : Int) := by rw [lowc_up hu]; omega
        clear hu
        go_wp2_with (go_at_call 38; (with_reducible refine (up_yes _ _ h1 h2).mono ?_); rintro e w' ⟨rfl, rfl⟩)
        go_roundw
        case rel => exact ⟨k + 1, HK.out, by go_num, by rw [← HM.out]; exact HS.out, below_set _ HB.out (Nat.le_refl _)⟩
        case measure => simp [intOf]; omega
    · have HE := Lib.hid (lowk_all (l := s.data.toList) (k := k) (by omega))
      have hbk := back wr w.heap.size cap (lowk s.data.toList k) hat
      rw [lowk_len, hL] at hbk
      have HB := Lib.hid hb
      clear hat hL hb
      go_wp2
      go_ret
      exact ⟨ret_str HE.out, HB.out⟩
end Go.Proofs.YtobhdfkhfmpdlaaDoor.Tx

/-
  CONTRACTS of the program's parseDirective and directiveValue: an element that is a directive, or an error; nothing that was there before is changed.
-/
namespace Go.Proofs.YtobhdfkhfmpdlaaDoor.Dir
open Go Go.RowKit
set_option linter.unusedVariables false
set_option maxRecDepth 1000000

def Got (t : List UInt8) (w : World) (e : Ending) (w' : World) : Prop := e = .returned (.tuple #[.string ⟨t.toArray⟩, .nilIface]) ∧ Below w.heap.size w w'
def Bad (w : World) (e : Ending) (w' : World) : Prop := (∃ tp p, e = .returned (.tuple #[.string ⟨#[]⟩, .iface tp p])) ∧ Below w.heap.size w w'

set_option maxHeartbeats 1000000 in
theorem dv_tok (y : List UInt8) (w : World) (hl : y.length ≤ 1048576) (h : Tx.token y = true) : Calls Tryd.prog 65 #[.string ⟨y.toArray⟩] w (Got y w) := by
  have hsy : (⟨y.toArray⟩ : ByteArray).size = y.length := by simp [ByteArray.size]
  have HT := Lib.hid (fun W => Tx.impl_token ⟨y.toArray⟩ W (by rw [hsy]; omega))
  have HZ : Hid (Tx.token (⟨y.toArray⟩ : ByteArray).data.toList = true) := Lib.hid h
  clear h hsy
  go_enter Tryd.func65, Tryd.ntmps65
  go_wp2_with (fail)
  go_at_call 64
  refine (HT.out _).mono ?_
  rintro e w1 ⟨he, rfl⟩
  rw [HZ.out] at he
  subst he
  go_wp2
  go_ret2
  exact ⟨rfl, Below.refl _ _⟩
set_option maxHeartbeats 1000000 in
theorem dv_unq (y : List UInt8) (w : World) (hl : y.length ≤ 1048576) (h : Tx.token y = false) (hu : Tx.unqOk y = true) : Calls Tryd.prog 65 #[.string ⟨y.toArray⟩] w (Got (Tx.unqText y) w) := by
  have hsy : (⟨y.toArray⟩ : ByteArray).size = y.length := by simp [ByteArray.size]
  have HT := Lib.hid (fun W => Tx.impl_token ⟨y.toArray⟩ W (by rw [hsy]; omega))
  have HU := Lib.hid (fun W => Tx.impl_unquote ⟨y.toArray⟩ W (by rw [hsy]; omega))
  have HZ : Hid (Tx.token (⟨y.toArray⟩ : ByteArray).data.toList = false) := Lib.hid h
  have HQ : Hid (Tx.unqOk (⟨y.toArray⟩ : ByteArray).data.toList = true) := Lib.hid hu
  clear h hsy hu
  go_enter Tryd.func65, Tryd.ntmps65
  go_wp2_with (fail)
  go_at_call 64
  refine (HT.out _).mono ?_
  rintro e w1 ⟨he, rfl⟩
  rw [HZ.out] at he
  subst he
  go_wp2_with (fail)
  go_at_call 82
  refine (HU.out _).mono ?_
  rintro e w2 ⟨he, hb⟩
  rw [HQ.out] at he
  have he : e = .returned (.tuple #[.string ⟨(Tx.unqText y).toArray⟩, .bool true]) := he
  subst he
  have HB := Lib.hid hb
  clear hb
  go_wp2
  go_ret2
  exact ⟨rfl, HB.out⟩
set_option maxHeartbeats 1000000 in
theorem dv_bad (y : List UInt8) (w : World) (hl : y.length ≤ 1048576) (h : Tx.token y = false) (hu : Tx.unqOk y = false) (hv : Errs w) : Calls Tryd.prog 65 #[.string ⟨y.toArray⟩] w (Bad w) := by
  have hsy : (⟨y.toArray⟩ : ByteArray).size = y.length := by simp [ByteArray.size]
  have HT := Lib.hid (fun W => Tx.impl_token ⟨y.toArray⟩ W (by rw [hsy]; omega))
  have HU := Lib.hid (fun W => Tx.impl_unquote ⟨y.toArray⟩ W (by rw [hsy]; omega))
  have HZ : Hid (Tx.token (⟨y.toArray⟩ : ByteArray).data.toList = false) := Lib.hid h
  have HQ : Hid (Tx.unqOk (⟨y.toArray⟩ : ByteArray).data.toList = false) := Lib.hid hu
  have HV := Lib.hid hv
  clear h hsy hu hv
  go_enter Tryd.func65, Tryd.ntmps65
  go_wp2_with (fail)
  go_at_call 64
  refine (HT.out _).mono ?_
  rintro e w1 ⟨he, rfl⟩
  rw [HZ.out] at he
  subst he
  go_wp2_with (fail)
  go_at_call 82
  refine (HU.out _).mono ?_
  rintro e w2 ⟨he, hb⟩
  rw [HQ.out] at he
  subst he
  obtain ⟨hg, tp, p, hc⟩ := (errs_below HV.out hb).2
  have HB := Lib.hid hb
  clear hb
  generalize Tx.unqText _ = t
  have hcd : w2.drew.cell? ⟨1, 0, none⟩ = some (.iface tp p) := hc
  go_wp2
  go_region
  all_goals go_wp2
  all_goals go_ret2
  all_goals exact ⟨⟨_, _, rfl⟩, Rec.below_drew HB.out⟩

/-- The result's own cells are there behind what a call did. -/
theorem res_kept {w w1 : World} {T : TypeId} {x y z : Value} (hb : Below (w.alloc (.cells #[x, y, z] T)).heap.size (w.alloc (.cells #[x, y, z] T)) w1) :
    w1.cell? ⟨w.heap.size, 0, none⟩ = some x ∧ w1.cell? ⟨w.heap.size, 1, none⟩ = some y ∧ w1.cell? ⟨w.heap.size, 2, none⟩ = some z ∧ w1.frozen? ⟨w.heap.size, 0, none⟩ = false ∧ w1.frozen? ⟨w.heap.size, 1, none⟩ = false ∧ w1.frozen? ⟨w.heap.size, 2, none⟩ = false := by
  refine ⟨?_, ?_, ?_, ?_, ?_, ?_⟩
  · rw [hb.cell (p := ⟨w.heap.size, 0, none⟩) (by simp), World.cell?_alloc_new]; rfl
  · rw [hb.cell (p := ⟨w.heap.size, 1, none⟩) (by simp), World.cell?_alloc_new]; rfl
  · rw [hb.cell (p := ⟨w.heap.size, 2, none⟩) (by simp), World.cell?_alloc_new]; rfl
  · rw [hb.frozen (p := ⟨w.heap.size, 0, none⟩) (by simp)]; simp [go_sem]
  · rw [hb.frozen (p := ⟨w.heap.size, 1, none⟩) (by simp)]; simp [go_sem]
  · rw [hb.frozen (p := ⟨w.heap.size, 2, none⟩) (by simp)]; simp [go_sem]

def PdYes (d : T) (w : World) (e : Ending) (w' : World) : Prop := e = .returned (.tuple #[fv d, .nilIface]) ∧ Below w.heap.size w w'
def PdNo (w : World) (e : Ending) (w' : World) : Prop := (∃ tp p, e = .returned (.tuple #[fv ([], [], false), .iface tp p])) ∧ Below w.heap.size w w'
theorem pair_i {x a b : List UInt8} {q : Bool} (hp : Tx.pairs x = (a, b, q)) (hl : x.length ≤ 1048576) (W : World) : Calls Tryd.prog 63 #[.string ⟨x.toArray⟩] W fun e w' => e = .returned (.tuple #[.string ⟨a.toArray⟩, .string ⟨b.toArray⟩, .bool q]) ∧ Below W.heap.size W w' := by
  have h := Tx.impl_pair ⟨x.toArray⟩ W (by simp [ByteArray.size]; omega)
  unfold Tx.PairEnd at h
  rw [show (⟨x.toArray⟩ : ByteArray).data.toList = x from rfl, hp] at h
  exact h
theorem tok_i (a : List UInt8) (hl : a.length ≤ 1048576) (W : World) : Calls Tryd.prog 64 #[.string ⟨a.toArray⟩] W fun e w' => e = .returned (.bool (Tx.token a)) ∧ W = w' := Tx.impl_token ⟨a.toArray⟩ W (by simp [ByteArray.size]; omega)
theorem low_i (a : List UInt8) (hl : a.length ≤ 1048576) (W : World) : Calls Tryd.prog 11 #[.string ⟨a.toArray⟩] W fun e w' => e = .returned (.string ⟨(Tx.lower a).toArray⟩) ∧ Below W.heap.size W w' := Tx.impl_lower ⟨a.toArray⟩ W (by simp [ByteArray.size]; omega)

set_option maxHeartbeats 2000000 in
theorem pd_no1 (x a b : List UInt8) (w : World) {q : Bool} (hp : Tx.pairs x = (a, b, q)) (ha : Tx.token a = false) (hl : x.length ≤ 1048576) (hla : a.length ≤ 1048576) (hlb : b.length ≤ 1048576) (hv : Errs w) : Calls Tryd.prog 26 #[.string ⟨x.toArray⟩] w (PdNo w) := by
  have hv0 := hv.1.1
  have HP := Lib.hid (pair_i hp hl)
  have HT := Lib.hid (tok_i a hla)
  have HW := Lib.hid (low_i a hla)
  have HV := Lib.hid (errs_below hv ((Below.refl _ _).alloc (Nat.le_refl _) (.cells #[.string ⟨#[]⟩, .string ⟨#[]⟩, .bool false] 29)))
  have HA := Lib.hid ha
  clear hp ha hv
  go_enter Tryd.func26, Tryd.ntmps26
  go_wp2_with (fail)
  go_at_call 63
  refine (HP.out _).mono ?_
  rintro e w1 ⟨rfl, hb1⟩
  have HB := Lib.hid hb1
  have HV := Lib.hid (errs_below HV.out hb1)
  clear hb1
  go_wp2_with (fail)
  go_at_call 64
  refine (HT.out _).mono ?_
  rintro e w2 ⟨he, rfl⟩
  rw [HA.out] at he
  subst he
  obtain ⟨q1, q2, q3, q4, q5, q6⟩ := res_kept HB.out
  have HBF := Lib.hid (((Below.refl w.heap.size w).alloc (Nat.le_refl _) (.cells #[.string ⟨#[]⟩, .string ⟨#[]⟩, .bool false] 29)).trans (HB.out.mono (by simp)))
  obtain ⟨hg, tp, p, hc⟩ := HV.out.1
  have hcd : w1.drew.cell? ⟨0, 0, none⟩ = some (.iface tp p) := hc
  have hne : 0 < w.heap.size := hv0
  go_wp2
  go_region
  all_goals go_wp2
  all_goals refine bodyPost_ret (v := .tuple #[.agg #[.string ⟨#[]⟩, .string ⟨#[]⟩, .bool false], .iface tp p]) (by simp [results, Tryd.results26, go_sem, q1, q2, q3, q4, q5, q6]) rfl ⟨⟨_, _, rfl⟩, ?_⟩
  all_goals exact Rec.below_drew (((HBF.out.setCell (Nat.le_refl _) _).setCell (Nat.le_refl _) _).setCell (Nat.le_refl _) _)

set_option maxHeartbeats 2000000 in
theorem pd_yes1 (x a b : List UInt8) (w : World) (hp : Tx.pairs x = (a, b, false)) (ha : Tx.token a = true) (hl : x.length ≤ 1048576) (hla : a.length ≤ 1048576) (hlb : b.length ≤ 1048576) (hv : Errs w) : Calls Tryd.prog 26 #[.string ⟨x.toArray⟩] w (PdYes (Tx.lower a, [], false) w) := by
  have HP := Lib.hid (pair_i hp hl)
  have HT := Lib.hid (tok_i a hla)
  have HW := Lib.hid (low_i a hla)
  have HV := Lib.hid (errs_below hv ((Below.refl _ _).alloc (Nat.le_refl _) (.cells #[.string ⟨#[]⟩, .string ⟨#[]⟩, .bool false] 29)))
  have HA := Lib.hid ha
  clear hp ha hv
  unfold PdYes fv
  generalize Tx.lower a = r at HW ⊢
  dsimp only
  go_enter Tryd.func26, Tryd.ntmps26
  go_wp2_with (fail)
  go_at_call 63
  refine (HP.out _).mono ?_
  rintro e w1 ⟨rfl, hb1⟩
  have HB := Lib.hid hb1
  have HV := Lib.hid (errs_below HV.out hb1)
  clear hb1
  go_wp2_with (fail)
  go_at_call 64
  refine (HT.out _).mono ?_
  rintro e w2 ⟨he, rfl⟩
  rw [HA.out] at he
  subst he
  go_wp2_with (fail)
  go_at_call 11
  refine (HW.out _).mono ?_
  rintro e x3 ⟨rfl, hb3⟩
  have HB := Lib.hid (HB.out.trans (hb3.mono HB.out.size))
  have HV := Lib.hid (errs_below HV.out hb3)
  clear hb3
  obtain ⟨q1, q2, q3, q4, q5, q6⟩ := res_kept HB.out
  have HBF := Lib.hid (((Below.refl w.heap.size w).alloc (Nat.le_refl _) (.cells #[.string ⟨#[]⟩, .string ⟨#[]⟩, .bool false] 29)).trans (HB.out.mono (by simp)))
  go_wp2
  refine bodyPost_ret (v := .tuple #[.agg #[.string ⟨r.toArray⟩, .string ⟨#[]⟩, .bool false], .nilIface]) (by simp [results, Tryd.results26, go_sem, q1, q2, q3, q4, q5, q6]) rfl ⟨rfl, ?_⟩
  exact ((HBF.out.setCell (Nat.le_refl _) _).setCell (Nat.le_refl _) _).setCell (Nat.le_refl _) _

set_option maxHeartbeats 2000000 in
theorem pd_yes2 (x a b : List UInt8) (w : World) (hp : Tx.pairs x = (a, b, true)) (ha : Tx.token a = true) (hb : Tx.token b = true) (hl : x.length ≤ 1048576) (hla : a.length ≤ 1048576) (hlb : b.length ≤ 1048576) (hv : Errs w) : Calls Tryd.prog 26 #[.string ⟨x.toArray⟩] w (PdYes (Tx.lower a, b, true) w) := by
  have HP := Lib.hid (pair_i hp hl)
  have HT := Lib.hid (tok_i a hla)
  have HW := Lib.hid (low_i a hla)
  have HV := Lib.hid (errs_below hv ((Below.refl _ _).alloc (Nat.le_refl _) (.cells #[.string ⟨#[]⟩, .string ⟨#[]⟩, .bool false] 29)))
  have HA := Lib.hid ha
  have HD := Lib.hid (fun W => dv_tok b W hlb hb)
  clear hp ha hv hb
  unfold PdYes fv
  generalize Tx.lower a = r at HW ⊢
  dsimp only
  go_enter Tryd.func26, Tryd.ntmps26
  go_wp2_with (fail)
  go_at_call 63
  refine (HP.out _).mono ?_
  rintro e w1 ⟨rfl, hb1⟩
  have HB := Lib.hid hb1
  have HV := Lib.hid (errs_below HV.out hb1)
  clear hb1
  go_wp2_with (fail)
  go_at_call 64
  refine (HT.out _).mono ?_
  rintro e w2 ⟨he, rfl⟩
  rw [HA.out] at he
  subst he
  go_wp2_with (fail)
  go_at_call 65
  refine (HD.out _).mono ?_
  rintro e x3 ⟨rfl, hb3⟩
  have HB := Lib.hid (HB.out.trans (hb3.mono HB.out.size))
  have HV := Lib.hid (errs_below HV.out hb3)
  clear hb3
  go_wp2_with (fail)
  go_at_call 11
  refine (HW.out _).mono ?_
  rintro e x4 ⟨rfl, hb4⟩
  have HB := Lib.hid (HB.out.trans (hb4.mono HB.out.size))
  have HV := Lib.hid (errs_below HV.out hb4)
  clear hb4
  obtain ⟨q1, q2, q3, q4, q5, q6⟩ := res_kept HB.out
  have HBF := Lib.hid (((Below.refl w.heap.size w).alloc (Nat.le_refl _) (.cells #[.string ⟨#[]⟩, .string ⟨#[]⟩, .bool false] 29)).trans (HB.out.mono (by simp)))
  go_wp2
  refine bodyPost_ret (v := .tuple #[.agg #[.string ⟨r.toArray⟩, .string ⟨b.toArray⟩, .bool true], .nilIface]) (by simp [results, Tryd.results26, go_sem, q1, q2, q3, q4, q5, q6]) rfl ⟨rfl, ?_⟩
  exact ((HBF.out.setCell (Nat.le_refl _) _).setCell (Nat.le_refl _) _).setCell (Nat.le_refl _) _

set_option maxHeartbeats 2000000 in
theorem pd_yes3 (x a b : List UInt8) (w : World) (hp : Tx.pairs x = (a, b, true)) (ha : Tx.token a = true) (hb : Tx.token b = false) (hu : Tx.unqOk b = true) (hl : x.length ≤ 1048576) (hla : a.length ≤ 1048576) (hlb : b.length ≤ 1048576) (hv : Errs w) : Calls Tryd.prog 26 #[.string ⟨x.toArray⟩] w (PdYes (Tx.lower a, Tx.unqText b, true) w) := by
  have HP := Lib.hid (pair_i hp hl)
  have HT := Lib.hid (tok_i a hla)
  have HW := Lib.hid (low_i a hla)
  have HV := Lib.hid (errs_below hv ((Below.refl _ _).alloc (Nat.le_refl _) (.cells #[.string ⟨#[]⟩, .string ⟨#[]⟩, .bool false] 29)))
  have HA := Lib.hid ha
  have HD := Lib.hid (fun W => dv_unq b W hlb hb hu)
  clear hp ha hv hb hu
  unfold PdYes fv
  generalize Tx.lower a = r at HW ⊢
  generalize Tx.unqText b = b2 at HD ⊢
  dsimp only
  go_enter Tryd.func26, Tryd.ntmps26
  go_wp2_with (fail)
  go_at_call 63
  refine (HP.out _).mono ?_
  rintro e w1 ⟨rfl, hb1⟩
  have HB := Lib.hid hb1
  have HV := Lib.hid (errs_below HV.out hb1)
  clear hb1
  go_wp2_with (fail)
  go_at_call 64
  refine (HT.out _).mono ?_
  rintro e w2 ⟨he, rfl⟩
  rw [HA.out] at he
  subst he
  go_wp2_with (fail)
  go_at_call 65
  refine (HD.out _).mono ?_
  rintro e x3 ⟨rfl, hb3⟩
  have HB := Lib.hid (HB.out.trans (hb3.mono HB.out.size))
  have HV := Lib.hid (errs_below HV.out hb3)
  clear hb3
  go_wp2_with (fail)
  go_at_call 11
  refine (HW.out _).mono ?_
  rintro e x4 ⟨rfl, hb4⟩
  have HB := Lib.hid (HB.out.trans (hb4.mono HB.out.size))
  have HV := Lib.hid (errs_below HV.out hb4)
  clear hb4
  obtain ⟨q1, q2, q3, q4, q5, q6⟩ := res_kept HB.out
  have HBF := Lib.hid (((Below.refl w.heap.size w).alloc (Nat.le_refl _) (.cells #[.string ⟨#[]⟩, .string ⟨#[]⟩, .bool false] 29)).trans (HB.out.mono (by simp)))
  go_wp2
  refine bodyPost_ret (v := .tuple #[.agg #[.string ⟨r.toArray⟩, .string ⟨b2.toArray⟩, .bool true], .nilIface]) (by simp [results, Tryd.results26, go_sem, q1, q2, q3, q4, q5, q6]) rfl ⟨rfl, ?_⟩
  exact ((HBF.out.setCell (Nat.le_refl _) _).setCell (Nat.le_refl _) _).setCell (Nat.le_refl _) _

set_option maxHeartbeats 2000000 in
theorem pd_no2 (x a b : List UInt8) (w : World) (hp : Tx.pairs x = (a, b, true)) (ha : Tx.token a = true) (hb : Tx.token b = false) (hu : Tx.unqOk b = false) (hl : x.length ≤ 1048576) (hla : a.length ≤ 1048576) (hlb : b.length ≤ 1048576) (hv : Errs w) : Calls Tryd.prog 26 #[.string ⟨x.toArray⟩] w (PdNo w) := by
  have HP := Lib.hid (pair_i hp hl)
  have HT := Lib.hid (tok_i a hla)
  have HW := Lib.hid (low_i a hla)
  have HV := Lib.hid (errs_below hv ((Below.refl _ _).alloc (Nat.le_refl _) (.cells #[.string ⟨#[]⟩, .string ⟨#[]⟩, .bool false] 29)))
  have HA := Lib.hid ha
  have HD := Lib.hid (fun W => dv_bad b W hlb hb hu)
  clear hp ha hv hb hu
  go_enter Tryd.func26, Tryd.ntmps26
  go_wp2_with (fail)
  go_at_call 63
  refine (HP.out _).mono ?_
  rintro e w1 ⟨rfl, hb1⟩
  have HB := Lib.hid hb1
  have HV := Lib.hid (errs_below HV.out hb1)
  clear hb1
  go_wp2_with (fail)
  go_at_call 64
  refine (HT.out _).mono ?_
  rintro e w2 ⟨he, rfl⟩
  rw [HA.out] at he
  subst he
  go_wp2_with (fail)
  go_at_call 65
  refine (HD.out _ HV.out).mono ?_
  rintro e x3 ⟨⟨tp, p, rfl⟩, hb3⟩
  have HB := Lib.hid (HB.out.trans (hb3.mono HB.out.size))
  clear hb3
  obtain ⟨q1, q2, q3, q4, q5, q6⟩ := res_kept HB.out
  have HBF := Lib.hid (((Below.refl w.heap.size w).alloc (Nat.le_refl _) (.cells #[.string ⟨#[]⟩, .string ⟨#[]⟩, .bool false] 29)).trans (HB.out.mono (by simp)))
  go_wp2
  refine bodyPost_ret (v := .tuple #[.agg #[.string ⟨#[]⟩, .string ⟨#[]⟩, .bool false], .iface tp p]) (by simp [results, Tryd.results26, go_sem, q1, q2, q3, q4, q5, q6]) rfl ⟨⟨_, _, rfl⟩, ?_⟩
  exact ((HBF.out.setCell (Nat.le_refl _) _).setCell (Nat.le_refl _) _).setCell (Nat.le_refl _) _

theorem pd_yes {x : List UInt8} {d : T} (w : World) (h : dread x = some d) (hl : x.length ≤ 1048576) (hv : Errs w) : Calls Tryd.prog 26 #[.string ⟨x.toArray⟩] w (PdYes d w) := by
  have hpl := pairs_len x
  obtain ⟨a, b, q, hp⟩ : ∃ a b q, Tx.pairs x = (a, b, q) := ⟨_, _, _, rfl⟩
  rw [dread_eq hp] at h
  rw [hp] at hpl
  simp only at hpl
  cases ha : Tx.token a <;> rw [ha] at h
  · simp at h
  · cases q
    · simp at h; subst h
      exact pd_yes1 x a b w hp ha hl (by omega) (by omega) hv
    · cases hb : Tx.token b <;> rw [hb] at h
      · cases hu : Tx.unqOk b <;> rw [hu] at h
        · simp at h
        · simp at h; subst h
          exact pd_yes3 x a b w hp ha hb hu hl (by omega) (by omega) hv
      · simp at h; subst h
        exact pd_yes2 x a b w hp ha hb hl (by omega) (by omega) hv
theorem pd_no {x : List UInt8} (w : World) (h : dread x = none) (hl : x.length ≤ 1048576) (hv : Errs w) : Calls Tryd.prog 26 #[.string ⟨x.toArray⟩] w (PdNo w) := by
  have hpl := pairs_len x
  obtain ⟨a, b, q, hp⟩ : ∃ a b q, Tx.pairs x = (a, b, q) := ⟨_, _, _, rfl⟩
  rw [dread_eq hp] at h
  rw [hp] at hpl
  simp only at hpl
  cases ha : Tx.token a <;> rw [ha] at h
  · exact pd_no1 x a b w hp ha hl (by omega) (by omega) hv
  · cases q
    · simp at h
    · cases hb : Tx.token b <;> rw [hb] at h
      · cases hu : Tx.unqOk b <;> rw [hu] at h
        · exact pd_no2 x a b w hp ha hb hu hl (by omega) (by omega) hv
        · simp at h
      · simp at h
end Go.Proofs.YtobhdfkhfmpdlaaDoor.Dir

/-
  CONTRACT of the program's ParseDirectives: the directives of a text, in memory of its own; nothing that was there before is changed.
-/
namespace Go.Proofs.YtobhdfkhfmpdlaaDoor.Dir
open Go Go.RowKit
set_option linter.unusedVariables false
set_option maxRecDepth 1000000

def Parsed (s : List UInt8) (w : World) (e : Ending) (w' : World) : Prop := ∃ v, e = .returned v ∧ Own w' w.heap.size v (dparse s) ∧ Below w.heap.size w w'
theorem ret_parsed {s : List UInt8} {w wr : World} {u : Value} {l : List T} (he : l = dparse s) (ho : Own wr w.heap.size u l) (hb : Below w.heap.size w wr) : Parsed s w (.returned u) wr := by subst he; exact ⟨u, rfl, ho, hb⟩

set_option maxHeartbeats 4000000 in
theorem impl_parse (l : List UInt8) (w : World) (hl : l.length ≤ 1048576) (hv : Errs w) :
    Calls Tryd.prog 6 #[.string ⟨l.toArray⟩] w (Parsed l w) := by
  obtain ⟨i0, hi, hz0, hz1, hz2⟩ := info_parts info_r
  have HS := Lib.hid (fun W => Tx.impl_split ⟨l.toArray⟩ W (Nat.le_trans hl (by decide)))
  have HEL := Lib.hid (Tx.split_elem l)
  have HCN := Lib.hid (Tx.split_count l)
  have HV := Lib.hid hv
  have HO := Lib.hid (own_lit_nil w)
  have HDP : Hid (dparse l = dparts (Tx.split l)) := Lib.hid rfl
  clear hv
  go_enter Tryd.func6, Tryd.ntmps6
  go_wp2_with (fail)
  go_at_call 25
  refine (HS.out _).mono ?_
  rintro e w1 ⟨vx, rfl, ox, hb1⟩
  have HOX : Hid (w1.ownsRow w.heap.size 9 1 vx (Tx.split l).length (Strs.svs (Tx.split l))) := Lib.hid (Rec.own_mono ox (by simp))
  have HO := Lib.hid (Rec.row_below HO.out hb1)
  have HB := Lib.hid (((Below.refl w.heap.size w).alloc (Nat.le_refl _) (.cells #[] 29)).trans (hb1.mono (by simp)))
  clear ox hb1 HS
  generalize Tx.split l = xs at *
  obtain ⟨ax, cx, rfl, hax⟩ := Rec.shape_at HOX.out
  have HAX := Lib.hid hax
  have hxl : xs.length ≤ 1048577 := by have := HCN.out; omega
  clear hax
  go_wp2
  go_loopw [3, 12] (fun u i wr => ∃ k : Nat, k ≤ xs.length ∧ i = .int .i64 (k : Int) ∧ wr.ownsRow w.heap.size 29 3 u (dparts (xs.take k)).length (fcs (dparts (xs.take k))) ∧ wr.ownsRow w.heap.size 9 1 (.slice ax xs.length cx) xs.length (Strs.svs xs) ∧ Below w.heap.size w wr) (fun _ i _ => xs.length - (intOf i).toNat)
  case atStart => exact ⟨0, Nat.zero_le _, rfl, HO.out, HOX.out, HB.out⟩
  case round =>
    clear HO HOX HB
    obtain ⟨k, hk, rfl, hown, hox, hb⟩ := hrel
    have HVR := Lib.hid (errs_below HV.out hb)
    have HB := Lib.hid hb
    have HOX := Lib.hid hox
    have HO := Lib.hid hown
    clear hown hox hb
    by_cases hlt : k < xs.length
    · obtain ⟨gx, rfl⟩ := HAX.out (by omega)
      have c0 := Strs.own_cell HOX.out hlt
      have HXL : Hid ((xs.getD k []).length ≤ 1048576) := Lib.hid (Nat.le_trans (HEL.out _ (Rec.getD_mem (z := []) hlt)) hl)
      have HDL : Hid ((dparts (xs.take k)).length ≤ 1048577) := Lib.hid (by have h1 := dparts_len (xs.take k); rw [List.length_take] at h1; omega)
      unfold Strs.sv at c0
      have HR : Hid (∀ d, dread (xs.getD k []) = some d → dparts (xs.take (k + 1)) = dparts (xs.take k) ++ [d]) := Lib.hid (fun d hd => dparts_yes hlt hd)
      have HN : Hid (dread (xs.getD k []) = none → dparts (xs.take (k + 1)) = dparts (xs.take k)) := Lib.hid (fun hd => dparts_no hlt hd)
      generalize xs.getD k [] = x at c0 HXL HR HN
      cases hd : dread x with
      | none =>
        have HP := Lib.hid (pd_no wr hd HXL.out HVR.out)
        have HM := Lib.hid (HN.out hd)
        clear hd HR HN
        go_wp2_with (fail)
        go_at_call 26
        refine HP.out.mono ?_
        rintro e w2 ⟨⟨tp, p, rfl⟩, hb2⟩
        have HO := Lib.hid (row_below HO.out hb2)
        have HOX := Lib.hid (Rec.row_below HOX.out hb2)
        have HB := Lib.hid (Base.then_below HB.out hb2)
        clear hb2
        unfold fv
        dsimp only
        have HA : Hid (∀ a, Below w2.heap.size w2 (w2.alloc (.cells a 29))) := Lib.hid (fun a => (Below.refl _ _).alloc (Nat.le_refl _) _)
        go_wp2
        go_roundw
        case rel => exact ⟨k + 1, by omega, by go_num, by rw [HM.out]; exact row_below HO.out (HA.out _), Rec.row_below HOX.out (HA.out _), Base.then_below HB.out (HA.out _)⟩
        case measure => simp [intOf]; omega
      | some d =>
        have HP := Lib.hid (pd_yes wr hd HXL.out HVR.out)
        have HM := Lib.hid (HR.out d hd)
        clear hd HR HN
        obtain ⟨x0, y0, z0⟩ := d
        unfold PdYes fv at HP
        dsimp only at HP
        go_wp2_with (fail)
        go_at_call 26
        refine HP.out.mono ?_
        rintro e w2 ⟨rfl, hb2⟩
        have HO := Lib.hid (row_below HO.out hb2)
        have HOX := Lib.hid (Rec.row_below HOX.out hb2)
        have HB := Lib.hid (Base.then_below HB.out hb2)
        clear hb2 HP
        generalize dparts (xs.take k) = ds at HO HM HDL
        have HA : Hid (Below w2.heap.size w2 (w2.alloc (.cells #[.string ⟨x0.toArray⟩, .string ⟨y0.toArray⟩, .bool z0] 29))) := Lib.hid ((Below.refl _ _).alloc (Nat.le_refl _) _)
        have hown := row_below HO.out HA.out
        have HOX := Lib.hid (Rec.row_below HOX.out HA.out)
        have HB := Lib.hid (Base.then_below HB.out HA.out)
        have HNE := Lib.hid (Rec.row_apart HOX.out hown (by decide))
        have hL := fcs_len ds
        have HNW := Lib.hid (Rec.news (w2.alloc (.cells #[.string ⟨x0.toArray⟩, .string ⟨y0.toArray⟩, .bool z0] 29)) [.string ⟨x0.toArray⟩, .string ⟨y0.toArray⟩, .bool z0] 29)
        go_wp2_with (at_builtin; refine wpList_append_own _ rfl (.tmp 23) (.tmp 25) 24 rfl w.heap.size 29 i0 (.agg #[.string ⟨#[]⟩, .string ⟨#[]⟩, .bool false]) 3 40 Tryd.underlying24 hi hz0 hz1 hz2 rfl (by decide) _ _ _ rfl (hown.alloc _) ⟨w2.heap.size + 1, 0, none⟩ 1 1 [.string ⟨x0.toArray⟩, .string ⟨y0.toArray⟩, .bool z0] rfl rfl (by have h := HNW.out; rw [World.size_alloc] at h; exact h) (cs_one (x0, y0, z0)) (by have := HDL.out; unfold maxLen; omega) (by have := HDL.out; omega) (by have := HB.out.size; simp at this ⊢; omega) ?_; intro v1 w3 hown1 hg1 _)
        have R := Lib.hid (push_own (f := (x0, y0, z0)) hown HB.out (Nat.le_refl _) hown1 hg1)
        have HA2 := Lib.hid ((Below.refl (w2.alloc (.cells #[.string ⟨x0.toArray⟩, .string ⟨y0.toArray⟩, .bool z0] 29)).heap.size (w2.alloc (.cells #[.string ⟨x0.toArray⟩, .string ⟨y0.toArray⟩, .bool z0] 29))).alloc (Nat.le_refl _) (.cells #[.string ⟨x0.toArray⟩, .string ⟨y0.toArray⟩, .bool z0] 29))
        have ROX := Lib.hid (Rec.row_grown (Rec.row_below HOX.out HA2.out) hg1 HNE.out)
        clear hown hown1 hg1
        go_wp2
        go_roundw
        case rel => exact ⟨k + 1, by omega, by go_num, by rw [HM.out]; exact R.out.1, ROX.out, R.out.2⟩
        case measure => simp [intOf]; omega
    · have HE : Hid (dparts (xs.take k) = dparse l) := Lib.hid (by rw [HDP.out, List.take_of_length_le (by omega)])
      go_wp2
      go_ret
      exact ret_parsed HE.out HO.out HB.out
end Go.Proofs.YtobhdfkhfmpdlaaDoor.Dir

/-
  CONTRACT of the model's LowerText: at every text it returns it with the letters A to Z as a to z; nothing that was there before is changed.
-/
namespace Go.Proofs.YtobhdfkhfmpdlaaDoor.Tx
open Go Go.RowKit Bys
set_option linter.unusedVariables false
set_option maxRecDepth 1000000

set_option maxHeartbeats 1000000 in
theorem spec_lower (s : ByteArray) (w : World) (hs : s.size ≤ 9223372036854775806) :
    Calls Tryd.prog 32 #[.string s] w fun e w' => e = .returned (.string ⟨(lower s.data.toList).toArray⟩) ∧ Below w.heap.size w w' := by
  obtain ⟨cap, w1, hcv, hat, hb⟩ := of_string s w
  have HT := Lib.hid (And.intro hat hb)
  clear hat hb
  go_enter Tryd.func32, Tryd.ntmps32
  go_wp2
  clear hcv
  go_loopw [4] (fun i wr => ∃ k : Nat, k ≤ s.size ∧ i = .int .i64 k ∧ BAt wr w.heap.size (lowk s.data.toList k) ∧ Below w.heap.size w wr) (fun i _ => s.size - (intOf i).toNat)
  case atStart => exact ⟨0, Nat.zero_le _, rfl, by rw [lowk_zero]; exact HT.out.1, HT.out.2⟩
  case round =>
    clear HT
    obtain ⟨k, hk, rfl, hat, hb⟩ := hrel
    have hL := list_len s
    by_cases hlt : k < s.size
    · have hlt' : k < s.data.toList.length := by omega
      have hcell := (hat.2 k (by rw [lowk_len]; exact hlt')).1
      have hfz := (hat.2 k (by rw [lowk_len]; exact hlt')).2
      rw [lowk_at hlt'] at hcell
      have HM := Lib.hid (lowk_more hlt')
      have HN := Lib.hid (lowk_same hlt')
      have HS := Lib.hid (bat_set (lowc (s.data.toList.getD k 0)) hat (by rw [lowk_len]; exact hlt'))
      have hub : ((s.data.toList.getD k 0).toNat : Int) ≤ 255 := by have := (s.data.toList.getD k 0).toNat_lt; omega
      have hub0 : 0 ≤ ((s.data.toList.getD k 0).toNat : Int) := by omega
      have HB := Lib.hid hb
      have HA := Lib.hid hat
      have HK := Lib.hid (show (k + 1 : Nat) ≤ s.size by omega)
      clear hlt' hL hb hat
      generalize s.data.toList.getD k 0 = c at *
      unfold bvl at hcell
      rcases hu : upc c with _ | _
      · have h1 : (c.toNat : Int) < 65 ∨ 90 < (c.toNat : Int) := by unfold upc at hu; simp at hu; omega
        have H1 := Lib.hid h1
        have HU := Lib.hid hu
        clear h1 hu
        go_wp2_with (go_at_call 70; (with_reducible refine (NumDiv.in_no _ _ _ _ H1.out).mono ?_); rintro e w' ⟨rfl, rfl⟩)
        go_roundw
        case rel => exact ⟨k + 1, HK.out, by go_num, by rw [HN.out HU.out]; exact HA.out, HB.out⟩
        case measure => simp [intOf]; omega
      · have h1 : 65 ≤ (c.toNat : Int) := by unfold upc at hu; simp at hu; omega
        have h2 : (c.toNat : Int) ≤ 90 := by unfold upc at hu; simp at hu; omega
        have hs : (c.toNat : Int) + 32 = ((lowc c).toNat : Int) := (lowc_up hu).symm
        clear hu
        go_wp2_with (go_at_call 70; (with_reducible refine (NumDiv.in_yes _ _ _ _ h1 h2).mono ?_); rintro e w' ⟨rfl, rfl⟩)
        go_roundw
        case rel => exact ⟨k + 1, HK.out, by go_num, by rw [← HM.out]; exact HS.out, below_set _ HB.out (Nat.le_refl _)⟩
        case measure => simp [intOf]; omega
    · have HE := Lib.hid (lowk_all (l := s.data.toList) (k := k) (by omega))
      have hbk := back wr w.heap.size cap (lowk s.data.toList k) hat
      rw [lowk_len, hL] at hbk
      have HB := Lib.hid hb
      clear hat hL hb
      go_wp2
      go_ret
      exact ⟨ret_str HE.out, HB.out⟩

end Go.Proofs.YtobhdfkhfmpdlaaDoor.Tx
