/-
  CONTRACTS AND PLAIN FACTS, several texts in one; each says in its own words what it proves.
-/
import Derived.Test.YtndbhjgfaghelaaGreatDoorPartU
import Derived.Test.YtndbhjgfaghelaaGreatDoorPartB
import Derived.LoopTactic
import Derived.Outline
import Derived.Carry
import Derived.Test.YtndbhjgfaghelaaGreatDoorPartS
import Derived.Test.YtndbhjgfaghelaaGreatDoorPartA
import Derived.Test.YtndbhjgfaghelaaGreatDoorPartE
import Derived.Laws.DeepStrings4
set_option linter.unusedSimpArgs false
set_option linter.unusedVariables false

/-
  CONTRACT of the program's eachOnce: each of the texts where it stands first, in memory of its own; nothing that was there before is changed.
-/
namespace Go.Proofs.YtndbhjgfaghelaaGreatDoor.Onc
open Go Go.RowKit
set_option linter.unusedVariables false
set_option maxRecDepth 1000000
set_option maxRecDepth 1000000

abbrev L : Type := List (List UInt8)
def step (acc : L) (s : List UInt8) : L := if acc.contains s = true then acc else acc ++ [s]
/-- Each text where it stands first. -/
def once (l : L) : L := l.foldl step []
theorem once_more {l : L} {k : Nat} (h : k < l.length) : once (l.take (k + 1)) = step (once (l.take k)) (l.getD k []) := by
  unfold once
  rw [List.take_succ_eq_append_getElem h, List.foldl_append, show l.getD k [] = l[k] by simp [List.getD, h]]; rfl
theorem step_has (acc : L) (s x : List UInt8) : (step acc s).contains x = (acc.contains x || x == s) := by
  unfold step
  by_cases h : acc.contains s = true
  · rw [if_pos h]
    by_cases e : x = s
    · subst e; rw [h]; rfl
    · have : (x == s) = false := by simpa using e
      rw [this, Bool.or_false]
  · rw [if_neg h, List.contains_append, List.contains_cons, List.contains_nil, Bool.or_false]
theorem fold_has : ∀ (l acc : L) (x : List UInt8), (l.foldl step acc).contains x = (acc.contains x || l.contains x)
  | [], acc, x => by simp
  | a :: r, acc, x => by
    rw [List.foldl_cons, fold_has r, step_has, List.contains_cons, Bool.or_assoc]
theorem once_has (l : L) (x : List UInt8) : (once l).contains x = l.contains x := by unfold once; rw [fold_has]; simp
theorem step_len (acc : L) (s : List UInt8) : (step acc s).length ≤ acc.length + 1 := by
  unfold step; split
  · omega
  · rw [List.length_append]; simp
theorem fold_len : ∀ (l acc : L), (l.foldl step acc).length ≤ acc.length + l.length
  | [], acc => by simp
  | a :: r, acc => by
    rw [List.foldl_cons, List.length_cons]
    have h1 := fold_len r (step acc a); have h2 := step_len acc a; omega
theorem once_len (l : L) : (once l).length ≤ l.length := by have := fold_len l []; unfold once; simpa using this
theorem take_has {l : L} {k : Nat} (h : k < l.length) (y : List UInt8) : (l.take (k + 1)).contains y = (y == l.getD k [] || (l.take k).contains y) := by
  rw [List.take_succ_eq_append_getElem h, List.contains_append, show l.getD k [] = l[k] by simp [List.getD, h], List.contains_cons, List.contains_nil, Bool.or_false, Bool.or_comm]
theorem has_at {l : L} {k : Nat} (h : k < l.length) : l.contains (l.getD k []) = true := by
  rw [show l.getD k [] = l[k] by simp [List.getD, h]]; simp
theorem mem_at {l : L} {k : Nat} (h : k < l.length) : l.getD k [] ∈ l := by
  rw [show l.getD k [] = l[k] by simp [List.getD, h]]; exact List.getElem_mem _
theorem shape_s {w : World} {B : Nat} {v : Value} {xs : L} (h : Strs.Holds w B v xs) : ∃ a cap, v = .slice a xs.length cap ∧ (0 < xs.length → ∃ b off, a = some ⟨b, off, none⟩ ∧ b < B ∧ Strs.At w b off xs) := by
  rcases h with ⟨rfl, a, cap, rfl⟩ | ⟨h0, b, off, cap, rfl, h2, hc, h1⟩
  · exact ⟨a, cap, rfl, fun h => absurd h (by simp)⟩
  · exact ⟨_, cap, rfl, fun _ => ⟨b, off, rfl, h2, h1⟩⟩
theorem zeroB (w : World) : (zeroValue 4).run Tryz.prog w = .ok (.bool false) w := by kernel_rfl
abbrev MSet (w : World) (b n : Nat) (f : List UInt8 → Bool) : Prop := Mpb.Set w Tryz.prog 9 4 b n f
def OncEnd (l : L) (w : World) (e : Ending) (w' : World) : Prop := ∃ u, e = .returned u ∧ Strs.Own w' w.heap.size u (once l) ∧ Below w.heap.size w w'

set_option maxHeartbeats 4000000 in
theorem impl_once (v : Value) (B : Nat) (xs : L) (w : World) (h : Strs.Holds w B v xs) (hB : B ≤ w.heap.size) (hl : xs.length ≤ 8000000) (hx : ∀ x ∈ xs, x.length ≤ 4194304) :
    Calls Tryz.prog 128 #[v] w (OncEnd xs w) := by
  obtain ⟨i0, hi, hz0, hz1, hz2⟩ := info_parts Strs.info_str
  obtain ⟨a, cap, rfl, ha⟩ := shape_s h
  have HA := Lib.hid ha
  have HXL := Lib.hid hx
  have HM0 : Hid (MSet (w.alloc (.map #[] 0)) w.heap.size 0 (fun x => (xs.take 0).contains x)) := Lib.hid (Mpb.same (Mpb.made w) (fun x => by simp))
  have HBM := Lib.hid ((Below.refl w.heap.size w).alloc (Nat.le_refl _) (.map #[] 0))
  have hmm := @run_makeMap Tryz.prog
  clear h ha hx
  unfold OncEnd
  go_enter Tryz.func128, Tryz.ntmps128
  go_wp2
  go_loopw [12] (fun i wr => ∃ k : Nat, k ≤ xs.length ∧ i = .int .i64 (k : Int) ∧ Hid (MSet wr w.heap.size k (fun x => (xs.take k).contains x)) ∧ Below w.heap.size w wr) (fun i _ => xs.length - (intOf i).toNat)
  case atStart => exact ⟨0, Nat.zero_le _, rfl, HM0, HBM.out⟩
  case round =>
    obtain ⟨k, hk, rfl, HS, hb⟩ := hrel
    have HB := Lib.hid hb
    clear HM0 HBM
    by_cases hlt : k < xs.length
    · obtain ⟨b, off, rfl, hbB, hc⟩ := HA.out (by omega)
      have c0 := Strs.at_below hc (hb.mono hB) hbB k hlt
      have HT := Lib.hid (fun y => take_has hlt y)
      have hxl := HXL.out _ (mem_at hlt)
      generalize xs.getD k [] = x at c0 HT hxl
      unfold Strs.sv at c0
      have hsx : (⟨x.toArray⟩ : ByteArray).size = x.length := by simp [ByteArray.size]
      have HSZ : Hid ((⟨x.toArray⟩ : ByteArray).size ≤ maxLen) := Lib.hid (by rw [hsx]; unfold maxLen; omega)
      have hki : (k : Int) < (xs.length : Int) := by omega
      have HKM : Hid (k < maxLen) := Lib.hid (by unfold maxLen; omega)
      clear hb hc hsx hxl
      go_wp2_with (at_mapUpdate; refine Mpb.put _ rfl _ _ _ 189 rfl 9 4 Tryz.underlying189 Tryz.underlying9 Tryz.underlying4 w.heap.size k _ rfl HS.out HKM.out ⟨x.toArray⟩ rfl rfl HSZ.out ?_; intro w1 hs1 hg1)
      have HS1 : Hid (MSet w1 w.heap.size (k + 1) (fun y => (xs.take (k + 1)).contains y)) := Lib.hid (Mpb.same hs1 (fun y => (HT.out y).symm))
      have HB1 := Lib.hid (HB.out.grown hg1 HB.out.size (fun j e => by cases e; exact Nat.le_refl _))
      clear hs1 hg1
      go_wp2
      go_roundw
      case rel => exact ⟨k + 1, by omega, by go_num, HS1, HB1.out⟩
      case measure => simp [intOf]; omega
    · obtain rfl : k = xs.length := by omega
      have HS0 : Hid (MSet wr w.heap.size xs.length (fun x => xs.contains x && !(xs.take 0).contains x)) := Lib.hid (Mpb.same HS.out (fun x => by rw [List.take_length]; simp))
      have HL0 := Lib.hid (Strs.own_lit_nil wr)
      have hgl := Mpb.lt HS.out
      have HO0 : Hid (World.ownsRow (wr.alloc (.cells #[] 9)) (w.heap.size + 1) 9 1 (.slice (some ⟨wr.heap.size, 0, none⟩) 0 0) (once (xs.take 0)).length (Strs.svs (once (xs.take 0)))) := Lib.hid (Rec.own_mono HL0.out (by omega))
      have HS2 := Lib.hid (Mpb.kept (row := none) HS0.out (World.grownBy_alloc wr (.cells #[] 9) none) (by simp))
      have HB2 := Lib.hid (hb.alloc hb.size (.cells #[] 9))
      clear HS HS0 HL0 hb
      go_wp2
      go_loopw [6, 22] (fun u i wr => ∃ k : Nat, k ≤ xs.length ∧ i = .int .i64 (k : Int) ∧ Hid (MSet wr w.heap.size xs.length (fun x => xs.contains x && !(xs.take k).contains x)) ∧ Hid (World.ownsRow wr (w.heap.size + 1) 9 1 u (once (xs.take k)).length (Strs.svs (once (xs.take k)))) ∧ Below w.heap.size w wr) (fun _ i _ => xs.length - (intOf i).toNat)
      case atStart => exact ⟨0, Nat.zero_le _, rfl, HS2, HO0, HB2.out⟩
      case round =>
        clear HS2 HO0 HB2 HB
        obtain ⟨k, hk, rfl, HS, HO, hb⟩ := hrel
        have HB := Lib.hid hb
        by_cases hlt : k < xs.length
        · obtain ⟨b, off, rfl, hbB, hc⟩ := HA.out (by omega)
          have c0 := Strs.at_below hc (hb.mono hB) hbB k hlt
          have HT := Lib.hid (fun y => take_has hlt y)
          have hxl := HXL.out _ (mem_at hlt)
          have hin := has_at hlt
          have HM := Lib.hid (once_more hlt)
          have HLE : Hid ((once (xs.take k)).length ≤ 8000000) := Lib.hid (Nat.le_trans (once_len _) (by rw [List.length_take]; omega))
          have HH := Lib.hid (once_has (xs.take k))
          generalize xs.getD k [] = x at c0 HT hxl hin HM
          unfold Strs.sv at c0
          have hsx : (⟨x.toArray⟩ : ByteArray).size = x.length := by simp [ByteArray.size]
          have HSZ : Hid ((⟨x.toArray⟩ : ByteArray).size ≤ maxLen) := Lib.hid (by rw [hsx]; unfold maxLen; omega)
          have hki : (k : Int) < (xs.length : Int) := by omega
          have hbs := hb.size
          clear hb hc hsx hxl
          cases hseen : (xs.take k).contains x with
          | true =>
            have HV : Hid ((fun x => xs.contains x && !(xs.take k).contains x) (⟨x.toArray⟩ : ByteArray).data.toList = false) := Lib.hid (by show (xs.contains x && !(xs.take k).contains x) = false; rw [hseen]; simp)
            have HE : Hid (once (xs.take (k + 1)) = once (xs.take k)) := Lib.hid (by rw [HM.out]; unfold step; rw [if_pos (by rw [HH.out]; exact hseen)])
            have HF : Hid (∀ y, (xs.contains y && !(xs.take k).contains y) = (xs.contains y && !(xs.take (k + 1)).contains y)) := Lib.hid (fun y => by
              rw [HT.out y]
              by_cases e : y = x
              · subst e; rw [hseen]; simp
              · have : (y == x) = false := by simpa using e
                rw [this]; simp)
            clear HM HH hseen
            go_wp2_with (at_lookup; refine Mpb.look _ rfl _ _ 189 rfl 9 4 Tryz.underlying189 Tryz.underlying9 Tryz.underlying4 (zeroB _) w.heap.size xs.length _ rfl HS.out ⟨x.toArray⟩ rfl HSZ.out false HV.out ?_)
            go_roundw
            case rel => exact ⟨k + 1, by omega, by go_num, Lib.hid (Mpb.same HS.out HF.out), by rw [HE.out]; exact HO, HB.out⟩
            case measure => simp [intOf]; omega
          | false =>
            have HV : Hid ((fun x => xs.contains x && !(xs.take k).contains x) (⟨x.toArray⟩ : ByteArray).data.toList = true) := Lib.hid (by show (xs.contains x && !(xs.take k).contains x) = true; rw [hseen, hin]; rfl)
            have HE : Hid (once (xs.take (k + 1)) = once (xs.take k) ++ [x]) := Lib.hid (by rw [HM.out]; unfold step; rw [if_neg (by rw [HH.out, hseen]; decide)])
            have HF : Hid (∀ y, (!(y == x) && (xs.contains y && !(xs.take k).contains y)) = (xs.contains y && !(xs.take (k + 1)).contains y)) := Lib.hid (fun y => by
              rw [HT.out y]
              cases (y == x) <;> cases xs.contains y <;> cases (xs.take k).contains y <;> rfl)
            clear HM HH hseen
            generalize once (xs.take k) = m at HO HE HLE
            have hml := Strs.svs_len m
            have hown := HO.out
            have hne : some w.heap.size ≠ Value.ownBlock u6 := fun e => by have := (hown.lt _ e.symm).1; omega
            have HNE := Lib.hid hne
            clear hne
            go_wp2_with (first
              | (at_lookup; refine Mpb.look _ rfl _ _ 189 rfl 9 4 Tryz.underlying189 Tryz.underlying9 Tryz.underlying4 (zeroB _) w.heap.size xs.length _ rfl HS.out ⟨x.toArray⟩ rfl HSZ.out true HV.out ?_)
              | (at_builtin; refine wpList_append_own _ rfl (.tmp 29) (.tmp 31) 72 rfl (w.heap.size + 1) 9 i0 (.string ⟨#[]⟩) 1 16 Tryz.underlying72 hi hz0 hz1 hz2 rfl (by decide) _ _ _ rfl (HO.out.alloc _) ⟨wr.heap.size, 0, none⟩ 1 1 [.string ⟨x.toArray⟩] rfl rfl (Strs.news_one _ _ _) (Strs.sv_one x) (by have := HLE.out; unfold maxLen; omega) (by have := HLE.out; omega) (by simp; omega) ?_; intro v1 w1 hown1 hg1 _; have HP := Lib.hid (Strs.push_own (x := x) HO.out HB.out (Nat.le_succ _) hown1 hg1); have HS1 := Lib.hid (Mpb.kept (Mpb.kept (row := none) HS.out (World.grownBy_alloc wr _ none) (by simp)) hg1 HNE.out); clear hown1 hg1)
              | (at_delete; refine Mpb.drop _ rfl _ _ 189 9 rfl 4 Tryz.underlying189 Tryz.underlying9 w.heap.size xs.length _ rfl HS1.out ⟨x.toArray⟩ rfl HSZ.out ?_; intro w2 hs2 hg2; have HS2 := Lib.hid (Mpb.same hs2 HF.out); have HO2 := Lib.hid (Rec.row_grown HP.out.1 hg2 (fun q hq e => by have h9 := (HP.out.1.lt q hq).1; cases e; omega)); have HB2 := Lib.hid (HP.out.2.grown hg2 HP.out.2.size (fun j e => by cases e; exact Nat.le_refl _)); clear hs2 hg2))
            go_roundw
            case rel => exact ⟨k + 1, by omega, by go_num, HS2, by rw [HE.out]; exact HO2, HB2.out⟩
            case measure => simp [intOf]; omega
        · have HE : Hid (once (xs.take k) = once xs) := Lib.hid (by rw [List.take_of_length_le (by omega)])
          rw [HE.out] at HO
          clear HS hb
          go_wp2
          go_ret
          exact ⟨_, rfl, Rec.own_mono HO.out (Nat.le_succ _), HB.out⟩
end Go.Proofs.YtndbhjgfaghelaaGreatDoor.Onc

/-
  CONTRACT of the model's l5Get: the value of a field.
-/
namespace Go.Proofs.YtndbhjgfaghelaaGreatDoor.Flds
open Go Go.RowKit
set_option linter.unusedVariables false
set_option maxRecDepth 1000000
/-- The value of the fields with this name. -/
def got (n : List UInt8) (l : List Fld) : List UInt8 := Tx.join (vals n l)
def GotEnd (t : List UInt8) (w : World) (e : Ending) (w' : World) : Prop := e = .returned (.string ⟨t.toArray⟩) ∧ Below w.heap.size w w'
theorem vals_nonempty {n : List UInt8} {l : List Fld} (h : ¬ 0 < (vals n l).length) : got n l = [] := by
  unfold got; rw [List.eq_nil_of_length_eq_zero (l := vals n l) (by omega)]; rfl
theorem got_len (n : List UInt8) (l : List Fld) : (got n l).length ≤ 3 * total l := by
  have h1 := Tx.join_len (vals n l) (vals n l).length (Nat.le_refl _)
  rw [List.take_length] at h1
  have h2 := Tx.pre_le (vals n l) (vals n l).length
  have h3 := vals_total n l
  have h4 := vals_le n l l.length
  rw [List.take_length] at h4
  unfold got
  have h5 : l.length ≤ total l := by unfold total; omega
  unfold Strs.total at h3
  omega
theorem shape_lget {w : World} {B : Nat} {v : Value} {l : List Fld} (h : Holds w B v l) : ∃ a cap, v = .slice a l.length cap ∧ (0 < l.length → ∃ b off, a = some ⟨b, off, none⟩ ∧ b < B ∧ At w b off l) := by
  rcases h with ⟨rfl, a, cap, rfl⟩ | ⟨h0, b, off, cap, rfl, hb, _, hc⟩
  · exact ⟨a, cap, rfl, fun h => by simp at h⟩
  · exact ⟨_, cap, rfl, fun _ => ⟨b, off, rfl, hb, hc⟩⟩

theorem spec_lget (v : Value) (B : Nat) (l : List Fld) (n : List UInt8) (w : World) (h : Holds w B v l) (hl : total l ≤ 67108864) :
    Calls Tryz.prog 50 #[v, .string ⟨n.toArray⟩] w (GotEnd (got n l) w) := by
  have HG := Lib.hid (spec_get v B l n w h hl)
  unfold GetEnd at HG
  unfold got GotEnd
  obtain ⟨a, cap, rfl, _⟩ := shape_lget h
  clear h
  generalize decide (0 < (vals n l).length) = q at HG
  generalize Tx.join (vals n l) = t at HG ⊢
  go_enter Tryz.func50, Tryz.ntmps50
  go_wp2_with (fail)
  go_at_call 92
  refine HG.out.mono ?_
  rintro e w1 ⟨rfl, hb1⟩
  have HB1 := Lib.hid hb1
  clear hb1
  go_wp2
  go_ret
  exact ⟨rfl, HB1.out⟩
end Go.Proofs.YtndbhjgfaghelaaGreatDoor.Flds

/-
  CONTRACTS of the program's quoteEnd, addPart and SplitList: at every text SplitList returns the parts between the commas outside quoted strings, trimmed, without the empty ones, in memory of its own; nothing that was there before is changed.
-/
namespace Go.Proofs.YtndbhjgfaghelaaGreatDoor.Tx
open Go Go.RowKit
set_option linter.unusedVariables false
set_option maxRecDepth 1000000

/-! where a quoted string ends -/
def QP (s : ByteArray) (Q k : Nat) : Prop := (k ≤ s.size ∧ k + qlen (s.data.toList.drop k) = Q) ∨ (k = s.size + 1 ∧ Q = s.size)
theorem qp_le {s : ByteArray} {Q k : Nat} (h : QP s Q k) : k ≤ s.size + 1 := by rcases h with h | h <;> omega
theorem qp_quote {s : ByteArray} {Q k : Nat} (h : QP s Q k) (hk : k < s.size) (hc : s[k] = 34) : k = Q := by
  rcases h with ⟨_, h⟩ | h
  · rw [drop_cons s k hk, qlen_cons, if_pos (by simp [hc])] at h; omega
  · omega
theorem qp_esc {s : ByteArray} {Q k : Nat} (h : QP s Q k) (hk : k < s.size) (hc : s[k] = 92) : QP s Q (k + 1 + 1) := by
  rcases h with ⟨_, h⟩ | h
  · rw [drop_cons s k hk, qlen_cons, if_neg (by rw [hc]; decide), if_pos (by rw [hc]; decide)] at h
    by_cases h1 : k + 1 < s.size
    · rw [drop_cons s (k + 1) h1, if_neg (by simp), List.drop_succ_cons, List.drop_zero] at h
      exact Or.inl ⟨by omega, by omega⟩
    · rw [List.drop_eq_nil_of_le (by rw [list_len]; omega), if_pos (by simp)] at h
      exact Or.inr ⟨by omega, by omega⟩
  · omega
theorem qp_plain {s : ByteArray} {Q k : Nat} (h : QP s Q k) (hk : k < s.size) (h1 : s[k] ≠ 34) (h2 : s[k] ≠ 92) : QP s Q (k + 1) := by
  rcases h with ⟨_, h⟩ | h
  · rw [drop_cons s k hk, qlen_cons, if_neg (by simpa using h1), if_neg (by simpa using h2)] at h
    exact Or.inl ⟨by omega, by omega⟩
  · omega
theorem qp_end {s : ByteArray} {Q k : Nat} (h : QP s Q k) (hk : s.size ≤ k) : s.size = Q := by
  rcases h with ⟨h0, h⟩ | h
  · have : k = s.size := by omega
    rw [List.drop_eq_nil_of_le (by rw [list_len]; omega), qlen_nil] at h; omega
  · omega
theorem ret_nat {a b : Nat} (h : a = b) : Ending.returned (.int .i64 (a : Int)) = .returned (.int .i64 (b : Int)) := by rw [h]

set_option maxHeartbeats 1000000 in
theorem quote_end (s : ByteArray) (st Q : Nat) (w : World) (hs : s.size ≤ 4194304) (h0 : st < s.size) (hQ : QP s Q (st + 1)) :
    Calls Tryz.prog 105 #[.string s, .int .i64 (st : Int)] w fun e w' => e = .returned (.int .i64 (Q : Int)) ∧ w = w' := by
  have HQ := Lib.hid hQ
  clear hQ
  go_enter Tryz.func105, Tryz.ntmps105
  go_wp2
  go_loop [5] (fun i => ∃ k : Nat, k ≤ s.size + 1 ∧ i = .int .i64 (k : Int) ∧ QP s Q k) (fun i => s.size + 1 - (intOf i).toNat)
  case atStart => exact ⟨st + 1, by omega, by go_num, HQ.out⟩
  case round =>
    clear HQ
    obtain ⟨k, hk, rfl, hq⟩ := hrel
    have HQ := Lib.hid hq
    clear hq
    by_cases hlt : k < s.size
    · by_cases hc : s[k] = 34
      · have h34 : ((s[k].toNat : Int) == 34) = true := by rw [e34]; simp [hc]
        have HE := Lib.hid (qp_quote HQ.out hlt hc)
        clear hc
        go_wp2
        go_ret
        exact ⟨ret_nat HE.out, rfl⟩
      · have h34 : ((s[k].toNat : Int) == 34) = false := by rw [e34]; simpa using hc
        by_cases hc2 : s[k] = 92
        · have h92 : ((s[k].toNat : Int) == 92) = true := by rw [e92]; simp [hc2]
          have HE := Lib.hid (qp_esc HQ.out hlt hc2)
          have HL := Lib.hid (qp_le HE.out)
          clear hc hc2
          go_wp2
          go_round
          case rel => exact ⟨k + 1 + 1, HL.out, by go_num, HE.out⟩
          case measure => simp [intOf]; omega
        · have h92 : ((s[k].toNat : Int) == 92) = false := by rw [e92]; simpa using hc2
          have HE := Lib.hid (qp_plain HQ.out hlt hc hc2)
          clear hc hc2
          go_wp2
          go_round
          case rel => exact ⟨k + 1, by omega, by go_num, HE.out⟩
          case measure => simp [intOf]; omega
    · have HE := Lib.hid (qp_end HQ.out (by omega))
      go_wp2
      go_ret
      exact ⟨ret_nat HE.out, rfl⟩

/-! one more part -/
theorem own_below {w w' : World} {B : Nat} {v : Value} {xs : List (List UInt8)} (h : Strs.Own w B v xs) (hb : Below w.heap.size w w') : Strs.Own w' B v xs := by
  obtain ⟨hl, hc⟩ := h
  refine ⟨hl, ?_⟩
  rcases hc with h0 | ⟨g, cap, cur, rfl, h1, h2, h3⟩
  · exact Or.inl h0
  · have hlt : g < w.heap.size := by
      rcases Nat.lt_or_ge g w.heap.size with h' | h'
      · exact h'
      · rw [Array.getElem?_eq_none h'] at h2; cases h2
    exact Or.inr ⟨g, cap, cur, rfl, h1, by rw [hb.block g hlt]; exact h2, h3⟩
def Added (B : Nat) (xs : List (List UInt8)) (w : World) (e : Ending) (w' : World) : Prop := ∃ v, e = .returned v ∧ Strs.Own w' B v xs ∧ Below B w w'

set_option maxHeartbeats 1000000 in
theorem add_part (s : ByteArray) (B : Nat) (v : Value) (xs : List (List UInt8)) (w : World) (hs : s.size ≤ 4194304) (hx : xs.length ≤ 8000000) (hown : Strs.Own w B v xs) (hB : B ≤ w.heap.size) :
    Calls Tryz.prog 106 #[v, .string s] w (Added B (xs ++ keep [s.data.toList]) w) := by
  obtain ⟨i0, hi, hz0, hz1, hz2⟩ := info_parts Strs.info_str
  have c1 := impl_trim s w (by omega)
  rw [keep_one]
  generalize trim s.data.toList = t at c1 ⊢
  have HO := Lib.hid hown
  clear hown
  cases t with
  | nil =>
    rw [if_pos rfl, List.append_nil]
    go_enter Tryz.func106, Tryz.ntmps106
    go_wp2_with (fail)
    go_at_call 154
    refine c1.mono ?_
    rintro e w1 ⟨rfl, hb1⟩
    have HE := Lib.hid (And.intro (own_below HO.out hb1) (hb1.mono hB))
    clear hb1 HO
    go_wp2
    go_ret
    exact ⟨_, rfl, HE.out.1, HE.out.2⟩
  | cons c r =>
    rw [if_neg (by simp)]
    go_enter Tryz.func106, Tryz.ntmps106
    go_wp2_with (fail)
    go_at_call 154
    refine c1.mono ?_
    rintro e w1 ⟨rfl, hb1⟩
    have hown1 := own_below HO.out hb1
    have hs1 := hb1.size
    have HB := Lib.hid (hb1.mono hB)
    have hlen : (Strs.svs xs).length = xs.length := Strs.svs_len xs
    clear hb1 HO
    go_wp2_with (at_builtin; refine wpList_append_own _ rfl (.tmp 10) (.tmp 12) 72 rfl B 9 i0 (.string ⟨#[]⟩) 1 16 Tryz.underlying72 hi hz0 hz1 hz2 rfl (by decide) _ _ _ rfl (hown1.alloc _) ⟨w1.heap.size, 0, none⟩ 1 1 [Strs.sv (c :: r)] rfl rfl (Strs.news_one _ _ _) (Strs.sv_one _) (by unfold maxLen; omega) (by omega) (by simp; omega) ?_; intro v' w2 hown' hgrow _)
    have HE : Hid (Strs.Own w2 B v' (xs ++ [c :: r]) ∧ Below B w1 w2) := Lib.hid ⟨by show w2.ownsRow B 9 1 v' (xs ++ [c :: r]).length (Strs.svs (xs ++ [c :: r])); rw [List.length_append, Strs.svs_more]; exact hown', ((Below.refl B w1).alloc (by omega) _).grown hgrow (by simp; omega) (fun k e => (hown1.lt k e).1)⟩
    clear hown1 hown' hgrow
    go_wp2
    go_ret
    exact ⟨_, rfl, HE.out.1, HB.out.trans HE.out.2⟩

/-! the parts -/
def seg (l : List UInt8) (f k : Nat) : List UInt8 := (l.drop f).take (k - f)
theorem seg_same (l : List UInt8) (k : Nat) : seg l k k = [] := by unfold seg; simp
theorem seg_all {l : List UInt8} {f k : Nat} (h : l.length ≤ k) : seg l f k = l.drop f := by unfold seg; exact List.take_of_length_le (by rw [List.length_drop]; omega)
theorem seg_more {l : List UInt8} {f k m : Nat} (h : f ≤ k) : seg l f (k + m) = seg l f k ++ (l.drop k).take m := by
  unfold seg
  rw [show k + m - f = (k - f) + m by omega, List.take_add, List.drop_drop, show f + (k - f) = k by omega]
theorem seg_ext {s : ByteArray} {f k : Nat} : (s.extract f k).data.toList = seg s.data.toList f k := by unfold seg; simp
theorem seg_tail {s : ByteArray} {f k : Nat} (h : s.size ≤ k) : (s.extract f s.size).data.toList = seg s.data.toList f k := by
  rw [seg_ext]; unfold seg
  rw [List.take_of_length_le (by rw [List.length_drop, list_len]; exact Nat.le_refl _), List.take_of_length_le (by rw [List.length_drop, list_len]; omega)]
theorem keep_cons (x : List UInt8) (L : List (List UInt8)) : keep (x :: L) = keep [x] ++ keep L := keep_append [x] L

/-- The state of SplitList: k bytes are read, the part that is open began at f; xs are put down. -/
def SP (s : ByteArray) (k f : Nat) (xs : List (List UInt8)) : Prop := f ≤ k ∧ f ≤ s.size ∧ xs.length ≤ k ∧ xs ++ keep (push (seg s.data.toList f k) (cuts false (s.data.toList.drop k))) = split s.data.toList
theorem sp_start (s : ByteArray) : SP s 0 0 [] := ⟨Nat.le_refl _, Nat.zero_le _, Nat.le_refl _, by rw [seg_same, push_nil, List.drop_zero]; rfl⟩
theorem sp_plain {s : ByteArray} {k f : Nat} {xs : List (List UInt8)} (h : SP s k f xs) (hk : k < s.size) (h1 : s[k] ≠ 34) (h2 : s[k] ≠ 44) : SP s (k + 1) f xs := by
  obtain ⟨a, b, b', c⟩ := h
  refine ⟨by omega, b, by omega, ?_⟩
  rw [drop_cons s k hk, cuts_plain false _ (fun e => by cases e) h1 (fun _ => h2), push_push] at c
  rw [seg_more a, drop_cons s k hk]
  exact c
theorem sp_quote {s : ByteArray} {k f Q : Nat} {xs : List (List UInt8)} (h : SP s k f xs) (hk : k < s.size) (h1 : s[k] = 34) (hQ : Q = k + 1 + qlen (s.data.toList.drop (k + 1))) : Q ≤ s.size ∧ SP s (Q + 1) f xs := by
  obtain ⟨a, b, b', c⟩ := h
  obtain ⟨q1, q2⟩ := cuts_qlen _ (s.data.toList.drop (k + 1)) (Nat.le_refl _)
  have hl : (s.data.toList.drop (k + 1)).length = s.size - (k + 1) := by rw [List.length_drop, list_len]
  refine ⟨by omega, by omega, b, by omega, ?_⟩
  rw [drop_cons s k hk, h1, cuts_quote false _ rfl] at c
  show _ ++ keep (push (seg _ f (Q + 1)) (cuts false (List.drop (Q + 1) _))) = _
  have e2 : s.data.toList.drop (k + (1 + (qlen (s.data.toList.drop (k + 1)) + 1))) = (s.data.toList.drop (k + 1)).drop (qlen (s.data.toList.drop (k + 1)) + 1) := by
    rw [List.drop_drop]; congr 1; omega
  rw [show Q + 1 = k + (1 + (qlen (s.data.toList.drop (k + 1)) + 1)) by omega, seg_more a, e2]
  have e1 : (s.data.toList.drop k).take (1 + (qlen (s.data.toList.drop (k + 1)) + 1)) = 34 :: (s.data.toList.drop (k + 1)).take (qlen (s.data.toList.drop (k + 1)) + 1) := by
    rw [drop_cons s k hk, h1, Nat.add_comm 1, List.take_succ_cons]
  rw [e1]
  have hq2 : cuts (!false) (s.data.toList.drop (k + 1)) = _ := q2
  rw [hq2] at c
  generalize s.data.toList.drop (k + 1) = r at *
  by_cases hq : qlen r < r.length
  · rw [if_pos hq, push_push, push_push] at c
    rw [List.append_assoc] at c
    exact c
  · rw [if_neg hq] at c
    rw [List.drop_eq_nil_of_le (by omega), cuts_nil, List.take_of_length_le (by omega)]
    simpa [push] using c
theorem sp_comma {s : ByteArray} {k f : Nat} {xs : List (List UInt8)} (h : SP s k f xs) (hk : k < s.size) (h1 : s[k] = 44) : SP s (k + 1) (k + 1) (xs ++ keep [(s.extract f k).data.toList]) := by
  obtain ⟨a, b, b', c⟩ := h
  have hkl : (keep [(s.extract f k).data.toList]).length ≤ 1 := by rw [keep_one]; split <;> simp
  refine ⟨Nat.le_refl _, by omega, by rw [List.length_append]; omega, ?_⟩
  rw [drop_cons s k hk, cuts_comma _ h1] at c
  have : push (seg s.data.toList f k) ([] :: cuts false (s.data.toList.drop (k + 1))) = seg s.data.toList f k :: cuts false (s.data.toList.drop (k + 1)) := by simp [push]
  rw [this, keep_cons] at c
  rw [seg_same, push_nil, seg_ext, List.append_assoc]
  exact c
theorem sp_end {s : ByteArray} {k f : Nat} {xs : List (List UInt8)} (h : SP s k f xs) (hk : s.size ≤ k) : xs ++ keep [(s.extract f s.size).data.toList] = split s.data.toList := by
  obtain ⟨a, b, b', c⟩ := h
  rw [List.drop_eq_nil_of_le (by rw [list_len]; exact hk), cuts_nil] at c
  rw [seg_tail hk]
  simpa [push] using c

/-- How SplitList ends. -/
def SplitEnd (l : List UInt8) (w : World) (e : Ending) (w' : World) : Prop := ∃ v, e = .returned v ∧ Strs.Own w' w.heap.size v (split l) ∧ Below w.heap.size w w'

set_option maxHeartbeats 1000000 in
theorem impl_split (s : ByteArray) (w : World) (hs : s.size ≤ 4194304) :
    Calls Tryz.prog 61 #[.string s] w (SplitEnd s.data.toList w) := by
  have HO := Lib.hid (Strs.own_lit_nil w)
  go_enter Tryz.func61, Tryz.ntmps61
  go_wp2
  go_loopw [3, 4, 5] (fun v f i wr => ∃ (k fr : Nat) (xs : List (List UInt8)), k ≤ s.size + 1 ∧ i = .int .i64 (k : Int) ∧ f = .int .i64 (fr : Int) ∧ Strs.Own wr w.heap.size v xs ∧ SP s k fr xs ∧ Below w.heap.size w wr) (fun _ _ i _ => s.size + 1 - (intOf i).toNat)
  case atStart => exact ⟨0, 0, [], by omega, rfl, rfl, HO.out, sp_start s, (Below.refl _ _).alloc (Nat.le_refl _) _⟩
  case round =>
    clear HO
    obtain ⟨k, fr, xs, hk, rfl, rfl, hown, hsp, hb⟩ := hrel
    have HS := Lib.hid hsp
    have hf1 : fr ≤ k := hsp.1
    have hf2 : fr ≤ s.size := hsp.2.1
    have hfi : (fr : Int) ≤ (k : Int) := by omega
    have HX := Lib.hid hsp.2.2.1
    clear hsp
    by_cases hlt : k < s.size
    · by_cases hc : s[k] = 34
      · have h34 : ((s[k].toNat : Int) == 34) = true := by rw [e34]; simp [hc]
        obtain ⟨Q, hQ⟩ : ∃ Q, Q = k + 1 + qlen (s.data.toList.drop (k + 1)) := ⟨_, rfl⟩
        obtain ⟨hQ1, hSP⟩ := sp_quote HS.out hlt hc hQ
        have HE := Lib.hid hSP
        have HQ := Lib.hid hQ
        have HO := Lib.hid (And.intro hown hb)
        have hQk : k < Q := by omega
        clear hc hQ hSP hown hb
        go_wp2_with (fail)
        go_at_call 105
        refine (quote_end s k Q _ hs hlt (Or.inl ⟨by omega, HQ.out.symm⟩)).mono ?_
        rintro e w' ⟨rfl, rfl⟩
        go_wp2
        go_roundw
        case rel => exact ⟨Q + 1, fr, xs, by omega, by go_num, rfl, HO.out.1, HE.out, HO.out.2⟩
        case measure => simp [intOf]; omega
      · have h34 : ((s[k].toNat : Int) == 34) = false := by rw [e34]; simpa using hc
        by_cases hc2 : s[k] = 44
        · have h44 : ((s[k].toNat : Int) == 44) = true := by rw [e44]; simp [hc2]
          have HE := Lib.hid (sp_comma HS.out hlt hc2)
          have hbs := hb.size
          have HB := Lib.hid hb
          have HO := Lib.hid hown
          clear hc hc2 hb hown
          go_wp2_with (fail)
          go_at_call 106
          refine (add_part (s.extract fr k) w.heap.size _ xs _ (by simp; omega) (by have := HX.out; omega) HO.out (by omega)).mono ?_
          rintro e w1 ⟨v1, rfl, hown1, hb1⟩
          have H1 := Lib.hid (And.intro hown1 (HB.out.trans hb1))
          clear hown1 hb1
          go_wp2
          go_roundw
          case rel => exact ⟨k + 1, k + 1, _, by omega, by go_num, by go_num, H1.out.1, HE.out, H1.out.2⟩
          case measure => simp [intOf]; omega
        · have h44 : ((s[k].toNat : Int) == 44) = false := by rw [e44]; simpa using hc2
          have HE := Lib.hid (sp_plain HS.out hlt hc hc2)
          have HO := Lib.hid (And.intro hown hb)
          clear hc hc2 hown hb
          go_wp2
          go_roundw
          case rel => exact ⟨k + 1, fr, xs, by omega, by go_num, rfl, HO.out.1, HE.out, HO.out.2⟩
          case measure => simp [intOf]; omega
    · have HE := Lib.hid (sp_end HS.out (by omega))
      have hbs := hb.size
      have HB := Lib.hid hb
      have HO := Lib.hid hown
      clear hb hown
      go_wp2_with (fail)
      go_at_call 106
      refine (add_part (s.extract fr s.size) w.heap.size _ xs _ (by simp; omega) (by have := HX.out; omega) HO.out (by omega)).mono ?_
      rintro e w1 ⟨v1, rfl, hown1, hb1⟩
      have H1 := Lib.hid (And.intro hown1 (HB.out.trans hb1))
      clear hown1 hb1
      go_wp2
      go_ret
      exact ⟨_, rfl, by rw [← HE.out]; exact H1.out.1, H1.out.2⟩
end Go.Proofs.YtndbhjgfaghelaaGreatDoor.Tx
