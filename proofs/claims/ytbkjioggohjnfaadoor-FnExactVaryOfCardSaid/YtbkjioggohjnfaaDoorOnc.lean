/-
  CONTRACT of the program's eachOnce: each of the texts where it stands first, in memory of its own; nothing that was there before is changed.
-/
import Derived.Test.YtbkjioggohjnfaaDoorMpb
import Derived.Test.YtbkjioggohjnfaaDoorStrs
import Derived.LoopTactic
import Derived.Outline
import Derived.Carry
namespace Go.Proofs.YtbkjioggohjnfaaDoor.Onc
open Go Go.RowKit
set_option linter.unusedVariables false
set_option maxRecDepth 1000000
set_option maxRecDepth 1000000

abbrev L : Type := List (List UInt8)
def step (acc : L) (s : List UInt8) : L := if acc.contains s = true then acc else acc ++ [s]
/-- Each text where it stands first. -/
def once (l : L) : L := l.foldl step []
theorem once_more {l : L} {k : Nat} (h : k < l.length) : once (l.take (k + 1)) = step (once (l.take k)) (l.getD k []) := by
  unfold once
  rw [List.take_succ_eq_append_getElem h, List.foldl_append, show l.getD k [] = l[k] by simp [List.getD, h]]; rfl
theorem step_has (acc : L) (s x : List UInt8) : (step acc s).contains x = (acc.contains x || x == s) := by
  unfold step
  by_cases h : acc.contains s = true
  · rw [if_pos h]
    by_cases e : x = s
    · subst e; rw [h]; rfl
    · have : (x == s) = false := by simpa using e
      rw [this, Bool.or_false]
  · rw [if_neg h, List.contains_append, List.contains_cons, List.contains_nil, Bool.or_false]
theorem fold_has : ∀ (l acc : L) (x : List UInt8), (l.foldl step acc).contains x = (acc.contains x || l.contains x)
  | [], acc, x => by simp
  | a :: r, acc, x => by
    rw [List.foldl_cons, fold_has r, step_has, List.contains_cons, Bool.or_assoc]
theorem once_has (l : L) (x : List UInt8) : (once l).contains x = l.contains x := by unfold once; rw [fold_has]; simp
theorem step_len (acc : L) (s : List UInt8) : (step acc s).length ≤ acc.length + 1 := by
  unfold step; split
  · omega
  · rw [List.length_append]; simp
theorem fold_len : ∀ (l acc : L), (l.foldl step acc).length ≤ acc.length + l.length
  | [], acc => by simp
  | a :: r, acc => by
    rw [List.foldl_cons, List.length_cons]
    have h1 := fold_len r (step acc a); have h2 := step_len acc a; omega
theorem once_len (l : L) : (once l).length ≤ l.length := by have := fold_len l []; unfold once; simpa using this
theorem take_has {l : L} {k : Nat} (h : k < l.length) (y : List UInt8) : (l.take (k + 1)).contains y = (y == l.getD k [] || (l.take k).contains y) := by
  rw [List.take_succ_eq_append_getElem h, List.contains_append, show l.getD k [] = l[k] by simp [List.getD, h], List.contains_cons, List.contains_nil, Bool.or_false, Bool.or_comm]
theorem has_at {l : L} {k : Nat} (h : k < l.length) : l.contains (l.getD k []) = true := by
  rw [show l.getD k [] = l[k] by simp [List.getD, h]]; simp
theorem mem_at {l : L} {k : Nat} (h : k < l.length) : l.getD k [] ∈ l := by
  rw [show l.getD k [] = l[k] by simp [List.getD, h]]; exact List.getElem_mem _
theorem shape_s {w : World} {B : Nat} {v : Value} {xs : L} (h : Strs.Holds w B v xs) : ∃ a cap, v = .slice a xs.length cap ∧ (0 < xs.length → ∃ b off, a = some ⟨b, off, none⟩ ∧ b < B ∧ Strs.At w b off xs) := by
  rcases h with ⟨rfl, a, cap, rfl⟩ | ⟨h0, b, off, cap, rfl, h2, hc, h1⟩
  · exact ⟨a, cap, rfl, fun h => absurd h (by simp)⟩
  · exact ⟨_, cap, rfl, fun _ => ⟨b, off, rfl, h2, h1⟩⟩
theorem zeroB (w : World) : (zeroValue 4).run Tryd.prog w = .ok (.bool false) w := by kernel_rfl
abbrev MSet (w : World) (b n : Nat) (f : List UInt8 → Bool) : Prop := Mpb.Set w Tryd.prog 9 4 b n f
def OncEnd (l : L) (w : World) (e : Ending) (w' : World) : Prop := ∃ u, e = .returned u ∧ Strs.Own w' w.heap.size u (once l) ∧ Below w.heap.size w w'

set_option maxHeartbeats 4000000 in
theorem impl_once (v : Value) (B : Nat) (xs : L) (w : World) (h : Strs.Holds w B v xs) (hB : B ≤ w.heap.size) (hl : xs.length ≤ 8000000) (hx : ∀ x ∈ xs, x.length ≤ 4194304) :
    Calls Tryd.prog 21 #[v] w (OncEnd xs w) := by
  obtain ⟨i0, hi, hz0, hz1, hz2⟩ := info_parts Strs.info_str
  obtain ⟨a, cap, rfl, ha⟩ := shape_s h
  have HA := Lib.hid ha
  have HXL := Lib.hid hx
  have HM0 : Hid (MSet (w.alloc (.map #[] 0)) w.heap.size 0 (fun x => (xs.take 0).contains x)) := Lib.hid (Mpb.same (Mpb.made w) (fun x => by simp))
  have HBM := Lib.hid ((Below.refl w.heap.size w).alloc (Nat.le_refl _) (.map #[] 0))
  have hmm := @run_makeMap Tryd.prog
  clear h ha hx
  unfold OncEnd
  go_enter Tryd.func21, Tryd.ntmps21
  go_wp2
  go_loopw [12] (fun i wr => ∃ k : Nat, k ≤ xs.length ∧ i = .int .i64 (k : Int) ∧ Hid (MSet wr w.heap.size k (fun x => (xs.take k).contains x)) ∧ Below w.heap.size w wr) (fun i _ => xs.length - (intOf i).toNat)
  case atStart => exact ⟨0, Nat.zero_le _, rfl, HM0, HBM.out⟩
  case round =>
    obtain ⟨k, hk, rfl, HS, hb⟩ := hrel
    have HB := Lib.hid hb
    clear HM0 HBM
    by_cases hlt : k < xs.length
    · obtain ⟨b, off, rfl, hbB, hc⟩ := HA.out (by omega)
      have c0 := Strs.at_below hc (hb.mono hB) hbB k hlt
      have HT := Lib.hid (fun y => take_has hlt y)
      have hxl := HXL.out _ (mem_at hlt)
      generalize xs.getD k [] = x at c0 HT hxl
      unfold Strs.sv at c0
      have hsx : (⟨x.toArray⟩ : ByteArray).size = x.length := by simp [ByteArray.size]
      have HSZ : Hid ((⟨x.toArray⟩ : ByteArray).size ≤ maxLen) := Lib.hid (by rw [hsx]; unfold maxLen; omega)
      have hki : (k : Int) < (xs.length : Int) := by omega
      have HKM : Hid (k < maxLen) := Lib.hid (by unfold maxLen; omega)
      clear hb hc hsx hxl
      go_wp2_with (at_mapUpdate; refine Mpb.put _ rfl _ _ _ 56 rfl 9 4 Tryd.underlying56 Tryd.underlying9 Tryd.underlying4 w.heap.size k _ rfl HS.out HKM.out ⟨x.toArray⟩ rfl rfl HSZ.out ?_; intro w1 hs1 hg1)
      have HS1 : Hid (MSet w1 w.heap.size (k + 1) (fun y => (xs.take (k + 1)).contains y)) := Lib.hid (Mpb.same hs1 (fun y => (HT.out y).symm))
      have HB1 := Lib.hid (HB.out.grown hg1 HB.out.size (fun j e => by cases e; exact Nat.le_refl _))
      clear hs1 hg1
      go_wp2
      go_roundw
      case rel => exact ⟨k + 1, by omega, by go_num, HS1, HB1.out⟩
      case measure => simp [intOf]; omega
    · obtain rfl : k = xs.length := by omega
      have HS0 : Hid (MSet wr w.heap.size xs.length (fun x => xs.contains x && !(xs.take 0).contains x)) := Lib.hid (Mpb.same HS.out (fun x => by rw [List.take_length]; simp))
      have HL0 := Lib.hid (Strs.own_lit_nil wr)
      have hgl := Mpb.lt HS.out
      have HO0 : Hid (World.ownsRow (wr.alloc (.cells #[] 9)) (w.heap.size + 1) 9 1 (.slice (some ⟨wr.heap.size, 0, none⟩) 0 0) (once (xs.take 0)).length (Strs.svs (once (xs.take 0)))) := Lib.hid (Rec.own_mono HL0.out (by omega))
      have HS2 := Lib.hid (Mpb.kept (row := none) HS0.out (World.grownBy_alloc wr (.cells #[] 9) none) (by simp))
      have HB2 := Lib.hid (hb.alloc hb.size (.cells #[] 9))
      clear HS HS0 HL0 hb
      go_wp2
      go_loopw [6, 22] (fun u i wr => ∃ k : Nat, k ≤ xs.length ∧ i = .int .i64 (k : Int) ∧ Hid (MSet wr w.heap.size xs.length (fun x => xs.contains x && !(xs.take k).contains x)) ∧ Hid (World.ownsRow wr (w.heap.size + 1) 9 1 u (once (xs.take k)).length (Strs.svs (once (xs.take k)))) ∧ Below w.heap.size w wr) (fun _ i _ => xs.length - (intOf i).toNat)
      case atStart => exact ⟨0, Nat.zero_le _, rfl, HS2, HO0, HB2.out⟩
      case round =>
        clear HS2 HO0 HB2 HB
        obtain ⟨k, hk, rfl, HS, HO, hb⟩ := hrel
        have HB := Lib.hid hb
        by_cases hlt : k < xs.length
        · obtain ⟨b, off, rfl, hbB, hc⟩ := HA.out (by omega)
          have c0 := Strs.at_below hc (hb.mono hB) hbB k hlt
          have HT := Lib.hid (fun y => take_has hlt y)
          have hxl := HXL.out _ (mem_at hlt)
          have hin := has_at hlt
          have HM := Lib.hid (once_more hlt)
          have HLE : Hid ((once (xs.take k)).length ≤ 8000000) := Lib.hid (Nat.le_trans (once_len _) (by rw [List.length_take]; omega))
          have HH := Lib.hid (once_has (xs.take k))
          generalize xs.getD k [] = x at c0 HT hxl hin HM
          unfold Strs.sv at c0
          have hsx : (⟨x.toArray⟩ : ByteArray).size = x.length := by simp [ByteArray.size]
          have HSZ : Hid ((⟨x.toArray⟩ : ByteArray).size ≤ maxLen) := Lib.hid (by rw [hsx]; unfold maxLen; omega)
          have hki : (k : Int) < (xs.length : Int) := by omega
          have hbs := hb.size
          clear hb hc hsx hxl
          cases hseen : (xs.take k).contains x with
          | true =>
            have HV : Hid ((fun x => xs.contains x && !(xs.take k).contains x) (⟨x.toArray⟩ : ByteArray).data.toList = false) := Lib.hid (by show (xs.contains x && !(xs.take k).contains x) = false; rw [hseen]; simp)
            have HE : Hid (once (xs.take (k + 1)) = once (xs.take k)) := Lib.hid (by rw [HM.out]; unfold step; rw [if_pos (by rw [HH.out]; exact hseen)])
            have HF : Hid (∀ y, (xs.contains y && !(xs.take k).contains y) = (xs.contains y && !(xs.take (k + 1)).contains y)) := Lib.hid (fun y => by
              rw [HT.out y]
              by_cases e : y = x
              · subst e; rw [hseen]; simp
              · have : (y == x) = false := by simpa using e
                rw [this]; simp)
            clear HM HH hseen
            go_wp2_with (at_lookup; refine Mpb.look _ rfl _ _ 56 rfl 9 4 Tryd.underlying56 Tryd.underlying9 Tryd.underlying4 (zeroB _) w.heap.size xs.length _ rfl HS.out ⟨x.toArray⟩ rfl HSZ.out false HV.out ?_)
            go_roundw
            case rel => exact ⟨k + 1, by omega, by go_num, Lib.hid (Mpb.same HS.out HF.out), by rw [HE.out]; exact HO, HB.out⟩
            case measure => simp [intOf]; omega
          | false =>
            have HV : Hid ((fun x => xs.contains x && !(xs.take k).contains x) (⟨x.toArray⟩ : ByteArray).data.toList = true) := Lib.hid (by show (xs.contains x && !(xs.take k).contains x) = true; rw [hseen, hin]; rfl)
            have HE : Hid (once (xs.take (k + 1)) = once (xs.take k) ++ [x]) := Lib.hid (by rw [HM.out]; unfold step; rw [if_neg (by rw [HH.out, hseen]; decide)])
            have HF : Hid (∀ y, (!(y == x) && (xs.contains y && !(xs.take k).contains y)) = (xs.contains y && !(xs.take (k + 1)).contains y)) := Lib.hid (fun y => by
              rw [HT.out y]
              cases (y == x) <;> cases xs.contains y <;> cases (xs.take k).contains y <;> rfl)
            clear HM HH hseen
            generalize once (xs.take k) = m at HO HE HLE
            have hml := Strs.svs_len m
            have hown := HO.out
            have hne : some w.heap.size ≠ Value.ownBlock u6 := fun e => by have := (hown.lt _ e.symm).1; omega
            have HNE := Lib.hid hne
            clear hne
            go_wp2_with (first
              | (at_lookup; refine Mpb.look _ rfl _ _ 56 rfl 9 4 Tryd.underlying56 Tryd.underlying9 Tryd.underlying4 (zeroB _) w.heap.size xs.length _ rfl HS.out ⟨x.toArray⟩ rfl HSZ.out true HV.out ?_)
              | (at_builtin; refine wpList_append_own _ rfl (.tmp 29) (.tmp 31) 24 rfl (w.heap.size + 1) 9 i0 (.string ⟨#[]⟩) 1 16 Tryd.underlying24 hi hz0 hz1 hz2 rfl (by decide) _ _ _ rfl (HO.out.alloc _) ⟨wr.heap.size, 0, none⟩ 1 1 [.string ⟨x.toArray⟩] rfl rfl (Strs.news_one _ _ _) (Strs.sv_one x) (by have := HLE.out; unfold maxLen; omega) (by have := HLE.out; omega) (by simp; omega) ?_; intro v1 w1 hown1 hg1 _; have HP := Lib.hid (Strs.push_own (x := x) HO.out HB.out (Nat.le_succ _) hown1 hg1); have HS1 := Lib.hid (Mpb.kept (Mpb.kept (row := none) HS.out (World.grownBy_alloc wr _ none) (by simp)) hg1 HNE.out); clear hown1 hg1)
              | (at_delete; refine Mpb.drop _ rfl _ _ 56 9 rfl 4 Tryd.underlying56 Tryd.underlying9 w.heap.size xs.length _ rfl HS1.out ⟨x.toArray⟩ rfl HSZ.out ?_; intro w2 hs2 hg2; have HS2 := Lib.hid (Mpb.same hs2 HF.out); have HO2 := Lib.hid (Rec.row_grown HP.out.1 hg2 (fun q hq e => by have h9 := (HP.out.1.lt q hq).1; cases e; omega)); have HB2 := Lib.hid (HP.out.2.grown hg2 HP.out.2.size (fun j e => by cases e; exact Nat.le_refl _)); clear hs2 hg2))
            go_roundw
            case rel => exact ⟨k + 1, by omega, by go_num, HS2, by rw [HE.out]; exact HO2, HB2.out⟩
            case measure => simp [intOf]; omega
        · have HE : Hid (once (xs.take k) = once xs) := Lib.hid (by rw [List.take_of_length_le (by omega)])
          rw [HE.out] at HO
          clear HS hb
          go_wp2
          go_ret
          exact ⟨_, rfl, Rec.own_mono HO.out (Nat.le_succ _), HB.out⟩
end Go.Proofs.YtbkjioggohjnfaaDoor.Onc
