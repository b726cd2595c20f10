/-
  CONTRACTS of both sides' IsTag, FormatTag, StrongSame and WeakSame; nothing that was there before is changed.
-/
import Derived.Test.YtgnkdeconooifaaDoorTagM
import Derived.Test.YtgnkdeconooifaaDoorNumIn
import Derived.Test.YtgnkdeconooifaaDoorJoinM
import Derived.LoopTactic
import Derived.Outline
namespace Go.Proofs.YtgnkdeconooifaaDoor.Tgs
open Go Go.RowKit
set_option linter.unusedVariables false

def BoolEnd (b : Bool) (w : World) (e : Ending) (w' : World) : Prop := e = .returned (.bool b) ∧ Below w.heap.size w w'
def TxtEnd (t : List UInt8) (w : World) (e : Ending) (w' : World) : Prop := e = .returned (.string ⟨t.toArray⟩) ∧ Below w.heap.size w w'
theorem ret_bool {a b : Bool} (h : a = b) : Ending.returned (.bool a) = .returned (.bool b) := by rw [h]
theorem ret_txt {a b : List UInt8} (h : a = b) : Ending.returned (.string ⟨a.toArray⟩) = .returned (.string ⟨b.toArray⟩) := by rw [h]

set_option maxHeartbeats 1000000 in
theorem spec_is_s (x : Bool) (s : ByteArray) (w : World) (hs : s.size ≤ 1048576) :
    Calls Tryd.prog 17 #[.agg #[.bool x, .string s]] w (BoolEnd (okt s.data.toList) w) := by
  have HB : Hid (Below w.heap.size w (w.alloc (.cells #[.bool x, .string s] 31))) := Lib.hid ((Below.refl _ _).alloc (Nat.le_refl _) _)
  go_enter Tryd.func17, Tryd.ntmps17
  go_wp2
  go_loop [3] (fun i => ∃ k : Nat, k ≤ s.size ∧ i = .int .i64 k ∧ (s.data.toList.take k).all tgc = true) (fun i => s.size - (intOf i).toNat)
  case atStart => exact ⟨0, Nat.zero_le _, rfl, rfl⟩
  case round =>
    obtain ⟨k, hk, rfl, ha⟩ := hrel
    have HA := Lib.hid ha
    clear ha
    by_cases hlt : k < s.size
    · have hb255 : (s[k].toNat : Int) ≤ 255 := by have := s[k].toNat_lt; omega
      rcases hc : tgc s[k] with _ | _
      · have HT := Lib.hid (okt_bad hlt hc)
        rcases tgc_no hc with q1 | ⟨q1, q2⟩
        · have HQ := Lib.hid q1
          clear hc q1
          go_wp2_with (go_at_call 36; (with_reducible refine (NumDiv.in_no _ _ _ _ HQ.out).mono ?_); rintro e w' ⟨rfl, rfl⟩)
          go_ret
          exact ⟨ret_bool HT.out.symm, HB.out⟩
        · obtain ⟨q3, q4⟩ := q1
          have q5 : ((s[k].toNat : Int) == 34) = true := by rw [q2]; rfl
          clear hc q2
          go_wp2_with (go_at_call 36; (with_reducible refine (NumDiv.in_yes _ _ _ _ q3 q4).mono ?_); rintro e w' ⟨rfl, rfl⟩)
          go_ret
          exact ⟨ret_bool HT.out.symm, HB.out⟩
      · have HT := Lib.hid (tgc_more hlt HA.out hc)
        obtain ⟨⟨q1, q2⟩, q3⟩ := tgc_yes hc
        have q4 : ((s[k].toNat : Int) == 34) = false := by simpa using q3
        clear hc q3
        go_wp2_with (go_at_call 36; (with_reducible refine (NumDiv.in_yes _ _ _ _ q1 q2).mono ?_); rintro e w' ⟨rfl, rfl⟩)
        go_round
        case rel => exact ⟨k + 1, by omega, by go_num, HT.out⟩
        case measure => simp [intOf]; omega
    · have HT := Lib.hid (okt_all (show k = s.size by omega) HA.out)
      go_wp2
      go_ret
      exact ⟨ret_bool HT.out.symm, HB.out⟩

set_option maxHeartbeats 1000000 in
theorem impl_is_s (x : Bool) (s : ByteArray) (w : World) (hs : s.size ≤ 1048576) :
    Calls Tryd.prog 16 #[.agg #[.bool x, .string s]] w (BoolEnd (okt s.data.toList) w) := by
  have HB : Hid (Below w.heap.size w (w.alloc (.cells #[.bool x, .string s] 31))) := Lib.hid ((Below.refl _ _).alloc (Nat.le_refl _) _)
  by_cases h40 : 40 < s.size
  · have HT := Lib.hid (okt_long h40)
    go_enter Tryd.func16, Tryd.ntmps16
    go_wp2
    go_ret
    exact ⟨ret_bool HT.out.symm, HB.out⟩
  · go_enter Tryd.func16, Tryd.ntmps16
    go_wp2
    go_loop [3, 11] (fun j i => ∃ k : Nat, k ≤ s.size ∧ i = .int .i64 k ∧ (s.data.toList.take k).all tgc = true) (fun _ i => s.size - (intOf i).toNat)
    case atStart => exact ⟨0, Nat.zero_le _, rfl, rfl⟩
    case round =>
      obtain ⟨k, hk, rfl, ha⟩ := hrel
      have HA := Lib.hid ha
      clear ha
      by_cases hlt : k < s.size
      · have hb255 : (s[k].toNat : Int) ≤ 255 := by have := s[k].toNat_lt; omega
        rcases hc : tgc s[k] with _ | _
        · have HT := Lib.hid (okt_bad hlt hc)
          rcases tgc_no hc with (q1 | q1) | ⟨q1, q2⟩
          · have q2 : (s[k].toNat : Int) ≤ 32 := by omega
            clear hc q1
            go_wp2
            go_ret
            exact ⟨ret_bool HT.out.symm, HB.out⟩
          · have q2 : ¬ (s[k].toNat : Int) ≤ 32 := by omega
            clear hc
            go_wp2
            go_ret
            exact ⟨ret_bool HT.out.symm, HB.out⟩
          · have q3 : ¬ (s[k].toNat : Int) ≤ 32 := by omega
            have q4 : ¬ 126 < (s[k].toNat : Int) := by omega
            have q5 : ((s[k].toNat : Int) == 34) = true := by rw [q2]; rfl
            clear hc q1 q2
            go_wp2
            go_ret
            exact ⟨ret_bool HT.out.symm, HB.out⟩
        · have HT := Lib.hid (tgc_more hlt HA.out hc)
          obtain ⟨⟨q1, q2⟩, q3⟩ := tgc_yes hc
          have q4 : ((s[k].toNat : Int) == 34) = false := by simpa using q3
          have q5 : ¬ (s[k].toNat : Int) ≤ 32 := by omega
          have q6 : ¬ 126 < (s[k].toNat : Int) := by omega
          clear hc q3 q1 q2
          go_wp2
          go_round
          case rel => exact ⟨k + 1, by omega, by go_num, HT.out⟩
          case measure => simp [intOf]; omega
      · have HT := Lib.hid (okt_all (show k = s.size by omega) HA.out)
        go_wp2
        go_ret
        exact ⟨ret_bool (by rw [HT.out]; symm; simp; omega), HB.out⟩
theorem bsz (y : List UInt8) : (⟨y.toArray⟩ : ByteArray).size = y.length := by simp [ByteArray.size]
theorem spec_is (x : Bool) (y : List UInt8) (w : World) (hs : y.length ≤ 1048576) :
    Calls Tryd.prog 17 #[.agg #[.bool x, .string ⟨y.toArray⟩]] w (BoolEnd (okt y) w) := spec_is_s x ⟨y.toArray⟩ w (by rw [bsz]; exact hs)
theorem impl_is (x : Bool) (y : List UInt8) (w : World) (hs : y.length ≤ 1048576) :
    Calls Tryd.prog 16 #[.agg #[.bool x, .string ⟨y.toArray⟩]] w (BoolEnd (okt y) w) := impl_is_s x ⟨y.toArray⟩ w (by rw [bsz]; exact hs)

theorem box_after {w w1 : World} {x : Bool} {y : List UInt8} (h : Below (w.alloc (.cells #[.bool x, .string ⟨y.toArray⟩] 31)).heap.size (w.alloc (.cells #[.bool x, .string ⟨y.toArray⟩] 31)) w1) :
    (w1.cell? ⟨w.heap.size, 0, none⟩ = some (.bool x) ∧ w1.cell? ⟨w.heap.size, 1, none⟩ = some (.string ⟨y.toArray⟩)) ∧ Below w.heap.size w w1 := by
  refine ⟨⟨?_, ?_⟩, ((Below.refl _ _).alloc (Nat.le_refl _) _).trans (h.mono (by simp))⟩
  · rw [h.cell (p := ⟨w.heap.size, 0, none⟩) (by simp), World.cell?_alloc_new]; rfl
  · rw [h.cell (p := ⟨w.heap.size, 1, none⟩) (by simp), World.cell?_alloc_new]; rfl

set_option maxHeartbeats 1000000 in
theorem spec_fmt (x : Bool) (y : List UInt8) (w : World) (hs : y.length ≤ 1048576) :
    Calls Tryd.prog 32 #[.agg #[.bool x, .string ⟨y.toArray⟩]] w (TxtEnd (ftag (x, y)) w) := by
  have HI := Lib.hid (fun W => spec_is x y W hs)
  have HX := Lib.hid (fun w1 => box_after (w := w) (w1 := w1) (x := x) (y := y))
  cases hz : okt y with
  | false =>
    have HE := Lib.hid (ftag_no (x := x) hz)
    rw [hz] at HI
    clear hz
    go_enter Tryd.func32, Tryd.ntmps32
    go_wp2_with (fail)
    go_at_call 17
    refine (HI.out _).mono ?_
    rintro e w1 ⟨rfl, hb⟩
    have HXX := Lib.hid (HX.out _ hb)
    clear hb
    go_wp2
    go_ret
    exact ⟨ret_txt HE.out.symm, HXX.out.2⟩
  | true =>
    rw [hz] at HI
    cases x with
    | true =>
      have HE := Lib.hid (ftag_weak hz)
      have a1 := Tx.addtwo [87, 47, 34] y (by simp only [List.length_cons, List.length_nil]; omega)
      have a2 := Tx.addtwo ([87, 47, 34] ++ y) [34] (by simp only [List.length_append, List.length_cons, List.length_nil]; omega)
      generalize [87, 47, 34] ++ y = y1 at a1 a2 HE
      generalize y1 ++ [34] = y2 at a2 HE
      clear hz
      go_enter Tryd.func32, Tryd.ntmps32
      go_wp2_with (fail)
      go_at_call 17
      refine (HI.out _).mono ?_
      rintro e w1 ⟨rfl, hb⟩
      obtain ⟨⟨c0, c1⟩, hb1⟩ := HX.out _ hb
      have HXX := Lib.hid hb1
      clear hb hb1
      go_wp2
      go_ret
      exact ⟨ret_txt HE.out.symm, HXX.out⟩
    | false =>
      have HE := Lib.hid (ftag_strong hz)
      have a1 := Tx.addtwo [34] y (by simp only [List.length_cons, List.length_nil]; omega)
      have a2 := Tx.addtwo ([34] ++ y) [34] (by simp only [List.length_append, List.length_cons, List.length_nil]; omega)
      generalize [34] ++ y = y1 at a1 a2 HE
      generalize y1 ++ [34] = y2 at a2 HE
      clear hz
      go_enter Tryd.func32, Tryd.ntmps32
      go_wp2_with (fail)
      go_at_call 17
      refine (HI.out _).mono ?_
      rintro e w1 ⟨rfl, hb⟩
      obtain ⟨⟨c0, c1⟩, hb1⟩ := HX.out _ hb
      have HXX := Lib.hid hb1
      clear hb hb1
      go_wp2
      go_ret
      exact ⟨ret_txt HE.out.symm, HXX.out⟩

set_option maxHeartbeats 1000000 in
theorem impl_fmt (x : Bool) (y : List UInt8) (w : World) (hs : y.length ≤ 1048576) :
    Calls Tryd.prog 13 #[.agg #[.bool x, .string ⟨y.toArray⟩]] w (TxtEnd (ftag (x, y)) w) := by
  have HI := Lib.hid (fun W => impl_is x y W hs)
  have HX := Lib.hid (fun w1 => box_after (w := w) (w1 := w1) (x := x) (y := y))
  cases hz : okt y with
  | false =>
    have HE := Lib.hid (ftag_no (x := x) hz)
    rw [hz] at HI
    clear hz
    go_enter Tryd.func13, Tryd.ntmps13
    go_wp2_with (fail)
    go_at_call 16
    refine (HI.out _).mono ?_
    rintro e w1 ⟨rfl, hb⟩
    have HXX := Lib.hid (HX.out _ hb)
    clear hb
    go_wp2
    go_ret
    exact ⟨ret_txt HE.out.symm, HXX.out.2⟩
  | true =>
    rw [hz] at HI
    cases x with
    | true =>
      have HE := Lib.hid (show [87, 47] ++ ([34] ++ y ++ [34]) = ftag (true, y) by rw [ftag_weak hz]; simp)
      have a1 := Tx.addtwo [34] y (by simp only [List.length_cons, List.length_nil]; omega)
      have a2 := Tx.addtwo ([34] ++ y) [34] (by simp only [List.length_append, List.length_cons, List.length_nil]; omega)
      have a3 := Tx.addtwo [87, 47] ([34] ++ y ++ [34]) (by simp only [List.length_append, List.length_cons, List.length_nil]; omega)
      generalize [34] ++ y = y1 at a1 a2 a3 HE
      generalize y1 ++ [34] = y2 at a2 a3 HE
      generalize [87, 47] ++ y2 = y3 at a3 HE
      clear hz
      go_enter Tryd.func13, Tryd.ntmps13
      go_wp2_with (fail)
      go_at_call 16
      refine (HI.out _).mono ?_
      rintro e w1 ⟨rfl, hb⟩
      obtain ⟨⟨c0, c1⟩, hb1⟩ := HX.out _ hb
      have HXX := Lib.hid hb1
      clear hb hb1
      go_wp2
      go_ret
      exact ⟨ret_txt HE.out, HXX.out⟩
    | false =>
      have HE := Lib.hid (ftag_strong hz)
      have a1 := Tx.addtwo [34] y (by simp only [List.length_cons, List.length_nil]; omega)
      have a2 := Tx.addtwo ([34] ++ y) [34] (by simp only [List.length_append, List.length_cons, List.length_nil]; omega)
      generalize [34] ++ y = y1 at a1 a2 HE
      generalize y1 ++ [34] = y2 at a2 HE
      clear hz
      go_enter Tryd.func13, Tryd.ntmps13
      go_wp2_with (fail)
      go_at_call 16
      refine (HI.out _).mono ?_
      rintro e w1 ⟨rfl, hb⟩
      obtain ⟨⟨c0, c1⟩, hb1⟩ := HX.out _ hb
      have HXX := Lib.hid hb1
      clear hb hb1
      go_wp2
      go_ret
      exact ⟨ret_txt HE.out.symm, HXX.out⟩
end Go.Proofs.YtgnkdeconooifaaDoor.Tgs
