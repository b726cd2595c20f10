/-
  CONTRACTS of FormatPage, the model's and the program's (by a strings.Builder): the parts' texts, one behind the other; nothing that was there before is changed.
-/
import Derived.Test.YtnffoifkinpmpaaPrt
import Derived.Test.YtnffoifkinpmpaaJoinM
import Derived.Test.YtnffoifkinpmpaaBldB
import Derived.RegionTactic
namespace Go.Proofs.Ytnffoifkinpmpaa.Prt
open Go Go.RowKit
set_option linter.unusedVariables false
set_option maxRecDepth 1000000

def inc : List UInt8 := [60, 37, 105, 110, 99, 108, 117, 100, 101, 32]
def line (f : T) : List UInt8 := if f.1 = 2 then inc ++ f.2 ++ [37, 62] else f.2
def fmt (l : List T) : List UInt8 := l.flatMap line
theorem fmt_more {l : List T} {k : Nat} (h : k < l.length) : fmt (l.take (k + 1)) = fmt (l.take k) ++ line (l.getD k nov) := by
  unfold fmt
  rw [List.take_succ_eq_append_getElem h, List.flatMap_append, show l.getD k nov = l[k] by simp [List.getD, h]]
  simp
theorem line_len_aux (f : T) : (line f).length ≤ 12 * (wt f + 1) := by
  unfold line wt inc
  by_cases h : f.1 = 2
  · rw [if_pos h]; simp only [List.length_append, List.length_cons, List.length_nil]; omega
  · rw [if_neg h]; omega
theorem line_len (f : T) : (line f).length ≤ 12 * (wt f + 1) := line_len_aux f
theorem fmt_len (l : List T) : (fmt l).length ≤ 12 * total l := by
  unfold fmt total Rec.total
  induction l with
  | nil => simp
  | cons f l ih => have := line_len f; simp only [List.flatMap_cons, List.length_append, List.map_cons, List.sum_cons, List.length_cons]; omega
theorem fmt_take (l : List T) (k : Nat) : (fmt (l.take k)).length ≤ (fmt l).length := by
  have : fmt l = fmt (l.take k) ++ fmt (l.drop k) := by unfold fmt; rw [← List.flatMap_append, List.take_append_drop]
  rw [this, List.length_append]; omega
theorem fmt_two {l : List T} {k : Nat} (h : k < l.length) (ht : total l ≤ 1048576) : (fmt (l.take k)).length + (line (l.getD k nov)).length ≤ 13000000 := by
  have h1 := fmt_take l (k + 1); rw [fmt_more h, List.length_append] at h1
  have := fmt_len l; omega
def FmtEnd (r : List UInt8) (w : World) (e : Ending) (w' : World) : Prop := e = .returned (.string ⟨r.toArray⟩) ∧ Below w.heap.size w w'
theorem ret_fmt {a b : List UInt8} (h : a = b) : Ending.returned (.string ⟨a.toArray⟩) = .returned (.string ⟨b.toArray⟩) := by rw [h]
theorem shape_p {w : World} {B : Nat} {v : Value} {l : List T} (h : Holds w B v l) : ∃ a cap, v = .slice a l.length cap ∧ (0 < l.length → ∃ b off, a = some ⟨b, off, none⟩ ∧ b < B ∧ l.length ≤ cap ∧ At w b off l) := by
  rcases h with ⟨rfl, a, cap, rfl⟩ | ⟨h0, b, off, cap, rfl, hb, hcap, hc⟩
  · exact ⟨a, cap, rfl, fun h => by simp at h⟩
  · exact ⟨_, cap, rfl, fun _ => ⟨b, off, rfl, hb, hcap, hc⟩⟩

set_option maxHeartbeats 4000000 in
theorem spec_fmt (v : Value) (B : Nat) (l : List T) (w : World) (h : Holds w B v l) (hB : B ≤ w.heap.size) (hl : total l ≤ 1048576) :
    Calls Try.prog 29 #[v] w (FmtEnd (fmt l) w) := by
  have hll : l.length ≤ 1048576 := Nat.le_trans (len_le_total l) hl
  have HT := Lib.hid hl
  obtain ⟨a, cap, rfl, ha⟩ := shape_p h
  have HA := Lib.hid ha
  clear ha h hl
  go_enter Try.func29, Try.ntmps29
  go_wp2
  go_loopw [3, 4] (fun s i wr => ∃ k : Nat, k ≤ l.length ∧ i = .int .i64 (k : Int) ∧ s = .string ⟨(fmt (l.take k)).toArray⟩ ∧ Below w.heap.size w wr) (fun _ i _ => l.length - (intOf i).toNat)
  case atStart => exact ⟨0, Nat.zero_le _, rfl, rfl, Below.refl _ _⟩
  case round =>
    obtain ⟨k, hk, rfl, rfl, hb⟩ := hrel
    have HB := Lib.hid hb
    by_cases hlt : k < l.length
    · obtain ⟨b, off, rfl, hbw, hcap, hc⟩ := HA.out (by omega)
      obtain ⟨c0, c1⟩ := at_cells (at_below hc hb (Nat.lt_of_lt_of_le hbw hB)) hlt
      have HM := Lib.hid (fmt_more hlt)
      have hlen := fmt_two hlt HT.out
      clear hb hc
      generalize l.getD k nov = x at c0 c1 HM hlen
      generalize fmt (l.take k) = r at HM hlen ⊢
      obtain ⟨x, y⟩ := x
      unfold line inc at HM hlen
      simp only at c0 c1 HM hlen
      have hki : (k : Int) < (l.length : Int) := by omega
      by_cases hx : x = 2
      · subst hx
        simp only [if_true] at HM hlen
        simp only [List.length_append, List.length_cons, List.length_nil] at hlen
        have a1 := Tx.addtwo r [60, 37, 105, 110, 99, 108, 117, 100, 101, 32] (by simp only [List.length_cons, List.length_nil]; omega)
        have a2 := Tx.addtwo (r ++ [60, 37, 105, 110, 99, 108, 117, 100, 101, 32]) y (by simp only [List.length_append, List.length_cons, List.length_nil]; omega)
        have a3 := Tx.addtwo (r ++ [60, 37, 105, 110, 99, 108, 117, 100, 101, 32] ++ y) [37, 62] (by simp only [List.length_append, List.length_cons, List.length_nil]; omega)
        generalize h1 : r ++ [60, 37, 105, 110, 99, 108, 117, 100, 101, 32] = r1 at a1 a2 a3
        generalize h2 : r1 ++ y = r2 at a2 a3
        generalize h3 : r2 ++ [37, 62] = r3 at a3
        have HQ : Hid (fmt (l.take (k + 1)) = r3) := Lib.hid (by rw [HM.out, ← h3, ← h2, ← h1]; simp)
        clear h1 h2 h3 hlen HM
        go_wp2
        all_goals first | go_region | (go_quiet (fail)) | skip
        all_goals go_wp2
        all_goals go_roundw
        all_goals first
          | exact ⟨k + 1, by omega, by go_num, by rw [HQ.out], by first | exact HB.out | exact Rec.below_drew HB.out | exact Rec.below_drewN HB.out _⟩
          | (simp [intOf]; omega)
      · have q0 : (x == 2) = false := by simpa using hx
        rw [if_neg hx] at HM hlen
        have a1 := Tx.addtwo r y (by omega)
        generalize h1 : r ++ y = r1 at a1
        have HQ : Hid (fmt (l.take (k + 1)) = r1) := Lib.hid (by rw [HM.out, ← h1])
        clear h1 hlen HM
        go_wp2
        all_goals first | go_region | (go_quiet (fail)) | skip
        all_goals go_wp2
        all_goals go_roundw
        all_goals first
          | exact ⟨k + 1, by omega, by go_num, by rw [HQ.out], by first | exact HB.out | exact Rec.below_drew HB.out | exact Rec.below_drewN HB.out _⟩
          | (simp [intOf]; omega)
    · have HE : Hid (fmt (l.take k) = fmt l) := Lib.hid (by rw [List.take_of_length_le (by omega)])
      clear hb
      go_wp2
      go_ret
      exact ⟨ret_fmt HE.out, HB.out⟩

theorem impl_part (x : Int) (y : List UInt8) (w : World) (hl : y.length ≤ 1048576) :
    Calls Try.prog 59 #[.agg #[.int .i64 x, .string ⟨y.toArray⟩]] w (FmtEnd (line (x, y)) w) := by
  have HB : Hid (Below w.heap.size w (w.alloc (.cells #[.int .i64 x, .string ⟨y.toArray⟩] 83))) := Lib.hid ((Below.refl _ _).alloc (Nat.le_refl _) _)
  by_cases hx : x = 2
  · subst hx
    have HE : Hid (line (2, y) = [60, 37, 105, 110, 99, 108, 117, 100, 101, 32] ++ y ++ [37, 62]) := Lib.hid rfl
    have a1 := Tx.addtwo [60, 37, 105, 110, 99, 108, 117, 100, 101, 32] y (by simp only [List.length_cons, List.length_nil]; omega)
    have a2 := Tx.addtwo ([60, 37, 105, 110, 99, 108, 117, 100, 101, 32] ++ y) [37, 62] (by simp only [List.length_append, List.length_cons, List.length_nil]; omega)
    generalize h1 : [60, 37, 105, 110, 99, 108, 117, 100, 101, 32] ++ y = r1 at a1 a2 HE
    generalize h2 : r1 ++ [37, 62] = r2 at a2 HE
    clear h1 h2
    go_enter Try.func59, Try.ntmps59
    go_wp2
    go_ret
    exact ⟨ret_fmt HE.out.symm, HB.out⟩
  · have HE : Hid (line (x, y) = y) := Lib.hid (if_neg hx)
    have q0 : (x == 2) = false := by simpa using hx
    clear hx
    go_enter Try.func59, Try.ntmps59
    go_wp2
    go_ret
    exact ⟨ret_fmt HE.out.symm, HB.out⟩

set_option maxHeartbeats 4000000 in
theorem impl_fmt (v : Value) (B : Nat) (l : List T) (w : World) (h : Holds w B v l) (hB : B ≤ w.heap.size) (hl : total l ≤ 1048576) :
    Calls Try.prog 31 #[v] w (FmtEnd (fmt l) w) := by
  have hll : l.length ≤ 1048576 := Nat.le_trans (len_le_total l) hl
  have HT := Lib.hid hl
  obtain ⟨a, cap, rfl, ha⟩ := shape_p h
  have HA := Lib.hid ha
  have hfr : Bld.IsB w.heap.size w.heap.size [] (w.alloc (.cells #[.pointer none, .slice none 0 0] 88)) := Lib.fresh_isBuilder 88 5 w
  have HF := Lib.hid hfr
  clear ha hfr h hl
  go_enter Try.func31, Try.ntmps31
  go_wp2
  go_loopw [9] (fun i wr => ∃ k : Nat, k ≤ l.length ∧ i = .int .i64 (k : Int) ∧ Bld.IsB w.heap.size w.heap.size (Lib.byteCells (fmt (l.take k))) wr ∧ Below w.heap.size w wr) (fun i _ => l.length - (intOf i).toNat)
  case atStart => exact ⟨0, Nat.zero_le _, rfl, HF.out, (Below.refl _ _).alloc (Nat.le_refl _) _⟩
  case round =>
    clear HF
    obtain ⟨k, hk, rfl, hbd, hb⟩ := hrel
    by_cases hlt : k < l.length
    · obtain ⟨b, off, rfl, hbw, hcap, hc⟩ := HA.out (by omega)
      obtain ⟨c0, c1⟩ := at_cells (at_below hc hb (Nat.lt_of_lt_of_le hbw hB)) hlt
      have HM := Lib.hid (fmt_more hlt)
      have HLE : Hid ((l.getD k nov).2.length ≤ 1048576) := Lib.hid (Nat.le_trans (mem_total (Rec.getD_mem hlt)) HT.out)
      have hlen := fmt_two hlt HT.out
      have HB := Lib.hid hb
      have HBD := Lib.hid hbd
      clear hb hbd hc
      generalize l.getD k nov = x at c0 c1 HM hlen HLE
      generalize fmt (l.take k) = r at HM hlen HBD
      obtain ⟨x, y⟩ := x
      simp only at c0 c1 HM hlen HLE
      have HP := Lib.hid (impl_part x y (wr.alloc (.cells #[.int .i64 x, .string ⟨y.toArray⟩] 83)) HLE.out)
      generalize line (x, y) = z at HM hlen HP
      unfold FmtEnd at HP
      have hki : (k : Int) < (l.length : Int) := by omega
      have hsz : (⟨z.toArray⟩ : ByteArray).size = z.length := by simp [ByteArray.size]
      have HW := Lib.hid (fun W (hd : Bld.IsB w.heap.size w.heap.size (Lib.byteCells r) W) (hs : w.heap.size ≤ W.heap.size) => Bld.write w.heap.size w.heap.size (Lib.byteCells r) ⟨z.toArray⟩ W hd (by rw [Lib.byteCells_length, hsz]; omega) hs)
      have HB2 := Lib.hid (HB.out.alloc HB.out.size (.cells #[.int .i64 x, .string ⟨y.toArray⟩] 83))
      clear hlen hsz
      go_wp2_with (fail)
      go_at_call 59
      refine HP.out.mono ?_
      rintro e w1 ⟨rfl, hb1⟩
      have HB3 := Lib.hid (Base.then_below HB2.out hb1)
      have HBD3 := Lib.hid (Bld.isb_below (Bld.isb_alloc HBD.out _) hb1)
      clear hb1
      go_wp2_with (fail)
      go_at_call 58
      refine (HW.out _ HBD3.out HB3.out.size).mono ?_
      rintro e w2 ⟨rfl, hbd2, hb2⟩
      have HR := Lib.hid (And.intro hbd2 (HB3.out.trans hb2))
      clear hbd2 hb2
      go_wp2
      go_roundw
      case rel =>
        refine ⟨k + 1, by omega, by go_num, Or.inr ?_, HR.out.2⟩
        rw [HM.out, Lib.byteCells_append, ← show Lib.strCells ⟨z.toArray⟩ = Lib.byteCells z from rfl]; exact HR.out.1
      case measure => simp [intOf]; omega
    · have HE : Hid (fmt (l.take k) = fmt l) := Lib.hid (by rw [List.take_of_length_le (by omega)])
      have HS := Lib.hid (Try.Builder_String_any w.heap.size w.heap.size (fmt (l.take k)) wr hbd hb.size)
      have HB := Lib.hid hb
      clear hb hbd
      go_wp2_with (fail)
      go_at_call 60
      refine HS.out.mono ?_
      rintro e w1 ⟨rfl, hb1⟩
      go_wp2
      go_ret
      exact ⟨ret_fmt HE.out, HB.out.trans hb1⟩
end Go.Proofs.Ytnffoifkinpmpaa.Prt
