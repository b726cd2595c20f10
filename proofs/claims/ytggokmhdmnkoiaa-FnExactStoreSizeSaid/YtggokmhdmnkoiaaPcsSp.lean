/-
  CONTRACTS of SpansOf, the model's and the program's (and of spanOf): the spans of pieces, in memory of their own; nothing that was there before is changed.
-/
import Derived.Test.YtggokmhdmnkoiaaPcs
import Derived.Test.YtggokmhdmnkoiaaSpn
import Derived.Test.YtggokmhdmnkoiaaKept
import Derived.LoopTactic
import Derived.Outline
import Derived.RegionTactic
import Derived.Deep.RegionWith
import Derived.Deep.AppendLies
import Derived.Deep.RegionHeldLaw
import Derived.IntWalk
namespace Go.Proofs.Ytggokmhdmnkoiaa.Pcs
open Go Go.RowKit
set_option linter.unusedVariables false
set_option maxRecDepth 1000000

def ends (x : Int) (y : List UInt8) : Int := RowKit.wrap64 (x + (y.length : Int))
def spn (p : T) : Spn.T := (p.1, ends p.1 p.2)
def spans (l : List T) : List Spn.T := l.map spn
theorem spans_more {l : List T} {k : Nat} (h : k < l.length) : spans (l.take (k + 1)) = spans (l.take k) ++ [spn (l.getD k nov)] := by
  unfold spans; rw [List.take_succ_eq_append_getElem h, List.map_append]; simp [List.getD, h]
theorem spans_len (l : List T) : (spans l).length = l.length := by unfold spans; simp
theorem spans_all {l : List T} {k : Nat} (h : ¬ k < l.length) : spans (l.take k) = spans l := by rw [List.take_of_length_le (by omega)]
def SpansEnd (l : List T) (w : World) (e : Ending) (w' : World) : Prop := ∃ v, e = .returned v ∧ Spn.Own w' w.heap.size v (spans l) ∧ Below w.heap.size w w'
theorem shape {w : World} {B : Nat} {v : Value} {l : List T} (h : Holds w B v l) : ∃ a cap, v = .slice a l.length cap ∧ (0 < l.length → ∃ b off, a = some ⟨b, off, none⟩ ∧ b < B ∧ At w b off l) := by
  rcases h with ⟨rfl, a, cap, rfl⟩ | ⟨_, b, off, cap, rfl, hb, _, hc⟩
  · exact ⟨a, cap, rfl, fun h => absurd h (by simp)⟩
  · exact ⟨_, cap, rfl, fun _ => ⟨b, off, rfl, hb, hc⟩⟩
theorem bsz (y : List UInt8) : (⟨y.toArray⟩ : ByteArray).size = y.length := by simp [ByteArray.size]

theorem span_of (x : Int) (y : List UInt8) (w : World) (hy : y.length ≤ 1048576) :
    Calls Try.prog 43 #[.agg #[.int .i64 x, .string ⟨y.toArray⟩]] w fun e w' => e = .returned (.agg #[.int .i64 x, .int .i64 (ends x y)]) ∧ Below w.heap.size w w' := by
  have hsy := bsz y
  have HB := Lib.hid (((Below.refl w.heap.size w).alloc (Nat.le_refl _) (.cells #[.int .i64 x, .string ⟨y.toArray⟩] 84)).alloc (by simp) (.cells #[.int .i64 x, .int .i64 (ends x y)] 82))
  unfold ends at HB ⊢
  go_enter Try.func43, Try.ntmps43
  go_wp2
  refine bodyPost_ret (v := .agg #[.int .i64 x, .int .i64 (RowKit.wrap64 (x + (y.length : Int)))]) (by simp [results, Try.results43, go_sem]) rfl ⟨rfl, HB.out⟩

set_option maxHeartbeats 4000000 in
theorem spec_spans (v : Value) (B : Nat) (l : List T) (w : World) (h : Holds w B v l) (hB : B ≤ w.heap.size) (hl : total l ≤ 1048576) :
    Calls Try.prog 25 #[v] w (SpansEnd l w) := by
  obtain ⟨i0, hi, hz0, hz1, hz2⟩ := info_parts Spn.info_r
  have hll : l.length ≤ 1048576 := Nat.le_trans (len_le_total l) hl
  have HT := Lib.hid hl
  obtain ⟨a, cap, rfl, ha⟩ := shape h
  have HA := Lib.hid ha
  have HO1 := Lib.hid (Spn.own_lit_nil w)
  clear ha h hl
  unfold SpansEnd
  go_enter Try.func25, Try.ntmps25
  go_wp2
  go_loopw [3, 4] (fun u i wr => ∃ k : Nat, k ≤ l.length ∧ i = .int .i64 (k : Int) ∧ wr.ownsRow w.heap.size 82 2 u (spans (l.take k)).length (Spn.fcs (spans (l.take k))) ∧ Below w.heap.size w wr) (fun _ i _ => l.length - (intOf i).toNat)
  case atStart => exact ⟨0, Nat.zero_le _, rfl, HO1.out, (Below.refl _ _).alloc (Nat.le_refl _) _⟩
  case round =>
    clear HO1
    obtain ⟨k, hk, rfl, hown, hb⟩ := hrel
    have HB := Lib.hid hb
    have HML : Hid ((spans (l.take k)).length ≤ 1048576) := Lib.hid (by rw [spans_len, List.length_take]; omega)
    have hbs := hb.size
    by_cases hlt : k < l.length
    · obtain ⟨b, off, rfl, hbw, hc⟩ := HA.out (by omega)
      have HM := Lib.hid (spans_more hlt)
      obtain ⟨c0, c1⟩ := at_cells (at_below hc hb (Nat.lt_of_lt_of_le hbw hB)) hlt
      have HLE : Hid ((l.getD k nov).2.length ≤ 1048576) := Lib.hid (Nat.le_trans (mem_total (Rec.getD_mem hlt)) HT.out)
      clear hb hc
      generalize l.getD k nov = f at c0 c1 HM HLE
      obtain ⟨x, y⟩ := f
      dsimp only at c0 c1 HLE
      generalize spans (l.take k) = m at hown HM HML
      have hsy := bsz y
      have hyl := HLE.out
      have HGB := Lib.hid (fun g (hg : u3.ownBlock = some g) => hown.lt g hg)
      have HBb : Hid (b < w.heap.size) := Lib.hid (Nat.lt_of_lt_of_le hbw hB)
      have hL := Spn.fcs_len m
      have hML := HML.out
      have SK : Hid (∀ w0 w2 : World, w0.cell? ⟨b, off + k * 2, none⟩ = some (.int .i64 x) → w0.cell? ⟨b, off + k * 2 + 1, none⟩ = some (.string ⟨y.toArray⟩) → Hid (Below w.heap.size w w0) → w0.grownBy w2 u3.ownBlock → (w2.cell? ⟨b, off + k * 2, none⟩ = some (.int .i64 x) ∧ w2.cell? ⟨b, off + k * 2 + 1, none⟩ = some (.string ⟨y.toArray⟩) ∧ Hid (Below w.heap.size w w2))) := Lib.hid (fun w0 w2 a1 a2 a5 a6 =>
        ⟨a6.cell a1 (fun e => by have h9 : w.heap.size ≤ b := (HGB.out _ e.symm).1; have := HBb.out; omega), a6.cell a2 (fun e => by have h9 : w.heap.size ≤ b := (HGB.out _ e.symm).1; have := HBb.out; omega), Lib.hid (a5.out.grown a6 a5.out.size (fun k e => by have := (HGB.out k e).1; omega))⟩)
      have SA : Hid (∀ (w0 : World) (o : Obj), w0.cell? ⟨b, off + k * 2, none⟩ = some (.int .i64 x) → w0.cell? ⟨b, off + k * 2 + 1, none⟩ = some (.string ⟨y.toArray⟩) → Hid (Below w.heap.size w w0) → ((w0.alloc o).cell? ⟨b, off + k * 2, none⟩ = some (.int .i64 x) ∧ (w0.alloc o).cell? ⟨b, off + k * 2 + 1, none⟩ = some (.string ⟨y.toArray⟩) ∧ Hid (Below w.heap.size w (w0.alloc o)))) := Lib.hid (fun w0 o a1 a2 a5 => by
        have hbA : Below w0.heap.size w0 (w0.alloc o) := (Below.refl _ _).alloc (Nat.le_refl _) _
        exact ⟨(hbA.cell (p := ⟨b, off + k * 2, none⟩) (Rec.lt_of_cell a1)).trans a1, (hbA.cell (p := ⟨b, off + k * 2 + 1, none⟩) (Rec.lt_of_cell a2)).trans a2, Lib.hid (Base.then_below a5.out hbA)⟩)
      have HSA : Hid (wr.cell? ⟨b, off + k * 2, none⟩ = some (.int .i64 x) ∧ wr.cell? ⟨b, off + k * 2 + 1, none⟩ = some (.string ⟨y.toArray⟩) ∧ Hid (Below w.heap.size w wr)) := Lib.hid ⟨c0, c1, Lib.hid HB.out⟩
      have HSD : Hid (wr.drew.cell? ⟨b, off + k * 2, none⟩ = some (.int .i64 x) ∧ wr.drew.cell? ⟨b, off + k * 2 + 1, none⟩ = some (.string ⟨y.toArray⟩) ∧ Hid (Below w.heap.size w wr.drew)) := Lib.hid ⟨c0, c1, Lib.hid (Rec.below_drew HB.out)⟩
      have HSC : Hid ((wr.alloc (.cells #[.int .i64 x, .int .i64 (ends x y)] 82)).drew.cell? ⟨b, off + k * 2, none⟩ = some (.int .i64 x) ∧ (wr.alloc (.cells #[.int .i64 x, .int .i64 (ends x y)] 82)).drew.cell? ⟨b, off + k * 2 + 1, none⟩ = some (.string ⟨y.toArray⟩) ∧ Hid (Below w.heap.size w (wr.alloc (.cells #[.int .i64 x, .int .i64 (ends x y)] 82)).drew)) := Lib.hid (by
        obtain ⟨a1, a2, a5⟩ := SA.out wr (.cells #[.int .i64 x, .int .i64 (ends x y)] 82) c0 c1 (Lib.hid HB.out)
        exact ⟨a1, a2, Lib.hid (Rec.below_drew a5.out)⟩)
      have HOD := Lib.hid (World.ownsRow.drew (hown.alloc (.cells #[.int .i64 x, .int .i64 (ends x y)] 82)))
      have he : ends x y = IntKind.i64.wrap (x + (y.length : Int)) := (IntWalk.i64_left _).symm
      have HM : Hid (spans (l.take (k + 1)) = m ++ [(x, IntKind.i64.wrap (x + (y.length : Int)))]) := Lib.hid (by rw [HM.out, ← he]; rfl)
      rw [he] at HSC HOD
      clear he
      have hki : (k : Int) < (l.length : Int) := by omega
      clear hown
      go_wp2_with (fail)
      go_region_held_law (fun w' => w'.cell? ⟨b, off + k * 2, none⟩ = some (.int .i64 x) ∧ w'.cell? ⟨b, off + k * 2 + 1, none⟩ = some (.string ⟨y.toArray⟩) ∧ Hid (Below w.heap.size w w'))
        (first | exact HSA.out | exact HSD.out | exact HSC.out | go_keep | (go_split_ands; refine SA.out _ _ ?_ ?_ ?_ <;> assumption) | (go_split_ands; refine SK.out _ _ ?_ ?_ ?_ hgrow <;> assumption))
        ((refine step_append_lies _ (by rfl) (.tmp 12) (.tmp 31) 51 (by rfl) w.heap.size 82 i0 (.agg #[.int .i64 0, .int .i64 0]) 2 16 Try.underlying51 hi hz0 hz1 hz2 (by rfl) (by decide) _ _ _ (by rfl) HOD.out ⟨wr.heap.size, 0, none⟩ 1 1 [.int .i64 x, .int .i64 (IntKind.i64.wrap (x + (y.length : Int)))] (by rfl) (by rfl) (Rec.news wr [.int .i64 x, .int .i64 (IntKind.i64.wrap (x + (y.length : Int)))] _) (Spn.cs_one (x, IntKind.i64.wrap (x + (y.length : Int)))) (by decide) (by unfold maxLen; omega) (by omega) (by simp; omega) _ rfl ?_; intro g gcap w2 hown1 hgrow hat hglt))
      all_goals (
        go_split_ands
        have HKB := Lib.hid (Hid.out ‹Hid (Below w.heap.size w w2)›)
        have HOW := Lib.hid hown1
        clear hown1 hgrow hat hglt
        go_wp2
        go_roundw
        case rel => exact ⟨k + 1, by omega, by go_num, by rw [HM.out]; show World.ownsRow _ _ _ _ _ _ _; rw [List.length_append, Spn.fcs_more]; exact HOW.out, HKB.out⟩
        case measure => simp [intOf]; omega)
    · have HE := Lib.hid (spans_all hlt)
      rw [HE.out] at hown
      have HO := Lib.hid hown
      clear hown hb
      go_wp2
      go_ret
      exact ⟨_, rfl, HO.out, HB.out⟩

set_option maxHeartbeats 4000000 in
theorem impl_spans (v : Value) (B : Nat) (l : List T) (w : World) (h : Holds w B v l) (hB : B ≤ w.heap.size) (hl : total l ≤ 1048576) :
    Calls Try.prog 28 #[v] w (SpansEnd l w) := by
  obtain ⟨i0, hi, hz0, hz1, hz2⟩ := info_parts Spn.info_r
  have hll : l.length ≤ 1048576 := Nat.le_trans (len_le_total l) hl
  have HT := Lib.hid hl
  obtain ⟨a, cap, rfl, ha⟩ := shape h
  have HA := Lib.hid ha
  have HO1 := Lib.hid (Spn.own_lit_nil w)
  clear ha h hl
  unfold SpansEnd
  go_enter Try.func28, Try.ntmps28
  go_wp2
  go_loopw [3, 9] (fun u i wr => ∃ k : Nat, k ≤ l.length ∧ i = .int .i64 (k : Int) ∧ wr.ownsRow w.heap.size 82 2 u (spans (l.take k)).length (Spn.fcs (spans (l.take k))) ∧ Below w.heap.size w wr) (fun _ i _ => l.length - (intOf i).toNat)
  case atStart => exact ⟨0, Nat.zero_le _, rfl, HO1.out, (Below.refl _ _).alloc (Nat.le_refl _) _⟩
  case round =>
    clear HO1
    obtain ⟨k, hk, rfl, hown, hb⟩ := hrel
    have HB := Lib.hid hb
    have HML : Hid ((spans (l.take k)).length ≤ 1048576) := Lib.hid (by rw [spans_len, List.length_take]; omega)
    have hbs := hb.size
    by_cases hlt : k < l.length
    · obtain ⟨b, off, rfl, hbw, hc⟩ := HA.out (by omega)
      have HM := Lib.hid (spans_more hlt)
      obtain ⟨c0, c1⟩ := at_cells (at_below hc hb (Nat.lt_of_lt_of_le hbw hB)) hlt
      have HLE : Hid ((l.getD k nov).2.length ≤ 1048576) := Lib.hid (Nat.le_trans (mem_total (Rec.getD_mem hlt)) HT.out)
      clear hb hc
      generalize l.getD k nov = f at c0 c1 HM HLE
      obtain ⟨x, y⟩ := f
      dsimp only at c0 c1 HLE
      generalize spans (l.take k) = m at hown HM HML
      have HSP := Lib.hid (fun W => span_of x y W HLE.out)
      have HMM : Hid (spans (l.take (k + 1)) = m ++ [(x, ends x y)]) := Lib.hid HM.out
      generalize ends x y = z at HSP HMM
      have hL := Spn.fcs_len m
      have HOA := Lib.hid (hown.alloc (.cells #[.int .i64 x, .string ⟨y.toArray⟩] 84))
      have HBA := Lib.hid (HB.out.alloc HB.out.size (.cells #[.int .i64 x, .string ⟨y.toArray⟩] 84))
      have hki : (k : Int) < (l.length : Int) := by omega
      clear hown HM
      go_wp2_with (fail)
      go_at_call 43
      refine (HSP.out _).mono ?_
      rintro e w1 ⟨rfl, hb1⟩
      have HO1 := Lib.hid (Spn.row_below HOA.out hb1)
      have HB1 := Lib.hid (Base.then_below HBA.out hb1)
      have hbs1 := HB1.out.size
      clear hb1 HOA HBA
      go_wp2_with (at_builtin; refine wpList_append_own _ rfl (.tmp 13) (.tmp 16) 51 rfl w.heap.size 82 i0 (.agg #[.int .i64 0, .int .i64 0]) 2 16 Try.underlying51 hi hz0 hz1 hz2 rfl (by decide) _ _ _ rfl (HO1.out.alloc _) ⟨w1.heap.size, 0, none⟩ 1 1 [.int .i64 x, .int .i64 z] rfl rfl (Rec.news _ _ _) (Spn.cs_one (x, z)) (by have := HML.out; unfold maxLen; omega) (by have := HML.out; omega) (by simp; omega) ?_; intro v1 w2 hown1 hg1 _)
      have R := Lib.hid (Spn.push_own (f := (x, z)) HO1.out HB1.out (Nat.le_refl _) hown1 hg1)
      clear hown1 hg1
      go_wp2
      go_roundw
      case rel => exact ⟨k + 1, by omega, by go_num, by rw [HMM.out]; exact R.out.1, R.out.2⟩
      case measure => simp [intOf]; omega
    · have HE := Lib.hid (spans_all hlt)
      rw [HE.out] at hown
      have HO := Lib.hid hown
      clear hown hb
      go_wp2
      go_ret
      exact ⟨_, rfl, HO.out, HB.out⟩
end Go.Proofs.Ytggokmhdmnkoiaa.Pcs
