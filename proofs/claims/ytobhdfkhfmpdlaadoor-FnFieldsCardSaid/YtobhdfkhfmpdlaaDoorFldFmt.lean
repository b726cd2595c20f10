/-
  CONTRACTS of FormatFields, the model's and the program's (by a strings.Builder): the fields' lines, one behind the other; nothing that was there before is changed.
-/
import Derived.Test.YtobhdfkhfmpdlaaDoorFldFil
import Derived.Test.YtobhdfkhfmpdlaaDoorJoinM
import Derived.Test.YtobhdfkhfmpdlaaDoorBldW
import Derived.RegionTactic
namespace Go.Proofs.YtobhdfkhfmpdlaaDoor.Flds
open Go Go.RowKit
set_option linter.unusedVariables false
set_option maxRecDepth 1000000

def line (f : Fld) : List UInt8 := f.1 ++ [58, 32] ++ f.2 ++ [13, 10]
def fmt (l : List Fld) : List UInt8 := l.flatMap line
theorem fmt_more {l : List Fld} {k : Nat} (h : k < l.length) : fmt (l.take (k + 1)) = fmt (l.take k) ++ line (l.getD k nofld) := by
  unfold fmt
  rw [List.take_succ_eq_append_getElem h, List.flatMap_append, show l.getD k nofld = l[k] by simp [List.getD, h]]
  simp
theorem line_len (f : Fld) : (line f).length = f.1.length + f.2.length + 4 := by unfold line; simp; omega
theorem fmt_len (l : List Fld) (k : Nat) (hk : k ≤ l.length) : (fmt (l.take k)).length = pre l k + 4 * k := by
  induction k with
  | zero => simp [fmt, pre]
  | succ k ih => rw [fmt_more (by omega), List.length_append, ih (by omega), line_len, pre_more (by omega)]; omega
theorem pre_le (l : List Fld) (k : Nat) : pre l k + l.length ≤ total l := by
  unfold pre total
  conv => rhs; rw [← List.take_append_drop k l]
  rw [List.map_append, List.sum_append, List.take_append_drop]; omega

def FmtEnd (l : List Fld) (w : World) (e : Ending) (w' : World) : Prop := e = .returned (.string ⟨(fmt l).toArray⟩) ∧ Below w.heap.size w w'
theorem ret_fmt {a b : List UInt8} (h : a = b) : Ending.returned (.string ⟨a.toArray⟩) = .returned (.string ⟨b.toArray⟩) := by rw [h]
theorem below_drew2 {B : Nat} {a w : World} (h : Below B a w) : Below B a w.drew := ⟨h.os, h.tape, h.output, h.size, h.block⟩

/-! The program's. -/
abbrev IsB (B b : Nat) (bs : List Value) (w : World) : Prop := Lib.IsBuilder 79 5 B b bs w
theorem isb_alloc {B b : Nat} {bs : List Value} {w : World} (h : IsB B b bs w) (o : Obj) : IsB B b bs (w.alloc o) := by
  have key : ∀ p, Lib.BuilderAt 79 5 B b p bs w → Lib.BuilderAt 79 5 B b p bs (w.alloc o) := fun p h => by
    have hlt := h.lt
    obtain ⟨hB, v, hb, hown, hne⟩ := h
    exact ⟨hB, v, by rw [Lib.alloc_old w o b hlt]; exact hb, row_below hown ((Below.refl _ _).alloc (Nat.le_refl _) o), hne⟩
  exact h.elim (fun x => .inl (key _ x)) (fun x => .inr (key _ x))

set_option maxHeartbeats 2000000 in
theorem impl_fmt_any (v : Value) (B : Nat) (l : List Fld) (w : World) (h : Holds w B v l) (hB : B ≤ w.heap.size) (hl : total l ≤ 1048576) :
    Calls Tryd.prog 22 #[v] w (FmtEnd l w) := by
  have hll : l.length ≤ 1048576 := by unfold total at hl; omega
  have HT := Lib.hid hl
  have hshape : ∃ a cap, v = .slice a l.length cap ∧ (0 < l.length → ∃ b off, a = some ⟨b, off, none⟩ ∧ b < w.heap.size ∧ At w b off l) := by
    rcases h with ⟨rfl, a, cap, rfl⟩ | ⟨h0, b, off, cap, rfl, hb, _, hc⟩
    · exact ⟨a, cap, rfl, fun h => by simp at h⟩
    · exact ⟨_, cap, rfl, fun _ => ⟨b, off, rfl, by omega, hc⟩⟩
  obtain ⟨a, cap, rfl, ha⟩ := hshape
  have HA := Lib.hid ha
  have hfr : IsB w.heap.size w.heap.size [] (w.alloc (.cells #[.pointer none, .slice none 0 0] 79)) := Lib.fresh_isBuilder 79 5 w
  have HF := Lib.hid hfr
  clear ha hfr h hl
  go_enter Tryd.func22, Tryd.ntmps22
  go_wp2
  go_loopw [9] (fun i wr => ∃ k : Nat, k ≤ l.length ∧ i = .int .i64 (k : Int) ∧ IsB w.heap.size w.heap.size (Lib.byteCells (fmt (l.take k))) wr ∧ Below w.heap.size w wr) (fun i _ => l.length - (intOf i).toNat)
  case atStart => exact ⟨0, Nat.zero_le _, rfl, HF.out, (Below.refl _ _).alloc (Nat.le_refl _) _⟩
  case round =>
    clear HF
    obtain ⟨k, hk, rfl, hbd, hb⟩ := hrel
    by_cases hlt : k < l.length
    · obtain ⟨b, off, rfl, hbw, hc⟩ := HA.out (by omega)
      obtain ⟨c1, c2⟩ := at_below hc hb hbw k hlt
      have HM := Lib.hid (fmt_more hlt)
      have HB := Lib.hid hb
      have HBD := Lib.hid hbd
      have hlen : (fmt (l.take k)).length + (l.getD k nofld).1.length + (l.getD k nofld).2.length + 4 ≤ 100000000 := by
        rw [fmt_len l k hk]; have := pre_le l (k + 1); have := pre_more hlt; have := HT.out; omega
      clear hb hbd hc
      generalize l.getD k nofld = f at c1 c2 HM hlen
      generalize fmt (l.take k) = r at HM hlen HBD
      obtain ⟨x, y⟩ := f
      unfold sv at c1 c2
      unfold line at HM
      simp only at c1 c2 HM hlen
      have a1 := Tx.addtwo x [58, 32] (by simp only [List.length_cons, List.length_nil]; omega)
      have a3 := Tx.addtwo (x ++ [58, 32]) y (by simp only [List.length_append, List.length_cons, List.length_nil]; omega)
      have a4 := Tx.addtwo (x ++ [58, 32] ++ y) [13, 10] (by simp only [List.length_append, List.length_cons, List.length_nil]; omega)
      have hl4 : r.length + (x ++ [58, 32] ++ y ++ [13, 10]).length ≤ 100000000 := by simp only [List.length_append, List.length_cons, List.length_nil]; omega
      generalize h1 : x ++ [58, 32] = r1 at a1 a3 a4 HM hl4
      generalize h3 : r1 ++ y = r3 at a3 a4 HM hl4
      generalize h4 : r3 ++ [13, 10] = r4 at a4 HM hl4
      have hsz : (⟨r4.toArray⟩ : ByteArray).size = r4.length := by simp [ByteArray.size]
      have HW := Lib.hid (Bld.write w.heap.size w.heap.size (Lib.byteCells r) ⟨r4.toArray⟩ (wr.alloc (.cells #[.string ⟨x.toArray⟩, .string ⟨y.toArray⟩] 46)) (isb_alloc HBD.out _) (by rw [Lib.byteCells_length, hsz]; omega) (by have := HB.out.size; rw [World.size_alloc]; omega))
      have HB2 := Lib.hid (HB.out.alloc HB.out.size (.cells #[.string ⟨x.toArray⟩, .string ⟨y.toArray⟩] 46))
      clear h1 h3 h4 hlen hl4 hsz
      go_wp2_with (fail)
      go_at_call 53
      refine HW.out.mono ?_
      rintro e w1 ⟨rfl, hbd1, hb1⟩
      have HR := Lib.hid (And.intro hbd1 (HB2.out.trans hb1))
      clear hbd1 hb1
      go_wp2
      go_roundw
      case rel =>
        refine ⟨k + 1, by omega, by go_num, Or.inr ?_, HR.out.2⟩
        rw [HM.out, Lib.byteCells_append, ← show Lib.strCells ⟨r4.toArray⟩ = Lib.byteCells r4 from rfl]; exact HR.out.1
      case measure => simp [intOf]; omega
    · have HE : Hid (fmt (l.take k) = fmt l) := Lib.hid (by rw [List.take_of_length_le (by omega)])
      have HS := Lib.hid (Tryd.Builder_String_any w.heap.size w.heap.size (fmt (l.take k)) wr hbd hb.size)
      have HB := Lib.hid hb
      clear hb hbd
      go_wp2_with (fail)
      go_at_call 54
      refine HS.out.mono ?_
      rintro e w1 ⟨rfl, hb1⟩
      go_wp2
      go_ret
      exact ⟨ret_fmt HE.out, HB.out.trans hb1⟩
end Go.Proofs.YtobhdfkhfmpdlaaDoor.Flds
