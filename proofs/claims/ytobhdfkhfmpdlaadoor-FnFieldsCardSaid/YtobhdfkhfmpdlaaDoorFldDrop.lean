/-
  CONTRACTS of DropField, the model's and the program's: in new memory, the fields without those with a name; nothing that was there before is changed.
-/
import Derived.Test.YtobhdfkhfmpdlaaDoorFldFil
namespace Go.Proofs.YtobhdfkhfmpdlaaDoor.Flds
open Go Go.RowKit
set_option linter.unusedVariables false
set_option maxRecDepth 1000000

def keepn (n : List UInt8) (l : List Fld) : List Fld := l.filter (fun f => f.1 != n)
theorem keepn_more {n : List UInt8} {l : List Fld} {k : Nat} (h : k < l.length) : keepn n (l.take (k + 1)) = if (l.getD k nofld).1 = n then keepn n (l.take k) else keepn n (l.take k) ++ [l.getD k nofld] := by
  unfold keepn
  rw [filt_more h]
  by_cases e : (l.getD k nofld).1 = n
  · rw [if_pos e, if_neg (by simpa using e)]
  · rw [if_neg e, if_pos (by simpa using e)]
theorem keepn_le (n : List UInt8) (l : List Fld) : (keepn n l).length ≤ l.length := List.length_filter_le _ _

/-! The program's. -/
theorem drop_keeps (g : Nat) (n : List UInt8) (w : World) (hc : w.cell? ⟨g, 0, none⟩ = some (.string ⟨n.toArray⟩)) : Keeps 46 (.pointer (some ⟨g, 0, none⟩)) (fun f => f.1 != n) w := by
  intro x y wx hb
  have hg := lt_of_cell hc
  have hgx : g < wx.heap.size := Nat.lt_of_lt_of_le hg hb.size
  have hcx : wx.cell? ⟨g, 0, none⟩ = some (.string ⟨n.toArray⟩) := (hb.cell (p := ⟨g, 0, none⟩) hg).trans hc
  have HB := Lib.hid ((Below.refl wx.heap.size wx).alloc (Nat.le_refl _) (.cells #[.string ⟨x.toArray⟩, .string ⟨y.toArray⟩] 46))
  clear hb hc hg
  by_cases e : x = n
  · subst e
    go_enter Tryd.func46, Tryd.ntmps46
    go_wp2
    go_ret
    exact ⟨by simp, HB.out⟩
  · have hq : (x == n) = false := by simpa using e
    go_enter Tryd.func46, Tryd.ntmps46
    go_wp2
    go_ret
    exact ⟨by simp [e], HB.out⟩

theorem impl_drop (v : Value) (B : Nat) (l : List Fld) (n : List UInt8) (w : World) (h : Holds w B v l) (hB : B ≤ w.heap.size) (hl : l.length ≤ 1048576) :
    Calls Tryd.prog 16 #[v, .string ⟨n.toArray⟩] w (FilterEnd (keepn n l) w) := by
  have hmf : ∀ (fn : Fn) (first cap : Array Value) (w : World), (Instr.makeFunc fn first cap).run Tryd.prog w = .ok (.func fn first cap) w := fun _ _ _ _ => rfl
  have hb2 : Below w.heap.size w (w.alloc (.cells #[.string ⟨n.toArray⟩] 9)) := (Below.refl _ _).alloc (Nat.le_refl _) _
  have hcn : (w.alloc (.cells #[.string ⟨n.toArray⟩] 9)).cell? ⟨w.heap.size, 0, none⟩ = some (.string ⟨n.toArray⟩) := by
    rw [World.cell?_alloc_at _ _ _ _ rfl]; rfl
  have HF := Lib.hid (filter_any 46 (.pointer (some ⟨w.heap.size, 0, none⟩)) (fun f => f.1 != n) v B l _ enters_drop (drop_keeps w.heap.size n _ hcn) (holds_below h (hb2.mono hB)) hl)
  have HL := Lib.hid hb2
  clear hb2 hcn h
  go_enter Tryd.func16, Tryd.ntmps16
  go_wp2_with (fail)
  go_at_call 43
  refine HF.out.mono ?_
  rintro e w3 ⟨v3, rfl, hown3, hb3⟩
  have HR := Lib.hid (And.intro (own_mono hown3 (B' := w.heap.size) (by simp)) (HL.out.trans (hb3.mono (by simp))))
  clear hown3 hb3
  go_wp2
  go_ret
  exact ⟨_, rfl, HR.out.1, HR.out.2⟩
end Go.Proofs.YtobhdfkhfmpdlaaDoor.Flds
