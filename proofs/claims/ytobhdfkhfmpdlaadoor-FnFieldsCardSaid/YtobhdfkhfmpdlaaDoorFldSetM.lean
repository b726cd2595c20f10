/-
  PLAIN FACTS on a list of fields in which one value is set; and the program's closure of SetField with its filter.
-/
import Derived.Test.YtobhdfkhfmpdlaaDoorFldFil
namespace Go.Proofs.YtobhdfkhfmpdlaaDoor.Flds
open Go Go.RowKit
set_option linter.unusedVariables false
set_option maxRecDepth 1000000

/-- Of the fields with the name only the first is left (none, if one has been seen). -/
def setl (n : List UInt8) : Bool → List Fld → List Fld
  | _, [] => []
  | s, f :: r => if f.1 = n then (if s = true then setl n s r else f :: setl n true r) else f :: setl n s r
def sn (n : List UInt8) (l : List Fld) : Bool := l.any (fun f => f.1 == n)
theorem setl_snoc (n : List UInt8) (s : Bool) (l : List Fld) (f : Fld) : setl n s (l ++ [f]) = setl n s l ++ (if f.1 = n ∧ (s || sn n l) = true then [] else [f]) := by
  induction l generalizing s with
  | nil => cases s <;> by_cases h : f.1 = n <;> simp [setl, sn, h]
  | cons a r ih =>
    rw [List.cons_append]
    have h1 := ih true
    have h2 := ih s
    by_cases ha : a.1 = n
    · have hq : (a.1 == n) = true := by simpa using ha
      cases s
      · simp [setl, ha, h1, sn]
      · simp [setl, ha, h1, sn]
    · have hq : (a.1 == n) = false := by simpa using ha
      simp only [setl, ha, if_false]
      rw [h2, show sn n (a :: r) = sn n r by unfold sn; rw [List.any_cons, hq]; rfl]
      rfl
theorem setl_len (n : List UInt8) (s : Bool) (l : List Fld) : (setl n s l).length ≤ l.length := by
  induction l generalizing s with
  | nil => simp [setl]
  | cons a r ih =>
    have h1 := ih s
    have h2 := ih true
    by_cases ha : a.1 = n
    · cases s
      · simp only [setl, ha, if_true]; simp; omega
      · simp only [setl, ha, if_true]; simp; omega
    · simp only [setl, ha, if_false]; simp; omega
theorem sn_more {n : List UInt8} {l : List Fld} {k : Nat} (h : k < l.length) : sn n (l.take (k + 1)) = (sn n (l.take k) || ((l.getD k nofld).1 == n)) := by
  unfold sn
  rw [List.take_succ_eq_append_getElem h, List.any_append, show l.getD k nofld = l[k] by simp [List.getD, h]]; simp
theorem setl_more {n : List UInt8} {l : List Fld} {k : Nat} (h : k < l.length) : setl n false (l.take (k + 1)) = setl n false (l.take k) ++ (if (l.getD k nofld).1 = n ∧ sn n (l.take k) = true then [] else [l.getD k nofld]) := by
  rw [List.take_succ_eq_append_getElem h, setl_snoc, show l.getD k nofld = l[k] by simp [List.getD, h]]
  simp

/-- What SetField's closure does: it answers whether the field is left, and notes that one with the name has been seen. -/
theorem set_closure (g h : Nat) (n x y : List UInt8) (s : Bool) (wx : World) (hgh : g ≠ h) (hg : g < wx.heap.size) (hh : h < wx.heap.size) (cg : wx.cell? ⟨g, 0, none⟩ = some (.string ⟨n.toArray⟩)) (ch : wx.cell? ⟨h, 0, none⟩ = some (.bool s)) (fh : wx.frozen? ⟨h, 0, none⟩ = false) :
    Calls Tryd.prog 44 #[.agg #[.string ⟨x.toArray⟩, .string ⟨y.toArray⟩], .pointer (some ⟨g, 0, none⟩), .pointer (some ⟨h, 0, none⟩)] wx fun e w' =>
      e = .returned (.bool (!(x == n) || !s)) ∧ w' = (wx.setCell ⟨h, 0, none⟩ (.bool (s || (x == n)))).alloc (.cells #[.string ⟨x.toArray⟩, .string ⟨y.toArray⟩] 46) := by
  by_cases e : x = n
  · subst e
    cases s
    · go_enter Tryd.func44, Tryd.ntmps44
      go_wp2
      go_ret
      exact ⟨by simp, by simp⟩
    · go_enter Tryd.func44, Tryd.ntmps44
      go_wp2
      go_ret
      exact ⟨by simp, by simp⟩
  · have hq : (x == n) = false := by simpa using e
    cases s
    · go_enter Tryd.func44, Tryd.ntmps44
      go_wp2
      go_ret
      exact ⟨by rw [hq]; simp, by rw [hq]; simp⟩
    · go_enter Tryd.func44, Tryd.ntmps44
      go_wp2
      go_ret
      exact ⟨by rw [hq]; simp, by rw [hq]; simp⟩

/-- The worlds that come behind such a call, one field's copy laid ahead of it. -/
theorem cl_facts {B0 : Nat} {w wr : World} {x y nm q q' : Value} {g h : Nat} {T : TypeId} (hb : Below B0 w wr) (hB : B0 ≤ wr.heap.size) (hh0 : B0 ≤ h) (hh : h < wr.heap.size) (hg : g < wr.heap.size) (hgh : g ≠ h)
    (cg : wr.cell? ⟨g, 0, none⟩ = some nm) (ch : wr.cell? ⟨h, 0, none⟩ = some q) (fh : wr.frozen? ⟨h, 0, none⟩ = false) {w1 : World} (e : w1 = ((wr.alloc (.cells #[x, y] T)).setCell ⟨h, 0, none⟩ q').alloc (.cells #[x, y] T)) :
    w1.cell? ⟨wr.heap.size, 0, none⟩ = some x ∧ w1.cell? ⟨wr.heap.size, 1, none⟩ = some y ∧ w1.cell? ⟨g, 0, none⟩ = some nm ∧ w1.cell? ⟨h, 0, none⟩ = some q' ∧ w1.frozen? ⟨h, 0, none⟩ = false ∧ Below B0 w w1 ∧ w1.heap.size = wr.heap.size + 2 := by
  subst e
  obtain ⟨n1, n2⟩ := alloc_two wr x y T
  have s1 : (wr.alloc (.cells #[x, y] T)).heap.size = wr.heap.size + 1 := World.size_alloc _ _
  have s2 : ((wr.alloc (.cells #[x, y] T)).setCell ⟨h, 0, none⟩ q').heap.size = wr.heap.size + 1 := by
    have hs := (Below.refl 0 (wr.alloc (.cells #[x, y] T))).setCell (p := ⟨h, 0, none⟩) (Nat.zero_le _) q'
    simp [s1]
  have ch1 : (wr.alloc (.cells #[x, y] T)).cell? ⟨h, 0, none⟩ = some q := by rw [World.cell?_alloc_past _ _ _ hh]; exact ch
  have fh1 : (wr.alloc (.cells #[x, y] T)).frozen? ⟨h, 0, none⟩ = false := by
    rw [World.frozen?_of_block (w := wr) (Below.heap_alloc wr _ h hh)]; exact fh
  have old : ∀ k o, k < wr.heap.size + 1 → k ≠ h → (((wr.alloc (.cells #[x, y] T)).setCell ⟨h, 0, none⟩ q').alloc (.cells #[x, y] T)).cell? ⟨k, o, none⟩ = (wr.alloc (.cells #[x, y] T)).cell? ⟨k, o, none⟩ := fun k o hk hne => by
    rw [World.cell?_alloc_past _ _ _ (by rw [s2]; exact hk)]
    exact World.cell?_of_block (Below.heap_setCell _ _ _ k hne)
  refine ⟨(old _ 0 (by omega) (by omega)).trans n1, (old _ 1 (by omega) (by omega)).trans n2, (old g 0 (by omega) hgh).trans (by rw [World.cell?_alloc_past _ _ _ hg]; exact cg), ?_, ?_, ((hb.alloc hB _).setCell (p := ⟨h, 0, none⟩) hh0 q').alloc (by rw [s2]; omega) _, by rw [World.size_alloc, s2]⟩
  · rw [World.cell?_alloc_past _ _ _ (by rw [s2]; show h < _; omega)]
    exact World.cell?_setCell_same _ _ _ ch1
  · rw [World.frozen?_of_block (w := ((wr.alloc (.cells #[x, y] T)).setCell ⟨h, 0, none⟩ q')) (Below.heap_alloc _ _ h (by rw [s2]; omega)), World.frozen?_setCell]
    exact fh1
theorem cl_own {w wr w1 : World} {B n h : Nat} {T T' : TypeId} {sz : Nat} {v x y q' : Value} {xs : List Value} (ho : wr.ownsRow B T sz v n xs) (hh : h < B) (e : w1 = ((wr.alloc (.cells #[x, y] T')).setCell ⟨h, 0, none⟩ q').alloc (.cells #[x, y] T')) : w1.ownsRow B T sz v n xs := by
  subst e
  exact row_below (ownsRow_setCell_below (row_below ho ((Below.refl _ _).alloc (Nat.le_refl _) _)) (a := ⟨h, 0, none⟩) hh q') ((Below.refl _ _).alloc (Nat.le_refl _) _)
end Go.Proofs.YtobhdfkhfmpdlaaDoor.Flds
