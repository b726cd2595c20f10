/-
  CONTRACTS AND PLAIN FACTS, several texts in one; each says in its own words what it proves.
-/
import Derived.Test.YtfkejnbkglaokaaGreatDoorPartD
import Derived.RegionTactic
import Derived.Deep.RegionWith
import Derived.Test.YtfkejnbkglaokaaGreatDoorPartB
import Derived.LoopTactic
set_option linter.unusedSimpArgs false
set_option linter.unusedVariables false

/-
  PLAIN FACTS on a list of fields in which one value is set; and the program's closure of SetField with its filter.
-/
namespace Go.Proofs.YtfkejnbkglaokaaGreatDoor.Flds
open Go Go.RowKit
set_option linter.unusedVariables false
set_option maxRecDepth 1000000

/-- Of the fields with the name only the first is left (none, if one has been seen). -/
def setl (n : List UInt8) : Bool → List Fld → List Fld
  | _, [] => []
  | s, f :: r => if f.1 = n then (if s = true then setl n s r else f :: setl n true r) else f :: setl n s r
def sn (n : List UInt8) (l : List Fld) : Bool := l.any (fun f => f.1 == n)
theorem setl_snoc (n : List UInt8) (s : Bool) (l : List Fld) (f : Fld) : setl n s (l ++ [f]) = setl n s l ++ (if f.1 = n ∧ (s || sn n l) = true then [] else [f]) := by
  induction l generalizing s with
  | nil => cases s <;> by_cases h : f.1 = n <;> simp [setl, sn, h]
  | cons a r ih =>
    rw [List.cons_append]
    have h1 := ih true
    have h2 := ih s
    by_cases ha : a.1 = n
    · have hq : (a.1 == n) = true := by simpa using ha
      cases s
      · simp [setl, ha, h1, sn]
      · simp [setl, ha, h1, sn]
    · have hq : (a.1 == n) = false := by simpa using ha
      simp only [setl, ha, if_false]
      rw [h2, show sn n (a :: r) = sn n r by unfold sn; rw [List.any_cons, hq]; rfl]
      rfl
theorem setl_len (n : List UInt8) (s : Bool) (l : List Fld) : (setl n s l).length ≤ l.length := by
  induction l generalizing s with
  | nil => simp [setl]
  | cons a r ih =>
    have h1 := ih s
    have h2 := ih true
    by_cases ha : a.1 = n
    · cases s
      · simp only [setl, ha, if_true]; simp; omega
      · simp only [setl, ha, if_true]; simp; omega
    · simp only [setl, ha, if_false]; simp; omega
theorem sn_more {n : List UInt8} {l : List Fld} {k : Nat} (h : k < l.length) : sn n (l.take (k + 1)) = (sn n (l.take k) || ((l.getD k nofld).1 == n)) := by
  unfold sn
  rw [List.take_succ_eq_append_getElem h, List.any_append, show l.getD k nofld = l[k] by simp [List.getD, h]]; simp
theorem setl_more {n : List UInt8} {l : List Fld} {k : Nat} (h : k < l.length) : setl n false (l.take (k + 1)) = setl n false (l.take k) ++ (if (l.getD k nofld).1 = n ∧ sn n (l.take k) = true then [] else [l.getD k nofld]) := by
  rw [List.take_succ_eq_append_getElem h, setl_snoc, show l.getD k nofld = l[k] by simp [List.getD, h]]
  simp

/-- The worlds that come behind such a call, one field's copy laid ahead of it. -/
theorem cl_facts {B0 : Nat} {w wr : World} {x y nm q q' : Value} {g h : Nat} {T : TypeId} (hb : Below B0 w wr) (hB : B0 ≤ wr.heap.size) (hh0 : B0 ≤ h) (hh : h < wr.heap.size) (hg : g < wr.heap.size) (hgh : g ≠ h)
    (cg : wr.cell? ⟨g, 0, none⟩ = some nm) (ch : wr.cell? ⟨h, 0, none⟩ = some q) (fh : wr.frozen? ⟨h, 0, none⟩ = false) {w1 : World} (e : w1 = ((wr.alloc (.cells #[x, y] T)).setCell ⟨h, 0, none⟩ q').alloc (.cells #[x, y] T)) :
    w1.cell? ⟨wr.heap.size, 0, none⟩ = some x ∧ w1.cell? ⟨wr.heap.size, 1, none⟩ = some y ∧ w1.cell? ⟨g, 0, none⟩ = some nm ∧ w1.cell? ⟨h, 0, none⟩ = some q' ∧ w1.frozen? ⟨h, 0, none⟩ = false ∧ Below B0 w w1 ∧ w1.heap.size = wr.heap.size + 2 := by
  subst e
  obtain ⟨n1, n2⟩ := alloc_two wr x y T
  have s1 : (wr.alloc (.cells #[x, y] T)).heap.size = wr.heap.size + 1 := World.size_alloc _ _
  have s2 : ((wr.alloc (.cells #[x, y] T)).setCell ⟨h, 0, none⟩ q').heap.size = wr.heap.size + 1 := by
    have hs := (Below.refl 0 (wr.alloc (.cells #[x, y] T))).setCell (p := ⟨h, 0, none⟩) (Nat.zero_le _) q'
    simp [s1]
  have ch1 : (wr.alloc (.cells #[x, y] T)).cell? ⟨h, 0, none⟩ = some q := by rw [World.cell?_alloc_past _ _ _ hh]; exact ch
  have fh1 : (wr.alloc (.cells #[x, y] T)).frozen? ⟨h, 0, none⟩ = false := by
    rw [World.frozen?_of_block (w := wr) (Below.heap_alloc wr _ h hh)]; exact fh
  have old : ∀ k o, k < wr.heap.size + 1 → k ≠ h → (((wr.alloc (.cells #[x, y] T)).setCell ⟨h, 0, none⟩ q').alloc (.cells #[x, y] T)).cell? ⟨k, o, none⟩ = (wr.alloc (.cells #[x, y] T)).cell? ⟨k, o, none⟩ := fun k o hk hne => by
    rw [World.cell?_alloc_past _ _ _ (by rw [s2]; exact hk)]
    exact World.cell?_of_block (Below.heap_setCell _ _ _ k hne)
  refine ⟨(old _ 0 (by omega) (by omega)).trans n1, (old _ 1 (by omega) (by omega)).trans n2, (old g 0 (by omega) hgh).trans (by rw [World.cell?_alloc_past _ _ _ hg]; exact cg), ?_, ?_, ((hb.alloc hB _).setCell (p := ⟨h, 0, none⟩) hh0 q').alloc (by rw [s2]; omega) _, by rw [World.size_alloc, s2]⟩
  · rw [World.cell?_alloc_past _ _ _ (by rw [s2]; show h < _; omega)]
    exact World.cell?_setCell_same _ _ _ ch1
  · rw [World.frozen?_of_block (w := ((wr.alloc (.cells #[x, y] T)).setCell ⟨h, 0, none⟩ q')) (Below.heap_alloc _ _ h (by rw [s2]; omega)), World.frozen?_setCell]
    exact fh1
theorem cl_own {w wr w1 : World} {B n h : Nat} {T T' : TypeId} {sz : Nat} {v x y q' : Value} {xs : List Value} (ho : wr.ownsRow B T sz v n xs) (hh : h < B) (e : w1 = ((wr.alloc (.cells #[x, y] T')).setCell ⟨h, 0, none⟩ q').alloc (.cells #[x, y] T')) : w1.ownsRow B T sz v n xs := by
  subst e
  exact row_below (ownsRow_setCell_below (row_below ho ((Below.refl _ _).alloc (Nat.le_refl _) _)) (a := ⟨h, 0, none⟩) hh q') ((Below.refl _ _).alloc (Nat.le_refl _) _)
end Go.Proofs.YtfkejnbkglaokaaGreatDoor.Flds

/-
  CONTRACTS of SetField, the program's: in new memory, the fields with this value as the only one with this name; nothing that was there before is changed.
-/
namespace Go.Proofs.YtfkejnbkglaokaaGreatDoor.Flds
open Go Go.RowKit
set_option linter.unusedVariables false
set_option maxRecDepth 1000000

def FilSet (B0 g h : Nat) (n : List UInt8) (l : List Fld) (w : World) (e : Ending) (w' : World) : Prop :=
  ∃ v, e = .returned v ∧ Own w' w.heap.size v (setl n false l) ∧ w'.cell? ⟨g, 0, none⟩ = some (.string ⟨n.toArray⟩) ∧ w'.cell? ⟨h, 0, none⟩ = some (.bool (sn n l)) ∧ Below B0 w w'

theorem shape_any {w : World} {B : Nat} {v : Value} {l : List Fld} (h : Holds w B v l) : ∃ a cap, v = .slice a l.length cap ∧ (0 < l.length → ∃ b off, a = some ⟨b, off, none⟩ ∧ b < B ∧ At w b off l) := by
  rcases h with ⟨rfl, a, cap, rfl⟩ | ⟨h0, b, off, cap, rfl, hb, _, hc⟩
  · exact ⟨a, cap, rfl, fun h => by simp at h⟩
  · exact ⟨_, cap, rfl, fun _ => ⟨b, off, rfl, hb, hc⟩⟩

theorem r_no {x n : List UInt8} {s : Bool} (h : false = (!(x == n) || !s)) : x = n ∧ s = true := by
  by_cases e : x = n
  · cases s
    · subst e; simp at h
    · exact ⟨e, rfl⟩
  · have hq : (x == n) = false := by simpa using e
    rw [hq] at h; cases h
theorem r_yes {x n : List UInt8} {s : Bool} (h : true = (!(x == n) || !s)) : ¬ (x = n ∧ s = true) := by
  rintro ⟨rfl, rfl⟩
  simp at h
end Go.Proofs.YtfkejnbkglaokaaGreatDoor.Flds

/-
  CONTRACT of the program's SetField: in new memory, the fields with this value as the only one with this name; nothing that was there before is changed.
-/
namespace Go.Proofs.YtfkejnbkglaokaaGreatDoor.Flds
open Go Go.RowKit
set_option linter.unusedVariables false
set_option maxRecDepth 1000000
set_option maxRecDepth 1000000

def pv (n u : List UInt8) (f : Fld) : Fld := if f.1 = n then (f.1, u) else f
def part2 (n u : List UInt8) (L : List Fld) (k : Nat) : List Fld := (L.take k).map (pv n u) ++ L.drop k
def fin (n u : List UInt8) (l : List Fld) : List Fld := (setl n false l).map (pv n u) ++ (if sn n l = true then [] else [(n, u)])
theorem fin_len (n u : List UInt8) (l : List Fld) : (fin n u l).length ≤ l.length + 1 := by
  have := setl_len n false l
  unfold fin; rw [List.length_append, List.length_map]; split <;> simp <;> omega
theorem part2_zero (n u : List UInt8) (L : List Fld) : part2 n u L 0 = L := by unfold part2; simp
theorem part2_all (n u : List UInt8) (L : List Fld) {k : Nat} (h : L.length ≤ k) : part2 n u L k = L.map (pv n u) := by unfold part2; rw [List.take_of_length_le h, List.drop_eq_nil_of_le h, List.append_nil]
theorem part2_len (n u : List UInt8) (L : List Fld) {k : Nat} (h : k ≤ L.length) : (part2 n u L k).length = L.length := by unfold part2; rw [List.length_append, List.length_map, List.length_take, List.length_drop]; omega
theorem part2_at (n u : List UInt8) {L : List Fld} {k : Nat} (h : k < L.length) : (part2 n u L k).getD k nofld = L.getD k nofld := by
  unfold part2
  rw [List.getD_eq_getElem?_getD, List.getD_eq_getElem?_getD, List.getElem?_append_right (by rw [List.length_map, List.length_take]; omega), List.length_map, List.length_take, List.getElem?_drop]
  congr 2; omega
theorem part2_more (n u : List UInt8) {L : List Fld} {k : Nat} (h : k < L.length) : part2 n u L (k + 1) = (part2 n u L k).set k (pv n u (L.getD k nofld)) := by
  unfold part2
  have hl : ((L.take k).map (pv n u)).length = k := by rw [List.length_map, List.length_take]; omega
  rw [List.set_append_right _ _ (by rw [hl]; exact Nat.le_refl _), hl, Nat.sub_self, List.drop_eq_getElem_cons h, List.set_cons_zero, List.take_succ_eq_append_getElem h, List.map_append, List.append_assoc, show L.getD k nofld = L[k] by simp [List.getD, h]]
  rfl
theorem part2_same (n u : List UInt8) {L : List Fld} {k : Nat} (h : k < L.length) (e : (L.getD k nofld).1 ≠ n) : part2 n u L (k + 1) = part2 n u L k := by
  have e' : L.getD k nofld = L[k] := by simp [List.getD, h]
  unfold part2
  rw [List.drop_eq_getElem_cons h, List.take_succ_eq_append_getElem h, List.map_append, List.append_assoc]
  have : pv n u L[k] = L[k] := by unfold pv; rw [if_neg (by rw [← e']; exact e)]
  simp [this]

end Go.Proofs.YtfkejnbkglaokaaGreatDoor.Flds

/-
  CONTRACTS of DropField, the model's and the program's: in new memory, the fields without those with a name; nothing that was there before is changed.
-/
namespace Go.Proofs.YtfkejnbkglaokaaGreatDoor.Flds
open Go Go.RowKit
set_option linter.unusedVariables false
set_option maxRecDepth 1000000

def keepn (n : List UInt8) (l : List Fld) : List Fld := l.filter (fun f => f.1 != n)
theorem keepn_more {n : List UInt8} {l : List Fld} {k : Nat} (h : k < l.length) : keepn n (l.take (k + 1)) = if (l.getD k nofld).1 = n then keepn n (l.take k) else keepn n (l.take k) ++ [l.getD k nofld] := by
  unfold keepn
  rw [filt_more h]
  by_cases e : (l.getD k nofld).1 = n
  · rw [if_pos e, if_neg (by simpa using e)]
  · rw [if_neg e, if_pos (by simpa using e)]
theorem keepn_le (n : List UInt8) (l : List Fld) : (keepn n l).length ≤ l.length := List.length_filter_le _ _

/-! The program's. -/
end Go.Proofs.YtfkejnbkglaokaaGreatDoor.Flds

/-
  CONTRACT of the model's JoinList: at every slice of texts that are not too long together it returns the texts with a comma and a space between them; nothing that was there before is changed.
-/
namespace Go.Proofs.YtfkejnbkglaokaaGreatDoor.Tx
open Go Go.RowKit Strs
set_option linter.unusedVariables false
set_option maxRecDepth 1000000

theorem spec_join_nil (a : Option Addr) (cap : Nat) (w : World) :
    Calls Tryz.prog 71 #[.slice a 0 cap] w (JoinEnd [] w) := by
  go_enter Tryz.func71, Tryz.ntmps71
  go_wp2
  go_loop [3, 4] (fun s i => i = .int .i64 0 ∧ s = .string ⟨#[]⟩) (fun _ i => 0)
  case atStart => exact ⟨rfl, rfl⟩
  case round =>
    obtain ⟨rfl, rfl⟩ := hrel
    go_wp2
    go_ret
    exact ⟨rfl, Below.refl _ _⟩

set_option maxHeartbeats 1000000 in
theorem spec_join_some (b off cap : Nat) (xs : List (List UInt8)) (w : World) (hc : At w b off xs) (h0 : 0 < xs.length) (ht : total xs ≤ 67108864) :
    Calls Tryz.prog 71 #[.slice (some ⟨b, off, none⟩) xs.length cap] w (JoinEnd xs w) := by
  have hl : xs.length ≤ 67108864 := by unfold total at ht; omega
  have HC := Lib.hid hc
  have HT := Lib.hid ht
  clear hc ht
  go_enter Tryz.func71, Tryz.ntmps71
  go_wp2
  go_loop [3, 4] (fun s i => ∃ k : Nat, k ≤ xs.length ∧ i = .int .i64 (k : Int) ∧ s = .string ⟨(join (xs.take k)).toArray⟩) (fun _ i => xs.length - (intOf i).toNat)
  case atStart => exact ⟨0, Nat.zero_le _, rfl, rfl⟩
  case round =>
    obtain ⟨k, hk, rfl, rfl⟩ := hrel
    by_cases hlt : k < xs.length
    · have hcell := HC.out k hlt
      have HJ := Lib.hid (join_len xs k hk)
      have HP := Lib.hid (pre_more hlt)
      have HPL := Lib.hid (pre_le xs (k + 1))
      unfold sv at hcell
      by_cases hz : 0 < k
      · have hzi : 0 < (k : Int) := by omega
        have HM := Lib.hid (join_more hlt hz)
        generalize xs.getD k [] = x at *
        generalize join (xs.take k) = y at *
        have hadd1 := addtwo y [44, 32] (by have := HJ.out; have := HP.out; have := HPL.out; have := HT.out; unfold total at this; simp only [List.length_append, List.length_cons, List.length_nil]; omega)
        have hadd2 := addtwo (y ++ [44, 32]) x (by have := HJ.out; have := HP.out; have := HPL.out; have := HT.out; unfold total at this; simp only [List.length_append, List.length_cons, List.length_nil]; omega)
        go_wp2
        go_round
        case rel => exact ⟨k + 1, by omega, by go_num, by rw [HM.out]; simp⟩
        case measure => simp [intOf]; omega
      · have hzi : ¬ 0 < (k : Int) := by omega
        have h00 : join (xs.take k) = [] := by rw [show k = 0 by omega]; rfl
        have HM : Hid (join (xs.take (k + 1)) = xs.getD k []) := Lib.hid (by rw [show k = 0 by omega]; exact join_first h0)
        rw [h00]
        clear h00 HJ
        generalize xs.getD k [] = x at *
        have hadd2 : ∀ W, (Op.stringOp .add ⟨#[]⟩ ⟨x.toArray⟩).run Tryz.prog W = .ok (.string ⟨x.toArray⟩) W := addtwo [] x (by have := HP.out; have := HPL.out; have := HT.out; unfold total at this; simp only [List.length_append, List.length_cons, List.length_nil]; omega)
        go_wp2
        go_round
        case rel => exact ⟨k + 1, by omega, by go_num, by rw [HM.out]⟩
        case measure => simp [intOf]; omega
    · have HE : Hid (join (xs.take k) = join xs) := Lib.hid (by rw [List.take_of_length_le (by omega)])
      go_wp2
      go_ret
      exact ⟨ret_join HE.out, Below.refl _ _⟩

theorem spec_join (v : Value) (B : Nat) (xs : List (List UInt8)) (w : World) (h : Holds w B v xs) (ht : total xs ≤ 67108864) :
    Calls Tryz.prog 71 #[v] w (JoinEnd xs w) := by
  rcases h with ⟨rfl, a, cap, rfl⟩ | ⟨h0, b, off, cap, rfl, _, _, hc⟩
  · exact spec_join_nil a cap w
  · exact spec_join_some b off cap xs w hc h0 ht

end Go.Proofs.YtfkejnbkglaokaaGreatDoor.Tx
