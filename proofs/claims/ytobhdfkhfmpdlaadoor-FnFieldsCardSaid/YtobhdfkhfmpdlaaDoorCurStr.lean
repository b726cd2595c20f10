/-
  CONTRACT of the model's draw of a text out of a list (l1Str): it answers one of the list's texts, writes into the cursor alone, and leaves it a cursor over the same bytes.
-/
import Derived.Test.YtobhdfkhfmpdlaaDoorCurKit
import Derived.Test.YtobhdfkhfmpdlaaDoorStrs
namespace Go.Proofs.YtobhdfkhfmpdlaaDoor.Cur
open Go Go.RowKit
set_option linter.unusedVariables false
set_option maxRecDepth 1000000

/-- How a draw of a text ends. -/
def DrawnS (P : List UInt8 → Prop) (c : Nat) (bv : Value) (w : World) (e : Ending) (w' : World) : Prop :=
  ∃ x : List UInt8, P x ∧ e = .returned (.string ⟨x.toArray⟩) ∧ CurAt w' c bv ∧ w.grownBy w' (some c)

theorem str_any (c B : Nat) (bv : Value) (b : Nat) (cap : Nat) (xs : List (List UInt8)) (w : World) (hcur : CurAt w c bv) (hby : Bytes w B bv) (hB : B ≤ c)
    (hb : b ≠ c) (hc : Strs.At w b 0 xs) (h1 : 1 ≤ xs.length) (hl : xs.length ≤ 1000000) :
    Calls Tryd.prog 41 #[.pointer (some ⟨c, 0, none⟩), .slice (some ⟨b, 0, none⟩) xs.length cap] w (DrawnS (· ∈ xs) c bv w) := by
  have HF := Lib.hid hc
  clear hc
  go_enter Tryd.func41, Tryd.ntmps41
  go_wp2_with (fail)
  go_at_call 66
  refine (below_any c B bv _ _ hcur hby hB (by omega)).mono ?_
  rintro e w1 ⟨x, hx, rfl, hc1, hg1⟩
  obtain ⟨j, rfl, hj⟩ : ∃ j : Nat, x = (j : Int) ∧ j < xs.length := ⟨x.toNat, by have := hx.1; omega, by have := hx.1; have := hx.2; omega⟩
  have hcell : w1.cell? ⟨b, j, none⟩ = some (Strs.sv (xs.getD j [])) := hg1.cell (by have := HF.out j hj; rwa [Nat.zero_add] at this) (by simp; omega)
  have HM : Hid (xs.getD j [] ∈ xs) := Lib.hid (by rw [show xs.getD j [] = xs[j] by simp [List.getD, hj]]; exact List.getElem_mem _)
  generalize xs.getD j [] = y at hcell HM
  unfold Strs.sv at hcell
  clear hx
  go_wp2
  go_ret
  exact ⟨_, HM.out, rfl, hc1, hg1⟩
theorem lits_str (w : World) (xs : List (List UInt8)) (T : TypeId) : Strs.At (w.alloc (.cells ((Strs.svs xs).toArray) T)) w.heap.size 0 xs := by
  intro j hj
  rw [Nat.zero_add, World.cell?_alloc_new]
  have := Strs.svs_at hj
  simpa using this
/-- l1Str over a list that was just written out. -/
theorem str_lits (c B : Nat) (bv : Value) (xs : List (List UInt8)) (n : Nat) (hn : n = xs.length) (w : World) (hcur : CurAt w c bv) (hby : Bytes w B bv) (hB : B ≤ c) (h1 : 1 ≤ xs.length) (hl : xs.length ≤ 1000000) (T : TypeId) :
    Calls Tryd.prog 41 #[.pointer (some ⟨c, 0, none⟩), .slice (some ⟨w.heap.size, 0, none⟩) n n] (w.alloc (.cells ((Strs.svs xs).toArray) T))
      (DrawnS (· ∈ xs) c bv w) := by
  subst hn
  refine (str_any c B bv w.heap.size xs.length xs _ (cur_alloc hcur _) (bytes_alloc hby _) hB (by have := cur_lt hcur; omega) (lits_str w xs T) h1 hl).mono ?_
  rintro e w1 ⟨x, hx, rfl, hc1, hg1⟩
  exact ⟨_, hx, rfl, hc1, gb_trans (World.grownBy_alloc _ _ _) hg1⟩
theorem drawnS_mono {P Q : List UInt8 → Prop} {c : Nat} {bv : Value} {w : World} {e : Ending} {w' : World} (h : DrawnS P c bv w e w') (hpq : ∀ x, P x → Q x) : DrawnS Q c bv w e w' := by
  obtain ⟨x, hx, h⟩ := h; exact ⟨x, hpq x hx, h⟩
end Go.Proofs.YtobhdfkhfmpdlaaDoor.Cur
