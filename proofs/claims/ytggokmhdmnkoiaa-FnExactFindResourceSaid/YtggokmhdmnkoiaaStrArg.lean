/-
  CONTRACTS of the laws' helpers for slices of texts: an argument of that type, opened; its size (szStringS); a copy (toStringS). Nothing that was there before is changed.
-/
import Derived.Test.YtggokmhdmnkoiaaStrTot
import Derived.LoopTactic
import Derived.SliceStrings
namespace Go.Proofs.Ytggokmhdmnkoiaa.Strs
open Go Go.RowKit
set_option linter.unusedVariables false
set_option maxRecDepth 1000000
set_option maxRecDepth 1000000

section
variable {H : Type} {enc : TypeId × Value → H}
/-- An argument of type []string, opened. -/
theorem open_arg {W : World} {base : Nat} {v : Value} {d : DataW H} {p : List MemPlace}
    (hok : Value.okWide Try.prog W .any base 66 v) (h : DataW.Trod enc Try.prog W 0 (fun _ => true) true 66 v d p) :
    ∃ a len cap xs, v = .slice a len cap ∧ len ≤ maxLen ∧ xs.length = len ∧ Holds W W.heap.size v xs ∧ (∀ x ∈ xs, x.length ≤ maxLen) := by
  obtain ⟨a0, len, cap, rfl⟩ := WideShapes.okWide_slice Try.underlying66 hok
  obtain ⟨fuel, hf⟩ := h
  have c3 : Try.prog.cellsOf 9 = 1 := by kernel_rfl
  rcases Go.ChangeShapes.open_strings Try.underlying66 Try.underlying9 c3 hf with ⟨hcs, hx⟩ | ⟨a, len', cap', ss, hcs, _, hl, hm, hz, hx, hcell, hwz⟩
  · simp [Value.cells] at hcs
    obtain ⟨rfl, rfl, rfl⟩ := hcs
    exact ⟨_, _, _, [], rfl, Nat.zero_le _, rfl, Or.inl ⟨rfl, _, _, rfl⟩, fun n hn => by cases hn⟩
  · simp [Value.cells] at hcs
    obtain ⟨rfl, rfl, rfl⟩ := hcs
    simp only [if_true] at hz
    have hlt : ((ss.take len).map (·.data.toList)).length = len := by rw [List.length_map, List.length_take]; omega
    refine ⟨_, _, _, (ss.take len).map (·.data.toList), rfl, by omega, hlt, ?_, ?_⟩
    · by_cases hl0 : len = 0
      · subst hl0; exact Or.inl ⟨by simp, _, _, rfl⟩
      · obtain ⟨b, off, spot⟩ := a
        have hspot : spot = none := by simpa [Addr.add] using World.cell?_spot (hcell 0 (by omega))
        subst hspot
        have hc : At W b off ((ss.take len).map (·.data.toList)) := fun j hj => by
          rw [hlt] at hj
          rw [← WideShapes.add_plain, hcell j (by omega)]
          simp [List.getD, show j < ss.length by omega, show j < len by omega, List.getElem?_take, sv]
        exact Or.inr ⟨by omega, b, off, cap, by rw [hlt], at_lt hc (by omega), by omega, hc⟩
    · intro x hx
      obtain ⟨s, hs, rfl⟩ := List.mem_map.1 hx
      have := hwz s (List.mem_of_mem_take hs)
      rw [Array.length_toList]; exact this
end

/-- What szStringS answers at 2 to the 20: not below 0 just where the size is at most that. -/
def Sized (xs : List (List UInt8)) (w : World) (e : Ending) (w' : World) : Prop := ∃ z : Int, e = .returned (.int .i64 z) ∧ (z < 0 ∨ (0 ≤ z ∧ total xs ≤ 1048576)) ∧ w = w'

theorem size_nil (a : Option Addr) (cap : Nat) (w : World) :
    Calls Try.prog 65 #[.slice a 0 cap, .int .i64 1048576] w (Sized [] w) := by
  go_enter Try.func65, Try.ntmps65
  go_wp2
  go_loop [1, 5] (fun l i => i = .int .i64 0 ∧ l = .int .i64 1048576) (fun _ i => 0)
  case atStart => exact ⟨rfl, rfl⟩
  case round =>
    obtain ⟨rfl, rfl⟩ := hrel
    go_wp2
    go_ret
    exact ⟨_, rfl, Or.inr ⟨by omega, by simp [total_nil]⟩, rfl⟩

set_option maxHeartbeats 1000000 in
theorem size_some (b off cap : Nat) (xs : List (List UInt8)) (w : World) (hc : At w b off xs) (h0 : 0 < xs.length) (hl : xs.length ≤ maxLen) (hx : ∀ x ∈ xs, x.length ≤ maxLen) :
    Calls Try.prog 65 #[.slice (some ⟨b, off, none⟩) xs.length cap, .int .i64 1048576] w (Sized xs w) := by
  have HC := Lib.hid hc
  have HX := Lib.hid hx
  unfold maxLen at hl
  clear hc hx
  by_cases hn : 1048576 - (xs.length : Int) < 0
  · go_enter Try.func65, Try.ntmps65
    go_wp2
    go_ret
    exact ⟨_, rfl, Or.inl (by omega), rfl⟩
  · go_enter Try.func65, Try.ntmps65
    go_wp2
    go_loop [1, 5] (fun l i => ∃ k : Nat, k ≤ xs.length ∧ i = .int .i64 (k : Int) ∧ 0 ≤ 1048576 - (xs.length : Int) - (pre xs k : Int) ∧ l = .int .i64 (1048576 - (xs.length : Int) - (pre xs k : Int))) (fun _ i => xs.length - (intOf i).toNat)
    case atStart => exact ⟨0, Nat.zero_le _, rfl, by rw [pre_zero]; omega, by rw [pre_zero]; simp⟩
    case round =>
      obtain ⟨k, hk, rfl, hp, rfl⟩ := hrel
      by_cases hlt : k < xs.length
      · have hcell := HC.out k hlt
        have hxl : (xs.getD k []).length ≤ 9223372036854775807 := by
          have hm : xs.getD k [] ∈ xs := by
            rw [show xs.getD k [] = xs[k] by simp [List.getD, hlt]]; exact List.getElem_mem _
          have := HX.out _ hm; unfold maxLen at this; omega
        have HP := Lib.hid (pre_more hlt)
        generalize xs.getD k [] = x at *
        have hsz : (⟨x.toArray⟩ : ByteArray).size = x.length := by simp [ByteArray.size]
        unfold sv at hcell
        by_cases hneg : 1048576 - (xs.length : Int) - (pre xs k : Int) - (x.length : Int) < 0
        · go_wp2
          go_ret
          exact ⟨_, rfl, Or.inl (by omega), rfl⟩
        · go_wp2
          go_round
          case rel => exact ⟨k + 1, by omega, by go_num, by rw [HP.out]; omega, by rw [HP.out]; congr 1; omega⟩
          case measure => simp [intOf]; omega
      · have HT := Lib.hid (pre_all (xs := xs) (k := k) (by omega))
        go_wp2
        go_ret
        exact ⟨_, rfl, Or.inr ⟨hp, by rw [HT.out]; omega⟩, rfl⟩

theorem size_any (v : Value) (B : Nat) (xs : List (List UInt8)) (w : World) (h : Holds w B v xs) (hl : xs.length ≤ maxLen) (hx : ∀ x ∈ xs, x.length ≤ maxLen) :
    Calls Try.prog 65 #[v, .int .i64 1048576] w (Sized xs w) := by
  rcases h with ⟨rfl, a, cap, rfl⟩ | ⟨h0, b, off, cap, rfl, _, _, hc⟩
  · exact size_nil a cap w
  · exact size_some b off cap xs w hc h0 hl hx

/-! a copy -/
def part (xs : List (List UInt8)) (k : Nat) : List (List UInt8) := xs.take k ++ List.replicate (xs.length - k) []
theorem part_len (xs : List (List UInt8)) {k : Nat} (h : k ≤ xs.length) : (part xs k).length = xs.length := by
  unfold part; rw [List.length_append, List.length_take, List.length_replicate]; omega
theorem part_zero (xs : List (List UInt8)) : part xs 0 = List.replicate xs.length [] := by unfold part; simp
theorem part_all (xs : List (List UInt8)) : part xs xs.length = xs := by unfold part; simp
theorem part_more {xs : List (List UInt8)} {k : Nat} (h : k < xs.length) : (part xs k).set k (xs.getD k []) = part xs (k + 1) := by
  unfold part
  rw [List.set_append_right _ _ (by rw [List.length_take]; omega), List.length_take, show k - min k xs.length = 0 by omega,
    show xs.length - k = (xs.length - (k + 1)) + 1 by omega, List.replicate_succ, List.set_cons_zero, List.take_succ_eq_append_getElem h, List.append_assoc]
  simp [List.getD, h]
theorem made_part (xs : List (List UInt8)) : (madeCells (Value.string ⟨#[]⟩).cells (xs.length * 1)).toList = svs (part xs 0) := by
  rw [show (Value.string ⟨#[]⟩).cells = #[.string ⟨#[]⟩] from rfl, Nat.mul_one, toList_madeCells_one, part_zero]; unfold svs; rw [List.map_replicate]; rfl

def Copied (xs : List (List UInt8)) (w : World) (e : Ending) (w' : World) : Prop := ∃ v, e = .returned v ∧ Own w' w.heap.size v xs ∧ Below w.heap.size w w'

theorem copy_nil (a : Option Addr) (cap : Nat) (w : World) :
    Calls Try.prog 67 #[.slice a 0 cap] w (Copied [] w) := by
  obtain ⟨i0, hi, hz0, hz1, hz2⟩ := info_parts info_str
  go_enter Try.func67, Try.ntmps67
  go_wp2_with (refine wpList_make_full _ (by rfl) (.tmp 6) (.tmp 6) 66 (by rfl) w.heap.size 9 i0 (.string ⟨#[]⟩) 1 Try.underlying66 hi hz0 hz1 .i64 .i64 _ _ 0 (by rfl) (by rfl) rfl rfl (by rw [hz2]; omega) (by decide) (Nat.le_refl _) ?_; intro w1 hown hgrow)
  have e := made_part []
  rw [show ([] : List (List UInt8)).length * 1 = 0 * 1 from rfl, show svs (part [] 0) = svs [] from rfl] at e
  rw [e] at hown
  clear e
  go_loop [4] (fun i => i = .int .i64 0) (fun i => 0)
  case atStart => rfl
  case round =>
    obtain rfl := hrel
    go_wp2
    go_ret
    exact ⟨_, rfl, hown, (Below.refl _ _).grown hgrow (Nat.le_refl _) (fun k e => by cases e)⟩

set_option maxHeartbeats 1000000 in
theorem copy_some (b off cap : Nat) (xs : List (List UInt8)) (w : World) (hc : At w b off xs) (h0 : 0 < xs.length) (hl : xs.length ≤ 1000000000000) :
    Calls Try.prog 67 #[.slice (some ⟨b, off, none⟩) xs.length cap] w (Copied xs w) := by
  obtain ⟨i0, hi, hz0, hz1, hz2⟩ := info_parts info_str
  have hbl := at_lt hc h0
  have HC := Lib.hid hc
  clear hc
  go_enter Try.func67, Try.ntmps67
  go_wp2_with (at_make; refine wpList_make_full _ rfl (.tmp 6) (.tmp 6) 66 rfl w.heap.size 9 i0 (.string ⟨#[]⟩) 1 Try.underlying66 hi hz0 hz1 .i64 .i64 _ _ xs.length rfl rfl rfl rfl (by rw [hz2]; omega) (by unfold maxLen; omega) (Nat.le_refl _) ?_; intro w1 hown hgrow)
  rw [made_part] at hown
  have hb1 : Below w.heap.size w w1 := (Below.refl _ _).grown hgrow (Nat.le_refl _) (fun k e => by cases e)
  clear hgrow hi hz0 hz1 hz2
  have HO := Lib.hid hown
  clear hown
  go_loopw [4] (fun i wr => ∃ k : Nat, k ≤ xs.length ∧ i = .int .i64 k ∧
      wr.ownsRow w.heap.size 9 1 (.slice (some ⟨w.heap.size, 0, none⟩) xs.length xs.length) xs.length (svs (part xs k)) ∧ Below w.heap.size w wr) (fun i _ => xs.length - (intOf i).toNat)
  case atStart => exact ⟨0, Nat.zero_le _, rfl, HO.out, hb1⟩
  case round =>
    obtain ⟨k, hk, rfl, hown, hb⟩ := hrel
    clear HO hb1
    by_cases hlt : k < xs.length
    · have hsrc : wr.cell? ⟨b, off + k, none⟩ = some (sv (xs.getD k [])) := at_below HC.out hb hbl k hlt
      have hdst := own_cell hown hlt
      have hfz := hown.frozenAt k
      have hst := hown.stored k (sv (xs.getD k []))
      have hset : (svs (part xs k)).set k (sv (xs.getD k [])) = svs (part xs (k + 1)) := by rw [← part_more hlt]; unfold svs; rw [List.map_set]
      rw [hset] at hst
      have hg := Lib.hid (hb.grown hst.2 hb.size (fun k e => by cases e; exact Nat.le_refl _))
      have HS := Lib.hid hst.1
      clear hst hown hset
      unfold sv at hsrc hdst HS hg
      obtain ⟨z, hz⟩ : ∃ z, z = (⟨(xs.getD k []).toArray⟩ : ByteArray) := ⟨_, rfl⟩
      obtain ⟨y, hy⟩ : ∃ y, y = (⟨((part xs k).getD k []).toArray⟩ : ByteArray) := ⟨_, rfl⟩
      rw [← hz] at hsrc hg HS
      rw [← hy] at hdst
      clear hz hy
      go_wp2
      go_roundw
      case rel => exact ⟨k + 1, by omega, by go_num, HS.out, hg.out⟩
      case measure => simp [intOf]; omega
    · obtain rfl : k = xs.length := by omega
      rw [part_all] at hown
      go_wp2
      go_ret
      exact ⟨_, rfl, hown, hb⟩

theorem copy (v : Value) (B : Nat) (xs : List (List UInt8)) (w : World) (h : Holds w B v xs) (hl : xs.length ≤ 1000000000000) :
    Calls Try.prog 67 #[v] w (Copied xs w) := by
  rcases h with ⟨rfl, a, cap, rfl⟩ | ⟨h0, b, off, cap, rfl, _, _, hc⟩
  · exact copy_nil a cap w
  · exact copy_some b off cap xs w hc h0 hl
end Go.Proofs.Ytggokmhdmnkoiaa.Strs
