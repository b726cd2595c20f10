/-
  CONTRACTS AND PLAIN FACTS, several texts in one; each says in its own words what it proves.
-/
import Derived.Test.YtndbhjgfaghelaaGreatDoorPartO
import Derived.Test.YtndbhjgfaghelaaGreatDoorPartH
import Derived.LoopTactic
import Derived.SliceStrings
import Derived.Test.YtndbhjgfaghelaaGreatDoorPartF
import Derived.Outline
import Derived.RegionTactic
import Derived.Deep.RegionWith
import Derived.Test.YtndbhjgfaghelaaGreatDoorPartB
set_option linter.unusedSimpArgs false
set_option linter.unusedVariables false

/-
  A SLICE OF VERSIONS that stands in one cell of a struct, opened.
-/
namespace Go.Proofs.YtndbhjgfaghelaaGreatDoor.Ver
open Go Go.RowKit
set_option linter.unusedVariables false
set_option maxRecDepth 1000000

set_option maxRecDepth 1000000 in
/-- A slice of versions that stands in one cell, opened. -/
theorem open_cells {H : Type} {enc : TypeId × Value → H} {W : World} {fuel : Nat} {cs0 : List Value} {x : DataW H × List MemPlace}
    (hf : DataW.trod enc Tryz.prog W 0 (fun _ => true) true fuel 144 cs0 = some x) :
    ∃ (v : Value) (l : List T), cs0 = [v] ∧ Holds W W.heap.size v l ∧ l.length ≤ maxLen ∧ (∀ f ∈ l, Ok f) := by
  have celi : Tryz.prog.cellsOf 3 = 1 := by kernel_rfl
  have cels : Tryz.prog.cellsOf 9 = 1 := by kernel_rfl
  have celb : Tryz.prog.cellsOf 4 = 1 := by kernel_rfl
  have ce : Tryz.prog.cellsOf 215 = 3 := by kernel_rfl
  rcases Deep.open_slice Tryz.underlying144 hf with ⟨hcs, hx⟩ | ⟨a, len', cap', m, n, D, Pl, hcs, _, hl, hm, hmm, hx, hall⟩
  · exact ⟨_, [], hcs, Or.inl ⟨rfl, _, _, rfl⟩, Nat.zero_le _, fun f hf => by cases hf⟩
  · simp only [if_true] at hmm
    subst hmm
    have each : ∀ i, i < m → ∃ f : T, (∀ k u, (cs f)[k]? = some u → W.cell? (a.add (i * 3 + k)) = some u) ∧ Ok f := fun i hi => by
      obtain ⟨cs', h1, h2⟩ := hall i hi
      rw [ce] at h1
      obtain ⟨_, hlen, hcell⟩ := World.cells?_some h1
      obtain ⟨xs, k, hk, hxy, _, hxl, hf⟩ := DataW.trod_struct Tryz.underlying215 h2
      match xs, hxl, cs', hlen with
      | [y0, y1, y2], _, [v0, v1, v2], _ =>
      have g0 := hf 0 _ rfl
      have g1 := hf 1 _ rfl
      have g2 := hf 2 _ rfl
      simp [celi, cels, celb] at g0 g1 g2
      have e0 := hcell 0 (by omega)
      have e1 := hcell 1 (by omega)
      have e2 := hcell 2 (by omega)
      rw [Deep.add_add] at e0 e1 e2
      obtain ⟨s0, z0, _, o0⟩ := DataW.trod_int Tryz.underlying3 g0
      obtain rfl : v0 = _ := by simpa using z0
      obtain ⟨s1, z1, _, o1⟩ := DataW.trod_string Tryz.underlying9 g1
      obtain rfl : v1 = _ := by simpa using z1
      obtain ⟨s2, z2, _⟩ := DataW.trod_bool Tryz.underlying4 g2
      obtain rfl : v2 = _ := by simpa using z2
      refine ⟨(s0, s1.data.toList, s2), fun k u hu => ?_, ⟨(wf_range o0), (by show s1.data.toList.length ≤ maxLen; rw [Array.length_toList]; exact o1)⟩⟩
      match k, hu with
      | 0, hu => exact e0.trans hu
      | 1, hu => exact e1.trans hu
      | 2, hu => exact e2.trans hu
      | k + 3, hu => simp [cs] at hu
    obtain ⟨G, hG⟩ := Deep.choose_lt (α := T) each
    have hln : ((List.range len').map G).length = len' := by simp
    have hget : ∀ j, j < len' → ((List.range len').map G).getD j nov = G j := fun j hj => by simp [List.getD, hj]
    refine ⟨_, (List.range len').map G, hcs, ?_, by rw [hln]; omega, ?_⟩
    · by_cases hl0 : len' = 0
      · subst hl0; exact Or.inl ⟨by simp, _, _, rfl⟩
      · obtain ⟨b, off, spot⟩ := a
        have hspot : spot = none := by simpa [Addr.add] using World.cell?_spot ((hG 0 (by omega)).1 0 _ rfl)
        subst hspot
        have hc : At W b off ((List.range len').map G) := fun j hj i u hu => by
          rw [hln] at hj
          rw [hget j hj] at hu
          rw [Nat.add_assoc, ← WideShapes.add_plain]
          exact (hG j (by omega)).1 i u hu
        exact Or.inr ⟨by omega, b, off, _, by rw [hln], at_lt hc (by omega), by omega, hc⟩
    · intro f hf
      obtain ⟨i, hi, rfl⟩ := List.mem_map.1 hf
      have hi' := List.mem_range.1 hi
      exact (hG i (by omega)).2
end Go.Proofs.YtndbhjgfaghelaaGreatDoor.Ver

/-
  CONTRACTS of the laws' helpers for slices of texts: an argument of that type, opened; its size (szStringS); a copy (toStringS). Nothing that was there before is changed.
-/
namespace Go.Proofs.YtndbhjgfaghelaaGreatDoor.Strs
open Go Go.RowKit
set_option linter.unusedVariables false
set_option maxRecDepth 1000000
set_option maxRecDepth 1000000

section
variable {H : Type} {enc : TypeId × Value → H}
/-- An argument of type []string, opened. -/
theorem open_arg {W : World} {base : Nat} {v : Value} {d : DataW H} {p : List MemPlace}
    (hok : Value.okWide Tryz.prog W .any base 72 v) (h : DataW.Trod enc Tryz.prog W 0 (fun _ => true) true 72 v d p) :
    ∃ a len cap xs, v = .slice a len cap ∧ len ≤ maxLen ∧ xs.length = len ∧ Holds W W.heap.size v xs ∧ (∀ x ∈ xs, x.length ≤ maxLen) := by
  obtain ⟨a0, len, cap, rfl⟩ := WideShapes.okWide_slice Tryz.underlying72 hok
  obtain ⟨fuel, hf⟩ := h
  have c3 : Tryz.prog.cellsOf 9 = 1 := by kernel_rfl
  rcases Go.ChangeShapes.open_strings Tryz.underlying72 Tryz.underlying9 c3 hf with ⟨hcs, hx⟩ | ⟨a, len', cap', ss, hcs, _, hl, hm, hz, hx, hcell, hwz⟩
  · simp [Value.cells] at hcs
    obtain ⟨rfl, rfl, rfl⟩ := hcs
    exact ⟨_, _, _, [], rfl, Nat.zero_le _, rfl, Or.inl ⟨rfl, _, _, rfl⟩, fun n hn => by cases hn⟩
  · simp [Value.cells] at hcs
    obtain ⟨rfl, rfl, rfl⟩ := hcs
    simp only [if_true] at hz
    have hlt : ((ss.take len).map (·.data.toList)).length = len := by rw [List.length_map, List.length_take]; omega
    refine ⟨_, _, _, (ss.take len).map (·.data.toList), rfl, by omega, hlt, ?_, ?_⟩
    · by_cases hl0 : len = 0
      · subst hl0; exact Or.inl ⟨by simp, _, _, rfl⟩
      · obtain ⟨b, off, spot⟩ := a
        have hspot : spot = none := by simpa [Addr.add] using World.cell?_spot (hcell 0 (by omega))
        subst hspot
        have hc : At W b off ((ss.take len).map (·.data.toList)) := fun j hj => by
          rw [hlt] at hj
          rw [← WideShapes.add_plain, hcell j (by omega)]
          simp [List.getD, show j < ss.length by omega, show j < len by omega, List.getElem?_take, sv]
        exact Or.inr ⟨by omega, b, off, cap, by rw [hlt], at_lt hc (by omega), by omega, hc⟩
    · intro x hx
      obtain ⟨s, hs, rfl⟩ := List.mem_map.1 hx
      have := hwz s (List.mem_of_mem_take hs)
      rw [Array.length_toList]; exact this
end

/-- What szStringS answers at 2 to the 20: not below 0 just where the size is at most that. -/
def Sized (xs : List (List UInt8)) (w : World) (e : Ending) (w' : World) : Prop := ∃ z : Int, e = .returned (.int .i64 z) ∧ (z < 0 ∨ (0 ≤ z ∧ total xs ≤ 1048576)) ∧ w = w'

theorem size_nil (a : Option Addr) (cap : Nat) (w : World) :
    Calls Tryz.prog 159 #[.slice a 0 cap, .int .i64 1048576] w (Sized [] w) := by
  go_enter Tryz.func159, Tryz.ntmps159
  go_wp2
  go_loop [1, 5] (fun l i => i = .int .i64 0 ∧ l = .int .i64 1048576) (fun _ i => 0)
  case atStart => exact ⟨rfl, rfl⟩
  case round =>
    obtain ⟨rfl, rfl⟩ := hrel
    go_wp2
    go_ret
    exact ⟨_, rfl, Or.inr ⟨by omega, by simp [total_nil]⟩, rfl⟩

set_option maxHeartbeats 1000000 in
theorem size_some (b off cap : Nat) (xs : List (List UInt8)) (w : World) (hc : At w b off xs) (h0 : 0 < xs.length) (hl : xs.length ≤ maxLen) (hx : ∀ x ∈ xs, x.length ≤ maxLen) :
    Calls Tryz.prog 159 #[.slice (some ⟨b, off, none⟩) xs.length cap, .int .i64 1048576] w (Sized xs w) := by
  have HC := Lib.hid hc
  have HX := Lib.hid hx
  unfold maxLen at hl
  clear hc hx
  by_cases hn : 1048576 - (xs.length : Int) < 0
  · go_enter Tryz.func159, Tryz.ntmps159
    go_wp2
    go_ret
    exact ⟨_, rfl, Or.inl (by omega), rfl⟩
  · go_enter Tryz.func159, Tryz.ntmps159
    go_wp2
    go_loop [1, 5] (fun l i => ∃ k : Nat, k ≤ xs.length ∧ i = .int .i64 (k : Int) ∧ 0 ≤ 1048576 - (xs.length : Int) - (pre xs k : Int) ∧ l = .int .i64 (1048576 - (xs.length : Int) - (pre xs k : Int))) (fun _ i => xs.length - (intOf i).toNat)
    case atStart => exact ⟨0, Nat.zero_le _, rfl, by rw [pre_zero]; omega, by rw [pre_zero]; simp⟩
    case round =>
      obtain ⟨k, hk, rfl, hp, rfl⟩ := hrel
      by_cases hlt : k < xs.length
      · have hcell := HC.out k hlt
        have hxl : (xs.getD k []).length ≤ 9223372036854775807 := by
          have hm : xs.getD k [] ∈ xs := by
            rw [show xs.getD k [] = xs[k] by simp [List.getD, hlt]]; exact List.getElem_mem _
          have := HX.out _ hm; unfold maxLen at this; omega
        have HP := Lib.hid (pre_more hlt)
        generalize xs.getD k [] = x at *
        have hsz : (⟨x.toArray⟩ : ByteArray).size = x.length := by simp [ByteArray.size]
        unfold sv at hcell
        by_cases hneg : 1048576 - (xs.length : Int) - (pre xs k : Int) - (x.length : Int) < 0
        · go_wp2
          go_ret
          exact ⟨_, rfl, Or.inl (by omega), rfl⟩
        · go_wp2
          go_round
          case rel => exact ⟨k + 1, by omega, by go_num, by rw [HP.out]; omega, by rw [HP.out]; congr 1; omega⟩
          case measure => simp [intOf]; omega
      · have HT := Lib.hid (pre_all (xs := xs) (k := k) (by omega))
        go_wp2
        go_ret
        exact ⟨_, rfl, Or.inr ⟨hp, by rw [HT.out]; omega⟩, rfl⟩

theorem size_any (v : Value) (B : Nat) (xs : List (List UInt8)) (w : World) (h : Holds w B v xs) (hl : xs.length ≤ maxLen) (hx : ∀ x ∈ xs, x.length ≤ maxLen) :
    Calls Tryz.prog 159 #[v, .int .i64 1048576] w (Sized xs w) := by
  rcases h with ⟨rfl, a, cap, rfl⟩ | ⟨h0, b, off, cap, rfl, _, _, hc⟩
  · exact size_nil a cap w
  · exact size_some b off cap xs w hc h0 hl hx

/-! a copy -/
def part (xs : List (List UInt8)) (k : Nat) : List (List UInt8) := xs.take k ++ List.replicate (xs.length - k) []
theorem part_len (xs : List (List UInt8)) {k : Nat} (h : k ≤ xs.length) : (part xs k).length = xs.length := by
  unfold part; rw [List.length_append, List.length_take, List.length_replicate]; omega
theorem part_zero (xs : List (List UInt8)) : part xs 0 = List.replicate xs.length [] := by unfold part; simp
theorem part_all (xs : List (List UInt8)) : part xs xs.length = xs := by unfold part; simp
theorem part_more {xs : List (List UInt8)} {k : Nat} (h : k < xs.length) : (part xs k).set k (xs.getD k []) = part xs (k + 1) := by
  unfold part
  rw [List.set_append_right _ _ (by rw [List.length_take]; omega), List.length_take, show k - min k xs.length = 0 by omega,
    show xs.length - k = (xs.length - (k + 1)) + 1 by omega, List.replicate_succ, List.set_cons_zero, List.take_succ_eq_append_getElem h, List.append_assoc]
  simp [List.getD, h]
theorem made_part (xs : List (List UInt8)) : (madeCells (Value.string ⟨#[]⟩).cells (xs.length * 1)).toList = svs (part xs 0) := by
  rw [show (Value.string ⟨#[]⟩).cells = #[.string ⟨#[]⟩] from rfl, Nat.mul_one, toList_madeCells_one, part_zero]; unfold svs; rw [List.map_replicate]; rfl

def Copied (xs : List (List UInt8)) (w : World) (e : Ending) (w' : World) : Prop := ∃ v, e = .returned v ∧ Own w' w.heap.size v xs ∧ Below w.heap.size w w'

theorem copy_nil (a : Option Addr) (cap : Nat) (w : World) :
    Calls Tryz.prog 166 #[.slice a 0 cap] w (Copied [] w) := by
  obtain ⟨i0, hi, hz0, hz1, hz2⟩ := info_parts info_str
  go_enter Tryz.func166, Tryz.ntmps166
  go_wp2_with (refine wpList_make_full _ (by rfl) (.tmp 6) (.tmp 6) 72 (by rfl) w.heap.size 9 i0 (.string ⟨#[]⟩) 1 Tryz.underlying72 hi hz0 hz1 .i64 .i64 _ _ 0 (by rfl) (by rfl) rfl rfl (by rw [hz2]; omega) (by decide) (Nat.le_refl _) ?_; intro w1 hown hgrow)
  have e := made_part []
  rw [show ([] : List (List UInt8)).length * 1 = 0 * 1 from rfl, show svs (part [] 0) = svs [] from rfl] at e
  rw [e] at hown
  clear e
  go_loop [4] (fun i => i = .int .i64 0) (fun i => 0)
  case atStart => rfl
  case round =>
    obtain rfl := hrel
    go_wp2
    go_ret
    exact ⟨_, rfl, hown, (Below.refl _ _).grown hgrow (Nat.le_refl _) (fun k e => by cases e)⟩

set_option maxHeartbeats 1000000 in
theorem copy_some (b off cap : Nat) (xs : List (List UInt8)) (w : World) (hc : At w b off xs) (h0 : 0 < xs.length) (hl : xs.length ≤ 1000000000000) :
    Calls Tryz.prog 166 #[.slice (some ⟨b, off, none⟩) xs.length cap] w (Copied xs w) := by
  obtain ⟨i0, hi, hz0, hz1, hz2⟩ := info_parts info_str
  have hbl := at_lt hc h0
  have HC := Lib.hid hc
  clear hc
  go_enter Tryz.func166, Tryz.ntmps166
  go_wp2_with (at_make; refine wpList_make_full _ rfl (.tmp 6) (.tmp 6) 72 rfl w.heap.size 9 i0 (.string ⟨#[]⟩) 1 Tryz.underlying72 hi hz0 hz1 .i64 .i64 _ _ xs.length rfl rfl rfl rfl (by rw [hz2]; omega) (by unfold maxLen; omega) (Nat.le_refl _) ?_; intro w1 hown hgrow)
  rw [made_part] at hown
  have hb1 : Below w.heap.size w w1 := (Below.refl _ _).grown hgrow (Nat.le_refl _) (fun k e => by cases e)
  clear hgrow hi hz0 hz1 hz2
  have HO := Lib.hid hown
  clear hown
  go_loopw [4] (fun i wr => ∃ k : Nat, k ≤ xs.length ∧ i = .int .i64 k ∧
      wr.ownsRow w.heap.size 9 1 (.slice (some ⟨w.heap.size, 0, none⟩) xs.length xs.length) xs.length (svs (part xs k)) ∧ Below w.heap.size w wr) (fun i _ => xs.length - (intOf i).toNat)
  case atStart => exact ⟨0, Nat.zero_le _, rfl, HO.out, hb1⟩
  case round =>
    obtain ⟨k, hk, rfl, hown, hb⟩ := hrel
    clear HO hb1
    by_cases hlt : k < xs.length
    · have hsrc : wr.cell? ⟨b, off + k, none⟩ = some (sv (xs.getD k [])) := at_below HC.out hb hbl k hlt
      have hdst := own_cell hown hlt
      have hfz := hown.frozenAt k
      have hst := hown.stored k (sv (xs.getD k []))
      have hset : (svs (part xs k)).set k (sv (xs.getD k [])) = svs (part xs (k + 1)) := by rw [← part_more hlt]; unfold svs; rw [List.map_set]
      rw [hset] at hst
      have hg := Lib.hid (hb.grown hst.2 hb.size (fun k e => by cases e; exact Nat.le_refl _))
      have HS := Lib.hid hst.1
      clear hst hown hset
      unfold sv at hsrc hdst HS hg
      obtain ⟨z, hz⟩ : ∃ z, z = (⟨(xs.getD k []).toArray⟩ : ByteArray) := ⟨_, rfl⟩
      obtain ⟨y, hy⟩ : ∃ y, y = (⟨((part xs k).getD k []).toArray⟩ : ByteArray) := ⟨_, rfl⟩
      rw [← hz] at hsrc hg HS
      rw [← hy] at hdst
      clear hz hy
      go_wp2
      go_roundw
      case rel => exact ⟨k + 1, by omega, by go_num, HS.out, hg.out⟩
      case measure => simp [intOf]; omega
    · obtain rfl : k = xs.length := by omega
      rw [part_all] at hown
      go_wp2
      go_ret
      exact ⟨_, rfl, hown, hb⟩

theorem copy (v : Value) (B : Nat) (xs : List (List UInt8)) (w : World) (h : Holds w B v xs) (hl : xs.length ≤ 1000000000000) :
    Calls Tryz.prog 166 #[v] w (Copied xs w) := by
  rcases h with ⟨rfl, a, cap, rfl⟩ | ⟨h0, b, off, cap, rfl, _, _, hc⟩
  · exact copy_nil a cap w
  · exact copy_some b off cap xs w hc h0 hl
end Go.Proofs.YtndbhjgfaghelaaGreatDoor.Strs

/-
  A SLICE OF TEXTS that stands in one cell of a struct, opened; its size (szStringS) against what is left.
-/
namespace Go.Proofs.YtndbhjgfaghelaaGreatDoor.Strs
open Go Go.RowKit
set_option linter.unusedVariables false
set_option maxRecDepth 1000000
set_option maxRecDepth 1000000

section
variable {H : Type} {enc : TypeId × Value → H}
/-- A slice of texts that stands in one cell, opened. -/
theorem open_cells {W : World} {fuel : Nat} {cs0 : List Value} {x : DataW H × List MemPlace}
    (hf : DataW.trod enc Tryz.prog W 0 (fun _ => true) true fuel 72 cs0 = some x) :
    ∃ (v : Value) (xs : List (List UInt8)), cs0 = [v] ∧ Holds W W.heap.size v xs ∧ xs.length ≤ maxLen ∧ (∀ x ∈ xs, x.length ≤ maxLen) := by
  have c3 : Tryz.prog.cellsOf 9 = 1 := by kernel_rfl
  rcases Go.ChangeShapes.open_strings Tryz.underlying72 Tryz.underlying9 c3 hf with ⟨hcs, hx⟩ | ⟨a, len', cap', ss, hcs, _, hl, hm, hz, hx, hcell, hwz⟩
  · exact ⟨_, [], hcs, Or.inl ⟨rfl, _, _, rfl⟩, Nat.zero_le _, fun n hn => by cases hn⟩
  · simp only [if_true] at hz
    have hlt : ((ss.take len').map (·.data.toList)).length = len' := by rw [List.length_map, List.length_take]; omega
    refine ⟨_, (ss.take len').map (·.data.toList), hcs, ?_, by rw [hlt]; omega, ?_⟩
    · by_cases hl0 : len' = 0
      · subst hl0; exact Or.inl ⟨by simp, _, _, rfl⟩
      · obtain ⟨b, off, spot⟩ := a
        have hspot : spot = none := by simpa [Addr.add] using World.cell?_spot (hcell 0 (by omega))
        subst hspot
        have hc : At W b off ((ss.take len').map (·.data.toList)) := fun j hj => by
          rw [hlt] at hj
          rw [← WideShapes.add_plain, hcell j (by omega)]
          simp [List.getD, show j < ss.length by omega, show j < len' by omega, List.getElem?_take, sv]
        exact Or.inr ⟨by omega, b, off, _, by rw [hlt], at_lt hc (by omega), by omega, hc⟩
    · intro x hx
      obtain ⟨s, hs, rfl⟩ := List.mem_map.1 hx
      have := hwz s (List.mem_of_mem_take hs)
      rw [Array.length_toList]; exact this
end
def SizedL (xs : List (List UInt8)) (left : Int) (w : World) (e : Ending) (w' : World) : Prop := ∃ z : Int, e = .returned (.int .i64 z) ∧ (z < 0 ∨ (0 ≤ z ∧ z + total xs = left)) ∧ w = w'
theorem sizel_nil (a : Option Addr) (cap : Nat) (left : Int) (w : World) (h0 : 0 ≤ left) (h3 : left ≤ 1048576) :
    Calls Tryz.prog 159 #[.slice a 0 cap, .int .i64 left] w (SizedL [] left w) := by
  go_enter Tryz.func159, Tryz.ntmps159
  go_wp2
  go_loop [1, 5] (fun l i => i = .int .i64 0 ∧ l = .int .i64 left) (fun _ i => 0)
  case atStart => exact ⟨rfl, rfl⟩
  case round =>
    obtain ⟨rfl, rfl⟩ := hrel
    go_wp2
    go_ret
    exact ⟨_, rfl, Or.inr ⟨by omega, by simp [total_nil]⟩, rfl⟩

set_option maxHeartbeats 1000000 in
theorem sizel_some (b off cap : Nat) (xs : List (List UInt8)) (left : Int) (w : World) (hc : At w b off xs) (h0 : 0 < xs.length) (hl : xs.length ≤ maxLen) (hx : ∀ x ∈ xs, x.length ≤ maxLen) (hl0 : 0 ≤ left) (hl3 : left ≤ 1048576) :
    Calls Tryz.prog 159 #[.slice (some ⟨b, off, none⟩) xs.length cap, .int .i64 left] w (SizedL xs left w) := by
  have HC := Lib.hid hc
  have HX := Lib.hid hx
  unfold maxLen at hl
  clear hc hx
  by_cases hn : left - (xs.length : Int) < 0
  · go_enter Tryz.func159, Tryz.ntmps159
    go_wp2
    go_ret
    exact ⟨_, rfl, Or.inl (by omega), rfl⟩
  · go_enter Tryz.func159, Tryz.ntmps159
    go_wp2
    go_loop [1, 5] (fun l i => ∃ k : Nat, k ≤ xs.length ∧ i = .int .i64 (k : Int) ∧ 0 ≤ left - (xs.length : Int) - (pre xs k : Int) ∧ l = .int .i64 (left - (xs.length : Int) - (pre xs k : Int))) (fun _ i => xs.length - (intOf i).toNat)
    case atStart => exact ⟨0, Nat.zero_le _, rfl, by rw [pre_zero]; omega, by rw [pre_zero]; simp⟩
    case round =>
      obtain ⟨k, hk, rfl, hp, rfl⟩ := hrel
      by_cases hlt : k < xs.length
      · have hcell := HC.out k hlt
        have hxl : (xs.getD k []).length ≤ 9223372036854775807 := by
          have hm : xs.getD k [] ∈ xs := by
            rw [show xs.getD k [] = xs[k] by simp [List.getD, hlt]]; exact List.getElem_mem _
          have := HX.out _ hm; unfold maxLen at this; omega
        have HP := Lib.hid (pre_more hlt)
        generalize xs.getD k [] = x at *
        have hsz : (⟨x.toArray⟩ : ByteArray).size = x.length := by simp [ByteArray.size]
        unfold sv at hcell
        by_cases hneg : left - (xs.length : Int) - (pre xs k : Int) - (x.length : Int) < 0
        · go_wp2
          go_ret
          exact ⟨_, rfl, Or.inl (by omega), rfl⟩
        · go_wp2
          go_round
          case rel => exact ⟨k + 1, by omega, by go_num, by rw [HP.out]; omega, by rw [HP.out]; congr 1; omega⟩
          case measure => simp [intOf]; omega
      · have HT := Lib.hid (pre_all (xs := xs) (k := k) (by omega))
        go_wp2
        go_ret
        exact ⟨_, rfl, Or.inr ⟨hp, by rw [HT.out]; omega⟩, rfl⟩

theorem sizel_any (v : Value) (B : Nat) (xs : List (List UInt8)) (left : Int) (w : World) (h : Holds w B v xs) (hl : xs.length ≤ maxLen) (hx : ∀ x ∈ xs, x.length ≤ maxLen) (h0 : 0 ≤ left) (h3 : left ≤ 1048576) :
    Calls Tryz.prog 159 #[v, .int .i64 left] w (SizedL xs left w) := by
  rcases h with ⟨rfl, a, cap, rfl⟩ | ⟨hp, b, off, cap, rfl, _, _, hc⟩
  · exact sizel_nil a cap left w h0 h3
  · exact sizel_some b off cap xs left w hc hp hl hx h0 h3
end Go.Proofs.YtndbhjgfaghelaaGreatDoor.Strs

/-
  CONTRACTS of the laws' helpers for slices of Version (written by rec.py): a copy (toVersion, toVersionS) and the comparison of two that hold the same (eqVersion, eqVersionS). Nothing that was there before is changed.
-/
namespace Go.Proofs.YtndbhjgfaghelaaGreatDoor.Ver
open Go Go.RowKit
set_option linter.unusedVariables false
set_option maxRecDepth 1000000

theorem copy_one (f : T) (w : World) : Calls Tryz.prog 215 #[fv f] w fun e w' => e = .returned (fv f) ∧ Below w.heap.size w w' := by
  obtain ⟨x, y, u⟩ := f
  unfold fv
  dsimp only
  obtain ⟨s1, hs1⟩ : ∃ z : ByteArray, z = ⟨y.toArray⟩ := ⟨_, rfl⟩
  rw [← hs1]
  clear hs1
  go_enter Tryz.func215, Tryz.ntmps215
  go_wp2
  refine bodyPost_ret (v := .agg #[.int .i64 (x), .string s1, .bool (u)]) (by simp [results, Tryz.results215, go_sem]) rfl ⟨rfl, ?_⟩
  exact (((Below.refl _ _).alloc (Nat.le_refl _) _).alloc (by simp) _).alloc (by simp; omega) _
theorem copy_two (x : Int) (y : List UInt8) (u : Bool) (w : World) : Calls Tryz.prog 215 #[.agg #[.int .i64 (x), .string ⟨(y).toArray⟩, .bool (u)]] w fun e w' => e = .returned (.agg #[.int .i64 (x), .string ⟨(y).toArray⟩, .bool (u)]) ∧ Below w.heap.size w w' := copy_one (x, y, u) w

def Copied (l : List T) (w : World) (e : Ending) (w' : World) : Prop := ∃ v, e = .returned v ∧ Own w' w.heap.size v l ∧ Below w.heap.size w w'
/-- .. and the slice is not nil. -/
def Copied' (l : List T) (w : World) (e : Ending) (w' : World) : Prop := ∃ v, e = .returned v ∧ Own w' w.heap.size v l ∧ Below w.heap.size w w' ∧ ∃ g cap, v = .slice (some ⟨g, 0, none⟩) l.length cap

theorem copy_nil (a : Option Addr) (cap : Nat) (w : World) :
    Calls Tryz.prog 167 #[.slice a 0 cap] w (Copied' [] w) := by
  obtain ⟨i0, hi, hz0, hz1, hz2⟩ := info_parts info_r
  go_enter Tryz.func167, Tryz.ntmps167
  go_wp2_with (refine wpList_make_full _ (by rfl) (.tmp 6) (.tmp 6) 105 (by rfl) w.heap.size 148 i0 (.agg #[.int .i64 0, .string ⟨#[]⟩, .bool false]) 3 Tryz.underlying105 hi hz0 hz1 .i64 .i64 _ _ 0 (by rfl) (by rfl) rfl rfl (by rw [hz2]; omega) (by decide) (Nat.le_refl _) ?_; intro w1 hown hgrow)
  have e := made_part []
  rw [show ([] : List T).length * 3 = 0 * 3 from rfl, show fcs (part [] 0) = fcs [] from rfl] at e
  rw [e] at hown
  clear e
  go_loop [4] (fun i => i = .int .i64 0) (fun i => 0)
  case atStart => rfl
  case round =>
    obtain rfl := hrel
    go_wp2
    go_ret
    exact ⟨_, rfl, hown, (Below.refl _ _).grown hgrow (Nat.le_refl _) (fun k e => by cases e), ⟨_, _, rfl⟩⟩

set_option maxHeartbeats 1000000 in
theorem copy_some (b off cap : Nat) (l : List T) (w : World) (hc : At w b off l) (h0 : 0 < l.length) (hl : l.length ≤ 1048576) :
    Calls Tryz.prog 167 #[.slice (some ⟨b, off, none⟩) l.length cap] w (Copied' l w) := by
  obtain ⟨i0, hi, hz0, hz1, hz2⟩ := info_parts info_r
  have hbl := at_lt hc h0
  have HC := Lib.hid hc
  clear hc
  go_enter Tryz.func167, Tryz.ntmps167
  go_wp2_with (at_make; refine wpList_make_full _ rfl (.tmp 6) (.tmp 6) 105 rfl w.heap.size 148 i0 (.agg #[.int .i64 0, .string ⟨#[]⟩, .bool false]) 3 Tryz.underlying105 hi hz0 hz1 .i64 .i64 _ _ l.length rfl rfl rfl rfl (by rw [hz2]; omega) (by unfold maxLen; omega) (Nat.le_refl _) ?_; intro w1 hown hgrow)
  rw [made_part] at hown
  have hb1 : Below w.heap.size w w1 := (Below.refl _ _).grown hgrow (Nat.le_refl _) (fun k e => by cases e)
  clear hgrow hi hz0 hz1 hz2
  have HO := Lib.hid hown
  clear hown
  go_loopw [4] (fun i wr => ∃ k : Nat, k ≤ l.length ∧ i = .int .i64 k ∧
      wr.ownsRow w.heap.size 148 3 (.slice (some ⟨w.heap.size, 0, none⟩) l.length l.length) l.length (fcs (part l k)) ∧ Below w.heap.size w wr) (fun i _ => l.length - (intOf i).toNat)
  case atStart => exact ⟨0, Nat.zero_le _, rfl, HO.out, hb1⟩
  case round =>
    obtain ⟨k, hk, rfl, hown, hb⟩ := hrel
    clear HO hb1
    by_cases hlt : k < l.length
    · obtain ⟨c0, c1, c2⟩ := at_cells (at_below HC.out hb hbl) hlt
      have HP := Lib.hid (part_more hlt)
      have HQ : Hid (k < (part l k).length) := Lib.hid (by rw [part_len l hk]; exact hlt)
      have HO := Lib.hid hown
      have HB := Lib.hid hb
      clear hown hb
      generalize hy : l.getD k nov = f at c0 c1 c2 HP
      clear hy
      obtain ⟨x, y, u⟩ := f
      dsimp only at c0 c1 c2
      go_wp2_with (go_at_call 215; refine (copy_two x y u wr).mono ?_; rintro e w' ⟨rfl, hb1⟩; have HB1 := Lib.hid (Base.then_below HB.out (hb1.mono (Nat.le_refl _))); have hr1 := row_below HO.out hb1; have HL1 := hr1.1; obtain ⟨d0, d1, d2⟩ := own_cells hr1 hlt; have f0 := hr1.frozenAt (k * 3); have f1 := hr1.frozenAt (k * 3 + 1); have f2 := hr1.frozenAt (k * 3 + 2); have HR1 := Lib.hid hr1; clear hr1 hb1)
      have s0 := HR1.out.stored (k * 3) (.int .i64 (x))
      have s1 := s0.1.stored (k * 3 + 1) (.string ⟨(y).toArray⟩)
      have s2 := s1.1.stored (k * 3 + 2) (.bool (u))
      have e' := fcs_put (l := part l k) (x, y, u) HQ.out
      dsimp only at e'
      rw [e', HP.out] at s2
      have hz0 := HB1.out.size
      have hz1 := s0.2.size
      have hz2 := s1.2.size
      have hbb := (((HB1.out.grown s0.2 (by omega) (fun j e => by cases e; exact Nat.le_refl _)).grown s1.2 (by omega) (fun j e => by cases e; exact Nat.le_refl _)).grown s2.2 (by omega) (fun j e => by cases e; exact Nat.le_refl _))
      go_roundw
      case rel => exact ⟨k + 1, by omega, by go_num, s2.1, hbb⟩
      case measure => simp [intOf]; omega
    · obtain rfl : k = l.length := by omega
      rw [part_all] at hown
      go_wp2
      go_ret
      exact ⟨_, rfl, hown, hb, ⟨_, _, rfl⟩⟩

theorem copy' (v : Value) (B : Nat) (l : List T) (w : World) (h : Holds w B v l) (hl : l.length ≤ 1048576) :
    Calls Tryz.prog 167 #[v] w (Copied' l w) := by
  rcases h with ⟨rfl, a, cap, rfl⟩ | ⟨h0, b, off, cap, rfl, _, _, hc⟩
  · exact copy_nil a cap w
  · exact copy_some b off cap l w hc h0 hl
theorem copy (v : Value) (B : Nat) (l : List T) (w : World) (h : Holds w B v l) (hl : l.length ≤ 1048576) :
    Calls Tryz.prog 167 #[v] w (Copied l w) :=
  (copy' v B l w h hl).mono fun e w' ⟨v', h1, h2, h3, _⟩ => ⟨v', h1, h2, h3⟩

theorem eq_one (s0 : Int) (s1 : ByteArray) (s2 : Bool) (w : World) : Calls Tryz.prog 234 #[.agg #[.int .i64 (s0), .string s1, .bool (s2)], .agg #[.int .i64 (s0), .string s1, .bool (s2)]] w (Rec.Yes w) := by
  go_enter Tryz.func234, Tryz.ntmps234
  go_wp2
  go_ret
  exact ⟨rfl, ((Below.refl _ _).alloc (Nat.le_refl _) _).alloc (by simp) _⟩

theorem eq_nil (a a' : Option Addr) (cap cap' : Nat) (w : World) :
    Calls Tryz.prog 179 #[.slice a 0 cap, .slice a' 0 cap'] w (Rec.Yes w) := by
  go_enter Tryz.func179, Tryz.ntmps179
  go_wp2
  go_loop [5] (fun i => i = .int .i64 0) (fun i => 0)
  case atStart => rfl
  case round =>
    obtain rfl := hrel
    go_wp2
    go_ret
    exact ⟨rfl, Below.refl _ _⟩

set_option maxHeartbeats 1000000 in
theorem eq_some (b off cap b' off' cap' : Nat) (l : List T) (w : World) (hc : At w b off l) (hc' : At w b' off' l) (h0 : 0 < l.length) (hl : l.length ≤ 4194304) :
    Calls Tryz.prog 179 #[.slice (some ⟨b, off, none⟩) l.length cap, .slice (some ⟨b', off', none⟩) l.length cap'] w (Rec.Yes w) := by
  have hbl := at_lt hc h0
  have hbl' := at_lt hc' h0
  have HC := Lib.hid hc
  have HC' := Lib.hid hc'
  clear hc hc'
  go_enter Tryz.func179, Tryz.ntmps179
  go_wp2
  go_loopw [5] (fun i wr => ∃ k : Nat, k ≤ l.length ∧ i = .int .i64 k ∧ Below w.heap.size w wr) (fun i _ => l.length - (intOf i).toNat)
  case atStart => exact ⟨0, Nat.zero_le _, rfl, Below.refl _ _⟩
  case round =>
    obtain ⟨k, hk, rfl, hb⟩ := hrel
    by_cases hlt : k < l.length
    · have cc := at_cells (at_below HC.out (Rec.below_drew hb) hbl) hlt
      have cc' := at_cells (at_below HC'.out (Rec.below_drew hb) hbl') hlt
      obtain ⟨s0, hs0⟩ : ∃ z : Int, z = (l.getD k nov).1 := ⟨_, rfl⟩
      obtain ⟨s1, hs1⟩ : ∃ z : ByteArray, z = ⟨((l.getD k nov).2.1).toArray⟩ := ⟨_, rfl⟩
      obtain ⟨s2, hs2⟩ : ∃ z : Bool, z = (l.getD k nov).2.2 := ⟨_, rfl⟩
      rw [← hs0, ← hs1, ← hs2] at cc cc'
      clear hs0 hs1 hs2
      obtain ⟨c0, c1, c2⟩ := cc
      obtain ⟨e0, e1, e2⟩ := cc'
      have HB := Lib.hid (Rec.below_drew hb)
      clear hb
      go_wp2
      go_region_with (go_at_call 234; refine (eq_one s0 s1 s2 wr.drew).mono ?_; rintro e wt ⟨rfl, hb1⟩; have HB1 := Lib.hid (Base.then_below HB.out hb1); clear hb1)
      all_goals go_wp2
      all_goals go_roundw
      all_goals first
        | exact ⟨k + 1, by omega, by go_num, HB1.out⟩
        | (simp [intOf]; omega)
    · go_wp2
      go_ret
      exact ⟨rfl, hb⟩

theorem eq_wide (v v' : Value) (B B' : Nat) (l : List T) (w : World) (h : Holds w B v l) (h' : Holds w B' v' l) (hl : l.length ≤ 4194304) :
    Calls Tryz.prog 179 #[v, v'] w (Rec.Yes w) := by
  rcases h with ⟨rfl, a, cap, rfl⟩ | ⟨h0, b, off, cap, rfl, _, _, hc⟩
  · rcases h' with ⟨_, a', cap', rfl⟩ | ⟨h0, _⟩
    · exact eq_nil a a' cap cap' w
    · exact absurd h0 (by simp)
  · rcases h' with ⟨rfl, _⟩ | ⟨_, b', off', cap', rfl, _, _, hc'⟩
    · exact absurd h0 (by simp)
    · exact eq_some b off cap b' off' cap' l w hc hc' h0 hl
theorem eq_same (v v' : Value) (B B' : Nat) (l : List T) (w : World) (h : Holds w B v l) (h' : Holds w B' v' l) (hl : l.length ≤ 1048576) :
    Calls Tryz.prog 179 #[v, v'] w (Rec.Yes w) := eq_wide v v' B B' l w h h' (Nat.le_trans hl (by decide))
end Go.Proofs.YtndbhjgfaghelaaGreatDoor.Ver

/-
  CONTRACT of the laws' comparison of two slices of texts (eqStringS): where both hold the same texts it returns true; nothing that was there before is changed.
-/
namespace Go.Proofs.YtndbhjgfaghelaaGreatDoor.Strs
open Go Go.RowKit
set_option linter.unusedVariables false
set_option maxRecDepth 1000000

def Yes (w : World) (e : Ending) (w' : World) : Prop := e = .returned (.bool true) ∧ Below w.heap.size w w'
theorem below_drew {B : Nat} {a w : World} (h : Below B a w) : Below B a w.drew := ⟨h.os, h.tape, h.output, h.size, h.block⟩

theorem eq_nil (a a' : Option Addr) (cap cap' : Nat) (w : World) :
    Calls Tryz.prog 178 #[.slice a 0 cap, .slice a' 0 cap'] w (Yes w) := by
  go_enter Tryz.func178, Tryz.ntmps178
  go_wp2
  go_loop [5] (fun i => i = .int .i64 0) (fun i => 0)
  case atStart => rfl
  case round =>
    obtain rfl := hrel
    go_wp2
    go_ret
    exact ⟨rfl, Below.refl _ _⟩

theorem eq_some (b off cap b' off' cap' : Nat) (xs : List (List UInt8)) (w : World) (hc : At w b off xs) (hc' : At w b' off' xs) (h0 : 0 < xs.length) (hl : xs.length ≤ 1000000000000) :
    Calls Tryz.prog 178 #[.slice (some ⟨b, off, none⟩) xs.length cap, .slice (some ⟨b', off', none⟩) xs.length cap'] w (Yes w) := by
  have hbl := at_lt hc h0
  have hbl' := at_lt hc' h0
  have HC := Lib.hid hc
  have HC' := Lib.hid hc'
  clear hc hc'
  go_enter Tryz.func178, Tryz.ntmps178
  go_wp2
  go_loopw [5] (fun i wr => ∃ k : Nat, k ≤ xs.length ∧ i = .int .i64 k ∧ Below w.heap.size w wr) (fun i _ => xs.length - (intOf i).toNat)
  case atStart => exact ⟨0, Nat.zero_le _, rfl, Below.refl _ _⟩
  case round =>
    obtain ⟨k, hk, rfl, hb⟩ := hrel
    by_cases hlt : k < xs.length
    · have c1 : wr.cell? ⟨b, off + k, none⟩ = some (sv (xs.getD k [])) := at_below HC.out hb hbl k hlt
      have c2 : wr.cell? ⟨b', off' + k, none⟩ = some (sv (xs.getD k [])) := at_below HC'.out hb hbl' k hlt
      unfold sv at c1 c2
      obtain ⟨z, hz⟩ : ∃ z : ByteArray, z = ⟨(xs.getD k []).toArray⟩ := ⟨_, rfl⟩
      rw [← hz] at c1 c2
      clear hz
      have hb' := Lib.hid (below_drew hb)
      clear hb
      go_wp2
      all_goals go_region
      all_goals go_wp2
      all_goals go_roundw
      case rel => exact ⟨k + 1, by omega, by go_num, hb'.out⟩
      case measure => simp [intOf]; omega
    · go_wp2
      go_ret
      exact ⟨rfl, hb⟩

theorem eq_same (v v' : Value) (B B' : Nat) (xs : List (List UInt8)) (w : World) (h : Holds w B v xs) (h' : Holds w B' v' xs) (hl : xs.length ≤ 1000000000000) :
    Calls Tryz.prog 178 #[v, v'] w (Yes w) := by
  rcases h with ⟨rfl, a, cap, rfl⟩ | ⟨h0, b, off, cap, rfl, _, _, hc⟩
  · rcases h' with ⟨_, a', cap', rfl⟩ | ⟨h0, _⟩
    · exact eq_nil a a' cap cap' w
    · exact absurd h0 (by simp)
  · rcases h' with ⟨rfl, _⟩ | ⟨_, b', off', cap', rfl, _, _, hc'⟩
    · exact absurd h0 (by simp)
    · exact eq_some b off cap b' off' cap' xs w hc hc' h0 hl
end Go.Proofs.YtndbhjgfaghelaaGreatDoor.Strs
