/-
  CONTRACTS of the laws' helpers for slices of fields: an argument of that type, opened; its size (szFieldS). Nothing that was there before is changed.
-/
import Derived.Test.YtbkjioggohjnfaaDoorFldTot
import Derived.LoopTactic
import Derived.Outline
import Derived.Deep.SlicePairs
namespace Go.Proofs.YtbkjioggohjnfaaDoor.Flds
open Go Go.RowKit
set_option linter.unusedVariables false
set_option maxRecDepth 1000000

theorem trod_text {H : Type} {enc : TypeId × Value → H} {W : World} {n : Nat} {sp : Nat → Bool} {v : Value} {x : DataW H × List MemPlace} (h : DataW.trod enc Tryd.prog W 0 sp true n 9 [v] = some x) : ∃ s : ByteArray, v = .string s ∧ s.size ≤ maxLen := by
  obtain ⟨s, h1, h2, h3⟩ := DataW.trod_string Tryd.underlying9 h
  exact ⟨s, by simpa using h1, h3⟩

set_option maxRecDepth 1000000 in
/-- An argument of type []laws.Field, opened. -/
theorem open_arg {H : Type} {enc : TypeId × Value → H} {W : World} {base : Nat} {v : Value} {d : DataW H} {p : List MemPlace}
    (hok : Value.okWide Tryd.prog W .any base 22 v) (h : DataW.Trod enc Tryd.prog W 0 (fun _ => true) true 22 v d p) :
    ∃ l : List Fld, Holds W W.heap.size v l ∧ l.length ≤ maxLen ∧ (∀ f ∈ l, f.1.length ≤ maxLen ∧ f.2.length ≤ maxLen) := by
  obtain ⟨a0, len, cap, rfl⟩ := WideShapes.okWide_slice Tryd.underlying22 hok
  obtain ⟨fuel, hf⟩ := h
  have c1 : Tryd.prog.cellsOf 9 = 1 := by kernel_rfl
  have c2 : Tryd.prog.cellsOf 36 = 2 := by kernel_rfl
  rcases Deep.open_slice_pairs Tryd.underlying22 Tryd.underlying36 c2 rfl rfl c1 c1 hf with ⟨hcs, hx⟩ | ⟨a, len', cap', m, n, V0, V1, D0, D1, P0, P1, hcs, _, hl, hm, hmm, hx, hall⟩
  · simp [Value.cells] at hcs
    obtain ⟨rfl, rfl, rfl⟩ := hcs
    exact ⟨[], Or.inl ⟨rfl, _, _, rfl⟩, Nat.zero_le _, fun f hf => by cases hf⟩
  · simp [Value.cells] at hcs
    obtain ⟨rfl, rfl, rfl⟩ := hcs
    simp only [if_true] at hmm
    subst hmm
    have each : ∀ i, i < m → ∃ f : Fld, W.cell? (a.add (i * 2)) = some (sv f.1) ∧ W.cell? (a.add (i * 2 + 1)) = some (sv f.2) ∧ f.1.length ≤ maxLen ∧ f.2.length ≤ maxLen := fun i hi => by
      obtain ⟨h0, h1, h2, h3⟩ := hall i hi
      obtain ⟨s, hs, hsz⟩ := trod_text h2
      obtain ⟨u, hu, huz⟩ := trod_text h3
      refine ⟨(s.data.toList, u.data.toList), by rw [h0, hs]; rfl, by rw [h1, hu]; rfl, ?_, ?_⟩
      · show s.data.toList.length ≤ maxLen; rw [Array.length_toList]; exact hsz
      · show u.data.toList.length ≤ maxLen; rw [Array.length_toList]; exact huz
    obtain ⟨F, hF⟩ := Deep.choose_lt each
    have hln : ((List.range len).map F).length = len := by simp
    have hget : ∀ j, j < len → ((List.range len).map F).getD j nofld = F j := fun j hj => by simp [List.getD, hj]
    refine ⟨(List.range len).map F, ?_, by rw [hln]; omega, ?_⟩
    · by_cases hl0 : len = 0
      · subst hl0; exact Or.inl ⟨by simp, _, _, rfl⟩
      · obtain ⟨b, off, spot⟩ := a
        have hspot : spot = none := by simpa [Addr.add] using World.cell?_spot (hF 0 (by omega)).1
        subst hspot
        have hc : At W b off ((List.range len).map F) := fun j hj => by
          rw [hln] at hj
          rw [hget j hj, ← WideShapes.add_plain, Nat.add_assoc, ← WideShapes.add_plain]
          exact ⟨(hF j (by omega)).1, (hF j (by omega)).2.1⟩
        exact Or.inr ⟨by omega, b, off, _, by rw [hln], at_lt hc (by omega), by omega, hc⟩
    · intro f hf
      obtain ⟨i, hi, rfl⟩ := List.mem_map.1 hf
      have hi' := List.mem_range.1 hi
      exact (hF i (by omega)).2.2

/-- One field's size. -/
theorem size_one (f : Fld) (left : Int) (w : World) (h1 : f.1.length ≤ maxLen) (h2 : f.2.length ≤ maxLen) (h0 : 0 ≤ left) (h3 : left ≤ 1048576) :
    Calls Tryd.prog 13 #[fv f, .int .i64 left] w fun e w' => ∃ z : Int, e = .returned (.int .i64 z) ∧ (z < 0 ∨ (0 ≤ z ∧ z + (f.1.length + f.2.length : Int) = left)) ∧ Below w.heap.size w w' := by
  obtain ⟨x, y⟩ := f
  unfold maxLen at h1 h2
  simp only at h1 h2 ⊢
  have hsx : (⟨x.toArray⟩ : ByteArray).size = x.length := by simp [ByteArray.size]
  have hsy : (⟨y.toArray⟩ : ByteArray).size = y.length := by simp [ByteArray.size]
  unfold fv sv
  have HB := Lib.hid ((Below.refl w.heap.size w).alloc (Nat.le_refl _) (.cells #[.string ⟨x.toArray⟩, .string ⟨y.toArray⟩] 36))
  by_cases hn1 : left - (x.length : Int) < 0
  · go_enter Tryd.func13, Tryd.ntmps13
    go_wp2
    go_ret
    exact ⟨_, rfl, Or.inl (by omega), HB.out⟩
  · by_cases hn2 : left - (x.length : Int) - (y.length : Int) < 0
    · go_enter Tryd.func13, Tryd.ntmps13
      go_wp2
      go_ret
      exact ⟨_, rfl, Or.inl (by omega), HB.out⟩
    · go_enter Tryd.func13, Tryd.ntmps13
      go_wp2
      go_ret
      exact ⟨_, rfl, Or.inr ⟨by omega, by omega⟩, HB.out⟩

/-- What szFieldS answers: not below 0 just where the size is at most what is left. -/
def Sized (l : List Fld) (left : Int) (w : World) (e : Ending) (w' : World) : Prop := ∃ z : Int, e = .returned (.int .i64 z) ∧ (z < 0 ∨ (0 ≤ z ∧ z + total l = left)) ∧ Below w.heap.size w w'

theorem size_nil (a : Option Addr) (cap : Nat) (left : Int) (w : World) (h0 : 0 ≤ left) (h3 : left ≤ 1048576) :
    Calls Tryd.prog 4 #[.slice a 0 cap, .int .i64 left] w (Sized [] left w) := by
  go_enter Tryd.func4, Tryd.ntmps4
  go_wp2
  go_loop [1, 5] (fun l i => i = .int .i64 0 ∧ l = .int .i64 left) (fun _ i => 0)
  case atStart => exact ⟨rfl, by simp⟩
  case round =>
    obtain ⟨rfl, rfl⟩ := hrel
    go_wp2
    go_ret
    exact ⟨_, rfl, Or.inr ⟨by omega, by simp [total_nil]⟩, Below.refl _ _⟩

set_option maxHeartbeats 1000000 in
theorem size_some (b off cap : Nat) (l : List Fld) (left : Int) (w : World) (hc : At w b off l) (h0 : 0 < l.length) (hl : l.length ≤ maxLen) (hx : ∀ f ∈ l, f.1.length ≤ maxLen ∧ f.2.length ≤ maxLen) (hl0 : 0 ≤ left) (hl3 : left ≤ 1048576) :
    Calls Tryd.prog 4 #[.slice (some ⟨b, off, none⟩) l.length cap, .int .i64 left] w (Sized l left w) := by
  have hbl := at_lt hc h0
  have HC := Lib.hid hc
  have HX := Lib.hid hx
  unfold maxLen at hl
  clear hc hx
  by_cases hn : left - (l.length : Int) < 0
  · go_enter Tryd.func4, Tryd.ntmps4
    go_wp2
    go_ret
    exact ⟨_, rfl, Or.inl (by omega), Below.refl _ _⟩
  · go_enter Tryd.func4, Tryd.ntmps4
    go_wp2
    go_loopw [1, 5] (fun q i wr => ∃ k : Nat, k ≤ l.length ∧ i = .int .i64 (k : Int) ∧ 0 ≤ left - (l.length : Int) - (pre l k : Int) ∧ q = .int .i64 (left - (l.length : Int) - (pre l k : Int)) ∧ Below w.heap.size w wr) (fun _ i _ => l.length - (intOf i).toNat)
    case atStart => exact ⟨0, Nat.zero_le _, rfl, by rw [pre_zero]; omega, by rw [pre_zero]; simp, Below.refl _ _⟩
    case round =>
      obtain ⟨k, hk, rfl, hp, rfl, hb⟩ := hrel
      by_cases hlt : k < l.length
      · obtain ⟨c1, c2⟩ := at_below HC.out hb hbl k hlt
        have hm : l.getD k nofld ∈ l := by
          rw [show l.getD k nofld = l[k] by simp [List.getD, hlt]]; exact List.getElem_mem _
        have HX1 := Lib.hid (HX.out _ hm)
        have HP := Lib.hid (pre_more hlt)
        clear hm
        generalize hy : l.getD k nofld = f at c1 c2 HP HX1
        clear hy
        generalize hr : left - (l.length : Int) - (pre l k : Int) = r at hp ⊢
        have hr' := Lib.hid hr
        clear hr
        have HR : Hid (r ≤ 1048576) := Lib.hid (by have := hr'.out; omega)
        have HB := Lib.hid hb
        clear hb
        obtain ⟨x, y⟩ := f
        unfold sv at c1 c2
        go_wp2_with (go_at_call 13; refine (size_one (x, y) r wr HX1.out.1 HX1.out.2 hp HR.out).mono ?_; rintro e w' ⟨z, rfl, hz, hb1⟩; have HB1 := Lib.hid (Base.then_below HB.out (hb1.mono (Nat.le_refl _))); clear hb1)
        · go_ret
          exact ⟨_, rfl, Or.inl (by decide), HB1.out⟩
        · have hr2 := hr'.out
          have hz' : z + ((x.length : Int) + (y.length : Int)) = r := by omega
          go_roundw
          case rel => exact ⟨k + 1, by omega, by go_num, by rw [HP.out]; omega, by rw [HP.out]; congr 1; omega, HB1.out⟩
          case measure => simp [intOf]; omega
      · have HT := Lib.hid (pre_all (l := l) (k := k) (by omega))
        go_wp2
        go_ret
        exact ⟨_, rfl, Or.inr ⟨hp, by rw [HT.out]; omega⟩, hb⟩

theorem size_any (v : Value) (B : Nat) (l : List Fld) (left : Int) (w : World) (h : Holds w B v l) (hl : l.length ≤ maxLen) (hx : ∀ f ∈ l, f.1.length ≤ maxLen ∧ f.2.length ≤ maxLen) (h0 : 0 ≤ left) (h3 : left ≤ 1048576) :
    Calls Tryd.prog 4 #[v, .int .i64 left] w (Sized l left w) := by
  rcases h with ⟨rfl, a, cap, rfl⟩ | ⟨hp, b, off, cap, rfl, _, _, hc⟩
  · exact size_nil a cap left w h0 h3
  · exact size_some b off cap l left w hc hp hl hx h0 h3
end Go.Proofs.YtbkjioggohjnfaaDoor.Flds
