/-
  CONTRACT of slices.SortFunc at a slice of spans that the call has built, with the comparison that joinSpans hands to it: the slice's block then holds the same spans in the order of their beginnings, and nothing else is changed.
-/
import Derived.Test.YtegaakgmfphcaaaSpnIs
import Derived.Test.YtegaakgmfphcaaaSpnM2
import Derived.Test.YtegaakgmfphcaaaShelf
import Derived.Test.YtegaakgmfphcaaaSort
namespace Go.Proofs.Ytegaakgmfphcaaa.Spn
open Go Go.RowKit
set_option linter.unusedVariables false
set_option maxRecDepth 1000000

abbrev cf (x y : T) : Int := Lib.compareInt x.1 y.1
theorem lt_from (x y : T) : ltOf cf x y = decide (x.1 < y.1) := by
  unfold ltOf cf Lib.compareInt
  by_cases h1 : x.1 < y.1
  · simp [h1]
  · by_cases h2 : y.1 < x.1 <;> simp [h1, h2]
theorem swo : Sort.SWO (ltOf cf) where
  irrefl x := by rw [lt_from]; simp
  trans x y z h1 h2 := by rw [lt_from] at *; simp at *; omega
  ntrans x y z h1 h2 := by rw [lt_from] at *; simp at *; omega

set_option maxHeartbeats 1000000 in
theorem closure (x y : T) (W : World) : Calls Try.prog 33 #[.agg #[.int .i64 x.1, .int .i64 x.2], .agg #[.int .i64 y.1, .int .i64 y.2]] W fun e w' => e = .returned (.int .i64 (Lib.compareInt x.1 y.1)) ∧ ∃ q os', w' = Sort.grow (W.drewN q) os' := by
  obtain ⟨x1, x2⟩ := x
  obtain ⟨y1, y2⟩ := y
  dsimp only
  have hcon := fun W' => Try.cmp_Compare_int x1 y1 W'
  generalize Lib.compareInt x1 y1 = r at hcon ⊢
  go_enter Try.func33, Try.ntmps33
  go_wp2_with (go_at_call 34; refine (hcon _).mono ?_; rintro e w' ⟨rfl, rfl⟩)
  go_ret
  exact ⟨rfl, 0, _, by rw [Sort.alloc_eq_grow, Sort.alloc_eq_grow, Sort.grow_grow]; rfl⟩

theorem holdsK_of_own {w : World} {B g cap : Nat} {d : List T} (ho : w.ownsRow B 26 2 (.slice (some ⟨g, 0, none⟩) d.length cap) d.length (fcs d)) : Sort.HoldsK cs 2 w g 0 d.toArray := by
  intro t ht
  rw [Sort.size_flatK] at ht
  have ht' : t < d.length * 2 := by simpa using ht
  show w.cell? ⟨g, 0 + t, none⟩ = some (Sort.flatK cs 2 d.toArray)[t]! ∧ w.frozen? ⟨g, 0 + t, none⟩ = false
  rw [Sort.get_flatK _ _ _ _ ht, Nat.zero_add]
  refine ⟨?_, ho.frozenAt t⟩
  have hj : t / 2 < d.length := by omega
  have e : d.toArray[t / 2]! = d.getD (t / 2) nov := by rw [getElem!_pos d.toArray (t / 2) (by simpa using hj)]; simp [List.getD, hj]
  rw [ho.cellAt t ht', e]
  have h1 := Rec.flat_at (n := 2) (z := nov) (cs := cs) cs_len hj (i := t % 2) (u := (cs (d.getD (t / 2) nov))[t % 2]!) (by
    rw [List.getElem?_eq_getElem (by rw [cs_len]; omega), getElem!_pos _ _ (by rw [cs_len]; omega)])
  rw [show t / 2 * 2 + t % 2 = t by omega] at h1
  exact h1
theorem at_of_holdsK {w : World} {g : Nat} {d : Array T} (h : Sort.HoldsK cs 2 w g 0 d) : At w g 0 d.toList := by
  intro j hj i u hu
  have hj' : j < d.size := by simpa using hj
  have hi : i < 2 := by
    rcases Nat.lt_or_ge i 2 with h' | h'
    · exact h'
    · rw [List.getElem?_eq_none (by rw [cs_len]; exact h')] at hu; cases hu
  have e : d.toList.getD j nov = d[j]! := by rw [getElem!_pos d j hj']; simp [List.getD, hj']
  rw [e, List.getElem?_eq_getElem (by rw [cs_len]; exact hi)] at hu
  have h1 := (h.cell hj' hi).1
  rw [getElem!_pos _ _ (by rw [cs_len]; exact hi)] at h1
  rw [h1]; exact hu
theorem grown_sort (w : World) (g n : Nat) (d : Array T) (os : Array Obj) : w.grownBy (sortWorldK cs 2 w g 0 n d os) (some g) := by
  refine ⟨rfl, rfl, rfl, ?_, fun k hk hne => ?_⟩
  · show w.heap.size ≤ ((w.heap.modify g _) ++ os).size
    simp
  · show ((w.heap.modify g _) ++ os)[k]? = w.heap[k]?
    rw [Array.getElem?_append_left (by simpa using hk), Array.getElem?_modify, if_neg (fun e => hne (by rw [e]))]
theorem sorted_of {d : Array T} (h : Sort.SortedIn (ltOf cf) 0 d.size d) : sorted d.toList := by
  unfold sorted
  rw [List.pairwise_iff_getElem]
  intro i j hi hj hij
  have hi' : i < d.size := by simpa using hi
  have hj' : j < d.size := by simpa using hj
  have h1 := h i j (Nat.zero_le _) hij hj'
  rw [lt_from, getElem!_pos d i hi', getElem!_pos d j hj'] at h1
  simp only [decide_eq_false_iff_not] at h1
  rw [Array.getElem_toList, Array.getElem_toList]; omega

def SortEnd (d : List T) (g : Nat) (w : World) (e : Ending) (w' : World) : Prop := e = .returned (.tuple #[]) ∧ ∃ d' : List T, d'.Perm d ∧ sorted d' ∧ At w' g 0 d' ∧ w.grownBy w' (some g)
theorem sort_spans (B g cap : Nat) (d : List T) (w : World) (ho : w.ownsRow B 26 2 (.slice (some ⟨g, 0, none⟩) d.length cap) d.length (fcs d)) (hl : d.length ≤ 8388608) :
    Calls Try.prog 32 #[.slice (some ⟨g, 0, none⟩) d.length cap, .func (.func 33) #[] #[]] w (SortEnd d g w) := by
  have eg : ∀ args w, (callFunc 33 args).run Try.prog w = .ok (.enter 33 args) w := enters_of Try.func33 (by kernel_rfl) rfl
  have hg : g < w.heap.size := (ho.lt g rfl).2
  have hz : d.toArray.size = d.length := by simp
  have hcon := AnyQ.slices_SortFunc Try.sortSpan 2 Try.isAgg26 Try.sizeOf26 cs cs_len cs_one cf swo 33 #[] g 0 cap d.toArray w eg (fun _ _ _ _ x y => closure x y _) (holdsK_of_own ho) hg (by rw [hz]; omega)
  change Calls Try.prog 32 _ _ _ at hcon
  rw [hz] at hcon
  refine hcon.mono ?_
  rintro e w' ⟨rfl, d', n, os, hp, hs, rfl⟩
  have hsz : d'.size = d.length := by rw [← hz]; exact hp.1
  refine ⟨rfl, d'.toList, ?_, sorted_of (by rw [hsz]; exact hs), at_of_holdsK (holdsK_sortWorldK_c cs 2 w g 0 d.toArray d' n os (holdsK_of_own ho) hg (by rw [hsz, hz])), grown_sort _ _ _ _ _⟩
  have h3 := hp.2.2
  have e1 : d'.extract 0 d.length = d' := by rw [← hsz]; simp
  have e2 : d.toArray.extract 0 d.length = d.toArray := by simp
  rw [e1, e2] at h3
  simpa using h3
end Go.Proofs.Ytegaakgmfphcaaa.Spn
