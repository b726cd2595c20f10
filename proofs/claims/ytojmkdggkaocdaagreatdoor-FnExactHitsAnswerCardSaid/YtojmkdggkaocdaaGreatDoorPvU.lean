/-
  CONTRACTS AND PLAIN FACTS, several texts in one; each says in its own words what it proves.
-/
import Derived.Test.YtojmkdggkaocdaaGreatDoorPvK
import Derived.LoopTactic
import Derived.Outline
import Derived.Test.YtojmkdggkaocdaaGreatDoorPvA
import Derived.Deep.QuietTactic
import Derived.BigQuiet

/-
  CONTRACTS of QualityOf, the model's and the program's: the weight of the first element with a name, else that of the first star, else 0; nothing that was there before is changed.
-/
namespace Go.Proofs.YtojmkdggkaocdaaGreatDoor.Qua
open Go Go.RowKit
set_option linter.unusedVariables false
set_option maxRecDepth 1000000

/-- The weight of the first element with this name. -/
def fst1 (n : List UInt8) (l : List T) : Option Int := (l.find? (fun f => f.1 == n)).map (·.2)
def star (l : List T) : Int := (fst1 [42] l).getD 0
def qof (n : List UInt8) (l : List T) : Int := (fst1 n l).getD (star l)
theorem star_nil : star [] = 0 := rfl
theorem star_drop {l : List T} {k : Nat} (h : k < l.length) : star (l.drop k) = if (l.getD k nov).1 = [42] then (l.getD k nov).2 else star (l.drop (k + 1)) := by
  rw [List.drop_eq_getElem_cons h]
  unfold star fst1
  rw [List.find?_cons]
  have e : l.getD k nov = l[k] := by simp [List.getD, h]
  rw [e]
  by_cases h1 : l[k].1 = [42]
  · simp [h1]
  · have : (l[k].1 == [42]) = false := by simpa using h1
    simp [h1, this]
def No (n : List UInt8) (l : List T) (k : Nat) : Prop := ∀ j, j < k → (l.getD j nov).1 ≠ n
theorem no_zero (n : List UInt8) (l : List T) : No n l 0 := fun j hj => absurd hj (by omega)
theorem no_more {n : List UInt8} {l : List T} {k : Nat} (h : No n l k) (e : (l.getD k nov).1 ≠ n) : No n l (k + 1) := fun j hj => by
  rcases Nat.lt_or_ge j k with h' | h'
  · exact h j h'
  · have : j = k := by omega
    subst this; exact e
theorem fst1_hit {n : List UInt8} {l : List T} {k : Nat} (h : k < l.length) (hn : No n l k) (e : (l.getD k nov).1 = n) : fst1 n l = some (l.getD k nov).2 := by
  unfold fst1
  have hf : l.find? (fun f => f.1 == n) = some (l.getD k nov) := by
    rw [List.find?_eq_some_iff_append]
    refine ⟨by simpa using e, l.take k, l.drop (k + 1), ?_, ?_⟩
    · have e2 : l.getD k nov = l[k] := by simp [List.getD, h]
      rw [e2, ← List.drop_eq_getElem_cons h, List.take_append_drop]
    · intro a ha
      obtain ⟨j, hj, rfl⟩ := List.getElem_of_mem ha
      have hj' : j < k := by simp at hj; omega
      have := hn j hj'
      rw [show l.getD j nov = l[j]'(by omega) by simp [List.getD, show j < l.length by omega]] at this
      simp [List.getElem_take, this]
  rw [hf]; rfl
theorem fst1_miss {n : List UInt8} {l : List T} {k : Nat} (h : ¬ k < l.length) (hn : No n l k) : fst1 n l = none := by
  unfold fst1
  have : l.find? (fun f => f.1 == n) = none := by
    rw [List.find?_eq_none]
    intro a ha
    obtain ⟨j, hj, rfl⟩ := List.getElem_of_mem ha
    have := hn j (by omega)
    rw [show l.getD j nov = l[j] by simp [List.getD, hj]] at this
    simpa using this
  rw [this]; rfl
theorem qof_hit {n : List UInt8} {l : List T} {k : Nat} (h : k < l.length) (hn : No n l k) (e : (l.getD k nov).1 = n) : qof n l = (l.getD k nov).2 := by unfold qof; rw [fst1_hit h hn e]; rfl
theorem qof_miss {n : List UInt8} {l : List T} {k : Nat} (h : ¬ k < l.length) (hn : No n l k) : qof n l = star l := by unfold qof; rw [fst1_miss h hn]; rfl
theorem qof_star {n : List UInt8} {l : List T} {k m : Nat} (h : ¬ k < l.length) (hn : No n l k) (h2 : m < l.length) (hs : No [42] l m) (e : (l.getD m nov).1 = [42]) : qof n l = (l.getD m nov).2 := by
  rw [qof_miss h hn]; unfold star; rw [fst1_hit h2 hs e]; rfl
theorem qof_none {n : List UInt8} {l : List T} {k m : Nat} (h : ¬ k < l.length) (hn : No n l k) (h2 : ¬ m < l.length) (hs : No [42] l m) : qof n l = 0 := by
  rw [qof_miss h hn]; unfold star; rw [fst1_miss h2 hs]; rfl
theorem ret_int {a b : Int} (h : a = b) : Ending.returned (.int .i64 a) = .returned (.int .i64 b) := by rw [h]
def QofEnd (n : List UInt8) (l : List T) (w : World) (e : Ending) (w' : World) : Prop := e = .returned (.int .i64 (qof n l)) ∧ Below w.heap.size w w'
theorem shape {w : World} {B : Nat} {v : Value} {l : List T} (h : Holds w B v l) : ∃ a cap, v = .slice a l.length cap ∧ (0 < l.length → ∃ b off, a = some ⟨b, off, none⟩ ∧ b < B ∧ At w b off l) := by
  rcases h with ⟨rfl, a, cap, rfl⟩ | ⟨_, b, off, cap, rfl, hb, _, hc⟩
  · exact ⟨a, cap, rfl, fun h => absurd h (by simp)⟩
  · exact ⟨_, cap, rfl, fun _ => ⟨b, off, rfl, hb, hc⟩⟩

set_option maxHeartbeats 2000000 in
theorem spec_qof (v : Value) (B : Nat) (l : List T) (n : List UInt8) (w : World) (h : Holds w B v l) (hB : B ≤ w.heap.size) (hl : l.length ≤ 4194304) :
    Calls Tryz.prog 98 #[v, .string ⟨n.toArray⟩] w (QofEnd n l w) := by
  obtain ⟨a, cap, rfl, ha⟩ := shape h
  have HA := Lib.hid ha
  clear ha h
  go_enter Tryz.func98, Tryz.ntmps98
  go_wp2
  go_loopw [5, 6] (fun q i wr => ∃ k : Nat, k ≤ l.length ∧ i = .int .i64 ((k : Int) - 1) ∧ q = .int .i64 (star (l.drop k)) ∧ Below w.heap.size w wr) (fun _ i _ => (intOf i + 1).toNat)
  case atStart => exact ⟨l.length, Nat.le_refl _, rfl, by rw [List.drop_length]; rfl, Below.refl _ _⟩
  case round =>
    obtain ⟨k, hk, rfl, rfl, hb⟩ := hrel
    have HB := Lib.hid hb
    by_cases h0 : 0 < k
    · obtain ⟨b, off, rfl, hbw, hc⟩ := HA.out (by omega)
      obtain ⟨j, rfl⟩ : ∃ j, k = j + 1 := ⟨k - 1, by omega⟩
      have hlt : j < l.length := by omega
      obtain ⟨c0, c1⟩ := at_cells (at_below hc hb (Nat.lt_of_lt_of_le hbw hB)) hlt
      have HS := Lib.hid (star_drop hlt)
      clear hb hc
      have hj : ((j + 1 : Nat) : Int) - 1 = (j : Int) := by omega
      rw [hj]
      generalize l.getD j nov = f at c0 c1 HS
      obtain ⟨x, y⟩ := f
      dsimp only at c0 c1 HS
      generalize star (l.drop (j + 1)) = q at HS ⊢
      by_cases e : x = [42]
      · subst e
        have HE : Hid (star (l.drop j) = y) := Lib.hid (by rw [HS.out, if_pos rfl])
        clear HS
        go_wp2
        go_roundw
        case rel => exact ⟨j, by omega, by go_num, by rw [HE.out], HB.out⟩
        case measure => first | (simp [intOf]; omega) | simp [intOf]
      · have HE : Hid (star (l.drop j) = q) := Lib.hid (by rw [HS.out, if_neg e])
        have hq : (x == [42]) = false := by simpa using e
        clear HS e
        go_wp2
        go_roundw
        case rel => exact ⟨j, by omega, by go_num, by rw [HE.out], HB.out⟩
        case measure => first | (simp [intOf]; omega) | simp [intOf]
    · obtain rfl : k = 0 := by omega
      have HZ : Hid (star (l.drop 0) = star l) := Lib.hid (by rw [List.drop_zero])
      rw [HZ.out]
      generalize hst : star l = st
      have HST := Lib.hid hst
      clear hst hb HZ
      go_wp2
      go_loopw [7] (fun i wr => ∃ k : Nat, k ≤ l.length ∧ i = .int .i64 (k : Int) ∧ Hid (No n l k) ∧ Below w.heap.size w wr) (fun i _ => l.length - (intOf i).toNat)
      case atStart => exact ⟨0, Nat.zero_le _, rfl, Lib.hid (no_zero n l), HB.out⟩
      case round =>
        clear HB
        obtain ⟨k, hk, rfl, HN, hb⟩ := hrel
        have HB := Lib.hid hb
        by_cases hlt : k < l.length
        · obtain ⟨b, off, rfl, hbw, hc⟩ := HA.out (by omega)
          obtain ⟨c0, c1⟩ := at_cells (at_below hc hb (Nat.lt_of_lt_of_le hbw hB)) hlt
          clear hb hc
          by_cases e : (l.getD k nov).1 = n
          · have HE := Lib.hid (qof_hit hlt HN.out e)
            rw [e] at c0
            generalize (l.getD k nov).2 = y at c1 HE
            clear e
            go_wp2
            go_ret
            exact ⟨ret_int HE.out.symm, HB.out⟩
          · have HM := Lib.hid (no_more HN.out e)
            generalize (l.getD k nov).1 = x at c0 e
            have hq : (x == n) = false := by simpa using e
            clear c1 e
            go_wp2
            go_roundw
            case rel => exact ⟨k + 1, by omega, by go_num, HM, HB.out⟩
            case measure => first | (simp [intOf]; omega) | simp [intOf]
        · have HE : Hid (st = qof n l) := Lib.hid (by rw [qof_miss hlt HN.out, HST.out])
          clear hb
          go_wp2
          go_ret
          exact ⟨ret_int HE.out, HB.out⟩

set_option maxHeartbeats 2000000 in
theorem impl_qof (v : Value) (B : Nat) (l : List T) (n : List UInt8) (w : World) (h : Holds w B v l) (hB : B ≤ w.heap.size) (hl : l.length ≤ 4194304) :
    Calls Tryz.prog 111 #[v, .string ⟨n.toArray⟩] w (QofEnd n l w) := by
  obtain ⟨a, cap, rfl, ha⟩ := shape h
  have HA := Lib.hid ha
  have HL : Hid (∀ wr : World, Below (w.heap.size + 1) (w.alloc (.cells #[.string ⟨n.toArray⟩, .string ⟨#[42]⟩] 9)) wr → (wr.cell? ⟨w.heap.size, 0, none⟩ = some (.string ⟨n.toArray⟩) ∧ wr.cell? ⟨w.heap.size, 1, none⟩ = some (.string ⟨#[42]⟩)) ∧ Below w.heap.size w wr) := Lib.hid (fun wr hb => by
    refine ⟨⟨?_, ?_⟩, ((Below.refl _ _).alloc (Nat.le_refl _) _).trans (hb.mono (by omega))⟩
    · rw [hb.cell (p := ⟨w.heap.size, 0, none⟩) (by simp), World.cell?_alloc_new]; rfl
    · rw [hb.cell (p := ⟨w.heap.size, 1, none⟩) (by simp), World.cell?_alloc_new]; rfl)
  clear ha h
  go_enter Tryz.func111, Tryz.ntmps111
  go_wp2
  go_loopw [6, 12, 18] (fun u i z wr => ∃ k : Nat, k ≤ 2 ∧ i = .int .i64 (k : Int) ∧ Hid (1 ≤ k → No n l l.length) ∧ Hid (2 ≤ k → No [42] l l.length) ∧ Below (w.heap.size + 1) (w.alloc (.cells #[.string ⟨n.toArray⟩, .string ⟨#[42]⟩] 9)) wr) (fun _ i _ _ => 2 - (intOf i).toNat)
  case atStart => exact ⟨0, by omega, rfl, Lib.hid (fun h => absurd h (by omega)), Lib.hid (fun h => absurd h (by omega)), Below.refl _ _⟩
  case round =>
    obtain ⟨k, hk, rfl, H1, H2, hb⟩ := hrel
    have HB := Lib.hid hb
    obtain ⟨⟨d0, d1⟩, hbw⟩ := HL.out _ hb
    have HW := Lib.hid hbw
    clear hb hbw
    by_cases hk2 : k < 2
    · rcases (show k = 0 ∨ k = 1 by omega) with rfl | rfl
      · clear H1 H2
        go_wp2
        go_loopw [18] (fun z wr => ∃ m : Nat, m ≤ l.length ∧ z = .int .i64 (m : Int) ∧ Hid (No n l m) ∧ Below (w.heap.size + 1) (w.alloc (.cells #[.string ⟨n.toArray⟩, .string ⟨#[42]⟩] 9)) wr) (fun z _ => l.length - (intOf z).toNat)
        case atStart => exact ⟨0, Nat.zero_le _, rfl, Lib.hid (no_zero n l), HB.out⟩
        case round =>
          clear HB HW d0 d1
          obtain ⟨m, hm, rfl, HN, hb⟩ := hrel
          have HB := Lib.hid hb
          obtain ⟨_, hbw⟩ := HL.out _ hb
          have HW := Lib.hid hbw
          by_cases hlt : m < l.length
          · obtain ⟨b, off, rfl, hbl, hc⟩ := HA.out (by omega)
            obtain ⟨c0, c1⟩ := at_cells (at_below hc hbw (Nat.lt_of_lt_of_le hbl hB)) hlt
            have HBA : Hid (∀ a : Array Value, Below (w.heap.size + 1) (w.alloc (.cells #[.string ⟨n.toArray⟩, .string ⟨#[42]⟩] 9)) (wr.alloc (.cells a 152))) := Lib.hid (fun a => HB.out.alloc (Nat.le_trans (by simp) HB.out.size) _)
            have HBW : Hid (∀ a : Array Value, Below w.heap.size w (wr.alloc (.cells a 152))) := Lib.hid (fun a => HW.out.alloc HW.out.size _)
            clear hb hbw hc
            by_cases e : (l.getD m nov).1 = n
            · have HE : Hid (qof n l = (l.getD m nov).2) := Lib.hid (qof_hit hlt HN.out e)
              rw [e] at c0
              generalize (l.getD m nov).2 = y at c1 HE
              clear e
              go_wp2
              go_ret
              exact ⟨ret_int HE.out.symm, HBW.out _⟩
            · have HM := Lib.hid (no_more HN.out e)
              generalize l.getD m nov = f at c0 c1 e
              obtain ⟨x, y⟩ := f
              dsimp only at c0 c1 e
              have hq := beq_false_of_ne e
              clear e
              go_wp2
              go_roundw
              case rel => exact ⟨m + 1, by omega, by go_num, HM, HBA.out _⟩
              case measure => first | (simp [intOf]; omega) | simp [intOf]
          · have HNN : Hid (No n l l.length) := Lib.hid (by have h := HN.out; rw [show m = l.length by omega] at h; exact h)
            clear hb hbw
            go_wp2
            go_roundw
            case rel => exact ⟨1, by omega, by go_num, Lib.hid (fun _ => HNN.out), Lib.hid (fun h => absurd h (by omega)), HB.out⟩
            case measure => simp [intOf]
      · have H1' := Lib.hid (H1.out (by omega))
        clear H1 H2
        go_wp2
        go_loopw [18] (fun z wr => ∃ m : Nat, m ≤ l.length ∧ z = .int .i64 (m : Int) ∧ Hid (No [42] l m) ∧ Below (w.heap.size + 1) (w.alloc (.cells #[.string ⟨n.toArray⟩, .string ⟨#[42]⟩] 9)) wr) (fun z _ => l.length - (intOf z).toNat)
        case atStart => exact ⟨0, Nat.zero_le _, rfl, Lib.hid (no_zero [42] l), HB.out⟩
        case round =>
          clear HB HW d0 d1
          obtain ⟨m, hm, rfl, HN, hb⟩ := hrel
          have HB := Lib.hid hb
          obtain ⟨_, hbw⟩ := HL.out _ hb
          have HW := Lib.hid hbw
          by_cases hlt : m < l.length
          · obtain ⟨b, off, rfl, hbl, hc⟩ := HA.out (by omega)
            obtain ⟨c0, c1⟩ := at_cells (at_below hc hbw (Nat.lt_of_lt_of_le hbl hB)) hlt
            have HBA : Hid (∀ a : Array Value, Below (w.heap.size + 1) (w.alloc (.cells #[.string ⟨n.toArray⟩, .string ⟨#[42]⟩] 9)) (wr.alloc (.cells a 152))) := Lib.hid (fun a => HB.out.alloc (Nat.le_trans (by simp) HB.out.size) _)
            have HBW : Hid (∀ a : Array Value, Below w.heap.size w (wr.alloc (.cells a 152))) := Lib.hid (fun a => HW.out.alloc HW.out.size _)
            clear hb hbw hc
            by_cases e : (l.getD m nov).1 = [42]
            · have HE : Hid (qof n l = (l.getD m nov).2) := Lib.hid (qof_star (k := l.length) (by omega) H1'.out hlt HN.out e)
              rw [e] at c0
              generalize (l.getD m nov).2 = y at c1 HE
              clear e
              go_wp2
              go_ret
              exact ⟨ret_int HE.out.symm, HBW.out _⟩
            · have HM := Lib.hid (no_more HN.out e)
              generalize l.getD m nov = f at c0 c1 e
              obtain ⟨x, y⟩ := f
              dsimp only at c0 c1 e
              have hq := beq_false_of_ne e
              clear e
              go_wp2
              go_roundw
              case rel => exact ⟨m + 1, by omega, by go_num, HM, HBA.out _⟩
              case measure => first | (simp [intOf]; omega) | simp [intOf]
          · have HNN : Hid (No [42] l l.length) := Lib.hid (by have h := HN.out; rw [show m = l.length by omega] at h; exact h)
            clear hb hbw
            go_wp2
            go_roundw
            case rel => exact ⟨2, by omega, by go_num, Lib.hid (fun _ => H1'.out), Lib.hid (fun _ => HNN.out), HB.out⟩
            case measure => simp [intOf]
    · obtain rfl : k = 2 := by omega
      have HE := Lib.hid (qof_none (n := n) (l := l) (k := l.length) (m := l.length) (by omega) (H1.out (by omega)) (by omega) (H2.out (by omega)))
      go_wp2
      go_ret
      exact ⟨ret_int HE.out.symm, HW.out⟩
end Go.Proofs.YtojmkdggkaocdaaGreatDoor.Qua

/-
  A REGION THAT DRAWS ITS ORDER, ALSO ONE WITH CALLS THAT MAKE MEMORY: one walk, in the order of the text, in whatever world of a class S that each call keeps.
-/
namespace Go.Proofs.YtojmkdggkaocdaaGreatDoor.RegS
open Go Go.RowKit
set_option linter.unusedVariables false
set_option maxRecDepth 1000000

/-- A world of the class. -/
structure In (S : World → Prop) where
  w : World
  h : S w
theorem region {P : Program} {id : Nat} {Q : Exit → Act → World → Prop} {a : Act} {w : World} {l : List Oper} (S : World → Prop) (hm : P.follows .mixedOrders = true) (hB : Region.lexB .any l.toArray = true) (hS : S w.drew)
    (h : wpQuiet P l.toArray (fun w' => ∃ u : In S, w' = u.w) (fun a' => ∀ w', (∃ u : In S, w' = u.w) → Q .normal a' w') l a) : (Code.region id l.toArray true).wp P Q a w :=
  wp_region_quiet (C := fun w' => ∃ u : In S, w' = u.w) hm hB ⟨⟨w.drew, hS⟩, rfl⟩ (by simpa using h)
theorem call {P : Program} {f : FuncId} {args : Array Value} {S : World → Prop} {u : In S} {v : Value} {E : Ending → World → Prop}
    (h : Calls P f args u.w E) (hE : ∀ e w', E e w' → e = .returned v ∧ S w') : Calls P f args u.w fun e w'' => e = .returned v ∧ ∃ m : In S, w'' = m.w :=
  h.mono fun e w' he => ⟨(hE e w' he).1, ⟨w', (hE e w' he).2⟩, rfl⟩
end Go.Proofs.YtojmkdggkaocdaaGreatDoor.RegS
