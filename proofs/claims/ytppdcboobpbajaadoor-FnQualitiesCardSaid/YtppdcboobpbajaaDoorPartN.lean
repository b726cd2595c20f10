/-
  CONTRACTS AND PLAIN FACTS, several texts in one; each says in its own words what it proves.
-/
import Derived.Test.YtppdcboobpbajaaDoorPartH
import Derived.LoopTactic
import Derived.Outline
import Derived.Test.YtppdcboobpbajaaDoorPartA
import Derived.Deep.QuietTactic
import Derived.BigQuiet
import Derived.Test.YtppdcboobpbajaaDoorPartM
import Derived.Test.YtppdcboobpbajaaDoorPartK
set_option linter.unusedSimpArgs false
set_option linter.unusedVariables false

/-
  CONTRACTS of QualityOf, the model's and the program's: the weight of the first element with a name, else that of the first star, else 0; nothing that was there before is changed.
-/
namespace Go.Proofs.YtppdcboobpbajaaDoor.Qua
open Go Go.RowKit
set_option linter.unusedVariables false
set_option maxRecDepth 1000000

/-- The weight of the first element with this name. -/
def fst1 (n : List UInt8) (l : List T) : Option Int := (l.find? (fun f => f.1 == n)).map (·.2)
def star (l : List T) : Int := (fst1 [42] l).getD 0
def qof (n : List UInt8) (l : List T) : Int := (fst1 n l).getD (star l)
theorem star_nil : star [] = 0 := rfl
theorem star_drop {l : List T} {k : Nat} (h : k < l.length) : star (l.drop k) = if (l.getD k nov).1 = [42] then (l.getD k nov).2 else star (l.drop (k + 1)) := by
  rw [List.drop_eq_getElem_cons h]
  unfold star fst1
  rw [List.find?_cons]
  have e : l.getD k nov = l[k] := by simp [List.getD, h]
  rw [e]
  by_cases h1 : l[k].1 = [42]
  · simp [h1]
  · have : (l[k].1 == [42]) = false := by simpa using h1
    simp [h1, this]
def No (n : List UInt8) (l : List T) (k : Nat) : Prop := ∀ j, j < k → (l.getD j nov).1 ≠ n
theorem no_zero (n : List UInt8) (l : List T) : No n l 0 := fun j hj => absurd hj (by omega)
theorem no_more {n : List UInt8} {l : List T} {k : Nat} (h : No n l k) (e : (l.getD k nov).1 ≠ n) : No n l (k + 1) := fun j hj => by
  rcases Nat.lt_or_ge j k with h' | h'
  · exact h j h'
  · have : j = k := by omega
    subst this; exact e
theorem fst1_hit {n : List UInt8} {l : List T} {k : Nat} (h : k < l.length) (hn : No n l k) (e : (l.getD k nov).1 = n) : fst1 n l = some (l.getD k nov).2 := by
  unfold fst1
  have hf : l.find? (fun f => f.1 == n) = some (l.getD k nov) := by
    rw [List.find?_eq_some_iff_append]
    refine ⟨by simpa using e, l.take k, l.drop (k + 1), ?_, ?_⟩
    · have e2 : l.getD k nov = l[k] := by simp [List.getD, h]
      rw [e2, ← List.drop_eq_getElem_cons h, List.take_append_drop]
    · intro a ha
      obtain ⟨j, hj, rfl⟩ := List.getElem_of_mem ha
      have hj' : j < k := by simp at hj; omega
      have := hn j hj'
      rw [show l.getD j nov = l[j]'(by omega) by simp [List.getD, show j < l.length by omega]] at this
      simp [List.getElem_take, this]
  rw [hf]; rfl
theorem fst1_miss {n : List UInt8} {l : List T} {k : Nat} (h : ¬ k < l.length) (hn : No n l k) : fst1 n l = none := by
  unfold fst1
  have : l.find? (fun f => f.1 == n) = none := by
    rw [List.find?_eq_none]
    intro a ha
    obtain ⟨j, hj, rfl⟩ := List.getElem_of_mem ha
    have := hn j (by omega)
    rw [show l.getD j nov = l[j] by simp [List.getD, hj]] at this
    simpa using this
  rw [this]; rfl
theorem qof_hit {n : List UInt8} {l : List T} {k : Nat} (h : k < l.length) (hn : No n l k) (e : (l.getD k nov).1 = n) : qof n l = (l.getD k nov).2 := by unfold qof; rw [fst1_hit h hn e]; rfl
theorem qof_miss {n : List UInt8} {l : List T} {k : Nat} (h : ¬ k < l.length) (hn : No n l k) : qof n l = star l := by unfold qof; rw [fst1_miss h hn]; rfl
theorem qof_star {n : List UInt8} {l : List T} {k m : Nat} (h : ¬ k < l.length) (hn : No n l k) (h2 : m < l.length) (hs : No [42] l m) (e : (l.getD m nov).1 = [42]) : qof n l = (l.getD m nov).2 := by
  rw [qof_miss h hn]; unfold star; rw [fst1_hit h2 hs e]; rfl
theorem qof_none {n : List UInt8} {l : List T} {k m : Nat} (h : ¬ k < l.length) (hn : No n l k) (h2 : ¬ m < l.length) (hs : No [42] l m) : qof n l = 0 := by
  rw [qof_miss h hn]; unfold star; rw [fst1_miss h2 hs]; rfl
theorem ret_int {a b : Int} (h : a = b) : Ending.returned (.int .i64 a) = .returned (.int .i64 b) := by rw [h]
def QofEnd (n : List UInt8) (l : List T) (w : World) (e : Ending) (w' : World) : Prop := e = .returned (.int .i64 (qof n l)) ∧ Below w.heap.size w w'
theorem shape {w : World} {B : Nat} {v : Value} {l : List T} (h : Holds w B v l) : ∃ a cap, v = .slice a l.length cap ∧ (0 < l.length → ∃ b off, a = some ⟨b, off, none⟩ ∧ b < B ∧ At w b off l) := by
  rcases h with ⟨rfl, a, cap, rfl⟩ | ⟨_, b, off, cap, rfl, hb, _, hc⟩
  · exact ⟨a, cap, rfl, fun h => absurd h (by simp)⟩
  · exact ⟨_, cap, rfl, fun _ => ⟨b, off, rfl, hb, hc⟩⟩

set_option maxHeartbeats 2000000 in
theorem impl_qof (v : Value) (B : Nat) (l : List T) (n : List UInt8) (w : World) (h : Holds w B v l) (hB : B ≤ w.heap.size) (hl : l.length ≤ 4194304) :
    Calls Tryd.prog 10 #[v, .string ⟨n.toArray⟩] w (QofEnd n l w) := by
  obtain ⟨a, cap, rfl, ha⟩ := shape h
  have HA := Lib.hid ha
  have HL : Hid (∀ wr : World, Below (w.heap.size + 1) (w.alloc (.cells #[.string ⟨n.toArray⟩, .string ⟨#[42]⟩] 9)) wr → (wr.cell? ⟨w.heap.size, 0, none⟩ = some (.string ⟨n.toArray⟩) ∧ wr.cell? ⟨w.heap.size, 1, none⟩ = some (.string ⟨#[42]⟩)) ∧ Below w.heap.size w wr) := Lib.hid (fun wr hb => by
    refine ⟨⟨?_, ?_⟩, ((Below.refl _ _).alloc (Nat.le_refl _) _).trans (hb.mono (by omega))⟩
    · rw [hb.cell (p := ⟨w.heap.size, 0, none⟩) (by simp), World.cell?_alloc_new]; rfl
    · rw [hb.cell (p := ⟨w.heap.size, 1, none⟩) (by simp), World.cell?_alloc_new]; rfl)
  clear ha h
  go_enter Tryd.func10, Tryd.ntmps10
  go_wp2
  go_loopw [6, 12, 18] (fun u i z wr => ∃ k : Nat, k ≤ 2 ∧ i = .int .i64 (k : Int) ∧ Hid (1 ≤ k → No n l l.length) ∧ Hid (2 ≤ k → No [42] l l.length) ∧ Below (w.heap.size + 1) (w.alloc (.cells #[.string ⟨n.toArray⟩, .string ⟨#[42]⟩] 9)) wr) (fun _ i _ _ => 2 - (intOf i).toNat)
  case atStart => exact ⟨0, by omega, rfl, Lib.hid (fun h => absurd h (by omega)), Lib.hid (fun h => absurd h (by omega)), Below.refl _ _⟩
  case round =>
    obtain ⟨k, hk, rfl, H1, H2, hb⟩ := hrel
    have HB := Lib.hid hb
    obtain ⟨⟨d0, d1⟩, hbw⟩ := HL.out _ hb
    have HW := Lib.hid hbw
    clear hb hbw
    by_cases hk2 : k < 2
    · rcases (show k = 0 ∨ k = 1 by omega) with rfl | rfl
      · clear H1 H2
        go_wp2
        go_loopw [18] (fun z wr => ∃ m : Nat, m ≤ l.length ∧ z = .int .i64 (m : Int) ∧ Hid (No n l m) ∧ Below (w.heap.size + 1) (w.alloc (.cells #[.string ⟨n.toArray⟩, .string ⟨#[42]⟩] 9)) wr) (fun z _ => l.length - (intOf z).toNat)
        case atStart => exact ⟨0, Nat.zero_le _, rfl, Lib.hid (no_zero n l), HB.out⟩
        case round =>
          clear HB HW d0 d1
          obtain ⟨m, hm, rfl, HN, hb⟩ := hrel
          have HB := Lib.hid hb
          obtain ⟨_, hbw⟩ := HL.out _ hb
          have HW := Lib.hid hbw
          by_cases hlt : m < l.length
          · obtain ⟨b, off, rfl, hbl, hc⟩ := HA.out (by omega)
            obtain ⟨c0, c1⟩ := at_cells (at_below hc hbw (Nat.lt_of_lt_of_le hbl hB)) hlt
            have HBA : Hid (∀ a : Array Value, Below (w.heap.size + 1) (w.alloc (.cells #[.string ⟨n.toArray⟩, .string ⟨#[42]⟩] 9)) (wr.alloc (.cells a 28))) := Lib.hid (fun a => HB.out.alloc (Nat.le_trans (by simp) HB.out.size) _)
            have HBW : Hid (∀ a : Array Value, Below w.heap.size w (wr.alloc (.cells a 28))) := Lib.hid (fun a => HW.out.alloc HW.out.size _)
            clear hb hbw hc
            by_cases e : (l.getD m nov).1 = n
            · have HE : Hid (qof n l = (l.getD m nov).2) := Lib.hid (qof_hit hlt HN.out e)
              rw [e] at c0
              generalize (l.getD m nov).2 = y at c1 HE
              clear e
              go_wp2
              go_ret
              exact ⟨ret_int HE.out.symm, HBW.out _⟩
            · have HM := Lib.hid (no_more HN.out e)
              generalize l.getD m nov = f at c0 c1 e
              obtain ⟨x, y⟩ := f
              dsimp only at c0 c1 e
              have hq := beq_false_of_ne e
              clear e
              go_wp2
              go_roundw
              case rel => exact ⟨m + 1, by omega, by go_num, HM, HBA.out _⟩
              case measure => first | (simp [intOf]; omega) | simp [intOf]
          · have HNN : Hid (No n l l.length) := Lib.hid (by have h := HN.out; rw [show m = l.length by omega] at h; exact h)
            clear hb hbw
            go_wp2
            go_roundw
            case rel => exact ⟨1, by omega, by go_num, Lib.hid (fun _ => HNN.out), Lib.hid (fun h => absurd h (by omega)), HB.out⟩
            case measure => simp [intOf]
      · have H1' := Lib.hid (H1.out (by omega))
        clear H1 H2
        go_wp2
        go_loopw [18] (fun z wr => ∃ m : Nat, m ≤ l.length ∧ z = .int .i64 (m : Int) ∧ Hid (No [42] l m) ∧ Below (w.heap.size + 1) (w.alloc (.cells #[.string ⟨n.toArray⟩, .string ⟨#[42]⟩] 9)) wr) (fun z _ => l.length - (intOf z).toNat)
        case atStart => exact ⟨0, Nat.zero_le _, rfl, Lib.hid (no_zero [42] l), HB.out⟩
        case round =>
          clear HB HW d0 d1
          obtain ⟨m, hm, rfl, HN, hb⟩ := hrel
          have HB := Lib.hid hb
          obtain ⟨_, hbw⟩ := HL.out _ hb
          have HW := Lib.hid hbw
          by_cases hlt : m < l.length
          · obtain ⟨b, off, rfl, hbl, hc⟩ := HA.out (by omega)
            obtain ⟨c0, c1⟩ := at_cells (at_below hc hbw (Nat.lt_of_lt_of_le hbl hB)) hlt
            have HBA : Hid (∀ a : Array Value, Below (w.heap.size + 1) (w.alloc (.cells #[.string ⟨n.toArray⟩, .string ⟨#[42]⟩] 9)) (wr.alloc (.cells a 28))) := Lib.hid (fun a => HB.out.alloc (Nat.le_trans (by simp) HB.out.size) _)
            have HBW : Hid (∀ a : Array Value, Below w.heap.size w (wr.alloc (.cells a 28))) := Lib.hid (fun a => HW.out.alloc HW.out.size _)
            clear hb hbw hc
            by_cases e : (l.getD m nov).1 = [42]
            · have HE : Hid (qof n l = (l.getD m nov).2) := Lib.hid (qof_star (k := l.length) (by omega) H1'.out hlt HN.out e)
              rw [e] at c0
              generalize (l.getD m nov).2 = y at c1 HE
              clear e
              go_wp2
              go_ret
              exact ⟨ret_int HE.out.symm, HBW.out _⟩
            · have HM := Lib.hid (no_more HN.out e)
              generalize l.getD m nov = f at c0 c1 e
              obtain ⟨x, y⟩ := f
              dsimp only at c0 c1 e
              have hq := beq_false_of_ne e
              clear e
              go_wp2
              go_roundw
              case rel => exact ⟨m + 1, by omega, by go_num, HM, HBA.out _⟩
              case measure => first | (simp [intOf]; omega) | simp [intOf]
          · have HNN : Hid (No [42] l l.length) := Lib.hid (by have h := HN.out; rw [show m = l.length by omega] at h; exact h)
            clear hb hbw
            go_wp2
            go_roundw
            case rel => exact ⟨2, by omega, by go_num, Lib.hid (fun _ => H1'.out), Lib.hid (fun _ => HNN.out), HB.out⟩
            case measure => simp [intOf]
    · obtain rfl : k = 2 := by omega
      have HE := Lib.hid (qof_none (n := n) (l := l) (k := l.length) (m := l.length) (by omega) (H1.out (by omega)) (by omega) (H2.out (by omega)))
      go_wp2
      go_ret
      exact ⟨ret_int HE.out.symm, HW.out⟩
end Go.Proofs.YtppdcboobpbajaaDoor.Qua

/-
  A REGION THAT DRAWS ITS ORDER, ALSO ONE WITH CALLS THAT MAKE MEMORY: one walk, in the order of the text, in whatever world of a class S that each call keeps.
-/
namespace Go.Proofs.YtppdcboobpbajaaDoor.RegS
open Go Go.RowKit
set_option linter.unusedVariables false
set_option maxRecDepth 1000000

/-- A world of the class. -/
structure In (S : World → Prop) where
  w : World
  h : S w
theorem region {P : Program} {id : Nat} {Q : Exit → Act → World → Prop} {a : Act} {w : World} {l : List Oper} (S : World → Prop) (hm : P.follows .mixedOrders = true) (hB : Region.lexB .any l.toArray = true) (hS : S w.drew)
    (h : wpQuiet P l.toArray (fun w' => ∃ u : In S, w' = u.w) (fun a' => ∀ w', (∃ u : In S, w' = u.w) → Q .normal a' w') l a) : (Code.region id l.toArray true).wp P Q a w :=
  wp_region_quiet (C := fun w' => ∃ u : In S, w' = u.w) hm hB ⟨⟨w.drew, hS⟩, rfl⟩ (by simpa using h)
theorem call {P : Program} {f : FuncId} {args : Array Value} {S : World → Prop} {u : In S} {v : Value} {E : Ending → World → Prop}
    (h : Calls P f args u.w E) (hE : ∀ e w', E e w' → e = .returned v ∧ S w') : Calls P f args u.w fun e w'' => e = .returned v ∧ ∃ m : In S, w'' = m.w :=
  h.mono fun e w' he => ⟨(hE e w' he).1, ⟨w', (hE e w' he).2⟩, rfl⟩
end Go.Proofs.YtppdcboobpbajaaDoor.RegS

/-
  CONTRACTS of ChooseName, the model's and the program's: the first of the names that are liked best; nothing that was there before is changed.
-/
namespace Go.Proofs.YtppdcboobpbajaaDoor.Qua
open Go Go.RowKit
set_option linter.unusedVariables false
set_option maxRecDepth 1000000
set_option maxRecDepth 1000000

/-- The place of the best of the first k names. -/
def bix (f : List UInt8 → Int) (zs : List (List UInt8)) : Nat → Nat
  | 0 => 0
  | k + 1 => if f (zs.getD (bix f zs k) []) < f (zs.getD k []) then k else bix f zs k
theorem bix_lt (f : List UInt8 → Int) (zs : List (List UInt8)) : ∀ k, bix f zs k ≤ k - 1
  | 0 => Nat.le_refl _
  | k + 1 => by
    have := bix_lt f zs k
    unfold bix; split <;> omega
theorem bix_up {f : List UInt8 → Int} {zs : List (List UInt8)} {k : Nat} (h : f (zs.getD (bix f zs k) []) < f (zs.getD k [])) : bix f zs (k + 1) = k := by rw [bix, if_pos h]
theorem bix_keep {f : List UInt8 → Int} {zs : List (List UInt8)} {k : Nat} (h : ¬ f (zs.getD (bix f zs k) []) < f (zs.getD k [])) : bix f zs (k + 1) = bix f zs k := by rw [bix, if_neg h]
def bst (f : List UInt8 → Int) (zs : List (List UInt8)) (k : Nat) : List UInt8 := if k = 0 then [] else zs.getD (bix f zs k) []
def mst (f : List UInt8 → Int) (zs : List (List UInt8)) (k : Nat) : Int := if k = 0 then 0 else f (zs.getD (bix f zs k) [])
theorem step_up {f : List UInt8 → Int} {zs : List (List UInt8)} {k : Nat} (h : k = 0 ∨ mst f zs k < f (zs.getD k [])) : bst f zs (k + 1) = zs.getD k [] ∧ mst f zs (k + 1) = f (zs.getD k []) := by
  have e : zs.getD (bix f zs (k + 1)) [] = zs.getD k [] := by
    by_cases hk : k = 0
    · subst hk
      rw [show bix f zs (0 + 1) = 0 by rw [bix_keep]; rfl; show ¬ f (zs.getD 0 []) < f (zs.getD 0 []); omega]
    · rw [bix_up]; rcases h with h | h
      · exact absurd h hk
      · unfold mst at h; rw [if_neg hk] at h; exact h
  unfold bst mst
  rw [if_neg (by omega), if_neg (by omega), e]; exact ⟨rfl, rfl⟩
theorem step_keep {f : List UInt8 → Int} {zs : List (List UInt8)} {k : Nat} (hk : ¬ k = 0) (h : ¬ mst f zs k < f (zs.getD k [])) : bst f zs (k + 1) = bst f zs k ∧ mst f zs (k + 1) = mst f zs k := by
  have e : bix f zs (k + 1) = bix f zs k := by rw [bix_keep]; unfold mst at h; rw [if_neg hk] at h; exact h
  unfold bst mst
  rw [if_neg (show ¬ k + 1 = 0 by omega), if_neg (show ¬ k + 1 = 0 by omega), if_neg hk, if_neg hk, e]; exact ⟨rfl, rfl⟩
/-- The name that is chosen. -/
def cho (zs : List (List UInt8)) (s : List UInt8) : List UInt8 := bst (fun n => qof n (pqs s)) zs zs.length
def TxtEnd (r : List UInt8) (w : World) (e : Ending) (w' : World) : Prop := e = .returned (.string ⟨r.toArray⟩) ∧ Below w.heap.size w w'
theorem ret_t {a b : List UInt8} (h : a = b) : Ending.returned (.string ⟨a.toArray⟩) = .returned (.string ⟨b.toArray⟩) := by rw [h]
theorem shape_s {w : World} {B : Nat} {v : Value} {l : List (List UInt8)} (h : Strs.Holds w B v l) : ∃ a cap, v = .slice a l.length cap ∧ (0 < l.length → ∃ b off, a = some ⟨b, off, none⟩ ∧ b < B ∧ l.length ≤ cap ∧ Strs.At w b off l) := by
  rcases h with ⟨rfl, a, cap, rfl⟩ | ⟨h0, b, off, cap, rfl, hb, hcap, hc⟩
  · exact ⟨a, cap, rfl, fun h => by simp at h⟩
  · exact ⟨_, cap, rfl, fun _ => ⟨b, off, rfl, hb, hcap, hc⟩⟩

/-! the program -/
theorem clo (g : Nat) (v : Value) (B : Nat) (l : List T) (n : List UInt8) (w : World) (hc : w.cell? ⟨g, 0, none⟩ = some v) (h : Holds w B v l) (hB : B ≤ w.heap.size) (hl : l.length ≤ 4194304) :
    Calls Tryd.prog 19 #[.string ⟨n.toArray⟩, .pointer (some ⟨g, 0, none⟩)] w (QofEnd n l w) := by
  have HQ := Lib.hid (impl_qof v B l n w h hB hl)
  unfold QofEnd at HQ ⊢
  generalize qof n l = r at *
  obtain ⟨a, cap, rfl, _⟩ := shape h
  clear h
  go_enter Tryd.func19, Tryd.ntmps19
  go_wp2_with (fail)
  go_at_call 10
  refine HQ.out.mono ?_
  rintro e w1 ⟨rfl, hb⟩
  have HB := Lib.hid hb
  clear hb
  go_wp2
  go_ret
  exact ⟨rfl, HB.out⟩

def Enters (K : FuncId) : Prop := ∀ (args : Array Value) (w : World), Sem.run Tryd.prog (callFunc K args) w = .ok (.enter K args) w
set_option maxHeartbeats 4000000 in
theorem impl_best (K : FuncId) (q : Value) (vz : Value) (B : Nat) (zs : List (List UInt8)) (l : List T) (w : World) (hE : Enters K) (hC : ∀ (n : List UInt8) (W : World), Below w.heap.size w W → Calls Tryd.prog K #[.string ⟨n.toArray⟩, q] W (QofEnd n l W)) (hz : Strs.Holds w B vz zs) (hB : B ≤ w.heap.size) (hzl : zs.length ≤ 1048576) :
    Calls Tryd.prog 18 #[vz, .func (.func K) #[] #[q]] w (TxtEnd (bst (fun n => qof n l) zs zs.length) w) := by
  obtain ⟨a, cap, rfl, ha⟩ := shape_s hz
  have HA := Lib.hid ha
  have HEN := Lib.hid hE
  have HCL := Lib.hid hC
  unfold QofEnd at HCL
  have hff : ∀ n, qof n l = (fun n => qof n l) n := fun _ => rfl
  unfold TxtEnd
  generalize hf : (fun n => qof n l) = f at *
  have HFF := Lib.hid hff
  clear ha hz hC hE hf hff
  go_enter Tryd.func18, Tryd.ntmps18
  go_wp2
  go_loopw [5, 6, 12] (fun s m i wr => ∃ k : Nat, k ≤ zs.length ∧ i = .int .i64 (k : Int) ∧ s = .string ⟨(bst f zs k).toArray⟩ ∧ m = .int .i64 (mst f zs k) ∧ Below w.heap.size w wr) (fun _ _ i _ => zs.length - (intOf i).toNat)
  case atStart => exact ⟨0, Nat.zero_le _, rfl, rfl, rfl, Below.refl _ _⟩
  case round =>
    obtain ⟨k, hk, rfl, rfl, rfl, hb⟩ := hrel
    have HB := Lib.hid hb
    by_cases hlt : k < zs.length
    · obtain ⟨b, off, rfl, hbw, hcap, hc⟩ := HA.out (by omega)
      have c0 := Strs.at_below hc hb (Nat.lt_of_lt_of_le hbw hB) k hlt
      unfold Strs.sv at c0
      have HUP := Lib.hid (fun h => step_up (f := f) (zs := zs) (k := k) h)
      have HKP := Lib.hid (fun h1 h2 => step_keep (f := f) (zs := zs) (k := k) h1 h2)
      clear hb hc
      generalize zs.getD k [] = x at c0 HUP HKP
      have HX := Lib.hid (HCL.out x wr HB.out)
      rw [HFF.out x] at HX
      generalize f x = y at HX HUP HKP
      generalize bst f zs k = bk at *
      generalize mst f zs k = mk at *
      have hki : (k : Int) < (zs.length : Int) := by omega
      by_cases h0 : k = 0
      · have HE := Lib.hid (HUP.out (Or.inl h0))
        have h0' : (k : Int) = 0 := by omega
        have h0b : ((k : Int) == 0) = true := by rw [h0']; rfl
        have c0' : wr.cell? ⟨b, off, none⟩ = some (.string ⟨x.toArray⟩) := by have h9 := c0; rw [h0] at h9; exact h9
        have HK1 : Hid (((k + 1 : Nat) : Int) = 1) := Lib.hid (by omega)
        clear HUP HKP h0
        go_wp2_with (fail)
        rw [HEN.out, Oper.upon_enter]
        refine HX.out.mono ?_
        rintro e w1 ⟨rfl, hb1⟩
        have HB := Lib.hid (Base.then_below HB.out hb1)
        clear hb1
        go_wp2
        go_roundw
        case rel => exact ⟨k + 1, by omega, by first | go_num | (rw [HK1.out]; done) | (rw [HK1.out]; rfl) | (rw [HK1.out]; go_num), by rw [HE.out.1], by rw [HE.out.2], HB.out⟩
        case measure => simp [intOf]; omega
      · have h0' : ¬ (k : Int) = 0 := by omega
        have h0b : ((k : Int) == 0) = false := by rw [beq_eq_false_iff_ne]; exact h0'
        by_cases hm : mk < y
        · have HE := Lib.hid (HUP.out (Or.inr hm))
          clear HUP HKP h0
          go_wp2_with (fail)
          rw [HEN.out, Oper.upon_enter]
          refine HX.out.mono ?_
          rintro e w1 ⟨rfl, hb1⟩
          have HB := Lib.hid (Base.then_below HB.out hb1)
          clear hb1
          go_wp2
          go_roundw
          case rel => exact ⟨k + 1, by omega, by go_num, by rw [HE.out.1], by rw [HE.out.2], HB.out⟩
          case measure => simp [intOf]; omega
        · have HE := Lib.hid (HKP.out h0 hm)
          clear HUP HKP h0
          go_wp2_with (fail)
          rw [HEN.out, Oper.upon_enter]
          refine HX.out.mono ?_
          rintro e w1 ⟨rfl, hb1⟩
          have HB := Lib.hid (Base.then_below HB.out hb1)
          clear hb1
          go_wp2
          go_roundw
          case rel => exact ⟨k + 1, by omega, by go_num, by rw [HE.out.1], by rw [HE.out.2], HB.out⟩
          case measure => simp [intOf]; omega
    · obtain rfl : k = zs.length := by omega
      clear hb
      go_wp2
      go_ret
      exact ⟨rfl, HB.out⟩

set_option maxHeartbeats 4000000 in
theorem impl_cho (vz : Value) (B : Nat) (zs : List (List UInt8)) (s : List UInt8) (w : World) (hz : Strs.Holds w B vz zs) (hB : B ≤ w.heap.size) (hzl : zs.length ≤ 1048576) (hs : s.length ≤ 1048576) (he : Par.Errs w) (hm : Sh.MxL w) :
    Calls Tryd.prog 9 #[vz, .string ⟨s.toArray⟩] w (TxtEnd (cho zs s) w) := by
  have HP := Lib.hid (impl_pqs s w hs he hm)
  have hql : (pqs s).length ≤ 4194304 := by have h1 := quals_len (Tx.split s); have h2 := Tx.split_count s; unfold pqs; omega
  have HN := Lib.hid (fun (g : Nat) (v : Value) (B2 : Nat) (W : World) (hb : Below w.heap.size w W) (hc : W.cell? ⟨g, 0, none⟩ = some v) (h : Holds W B2 v (pqs s)) (hB2 : B2 ≤ W.heap.size) => impl_best 19 (.pointer (some ⟨g, 0, none⟩)) vz B zs (pqs s) W (fun args w => rfl) (fun n W2 hb2 => clo g v B2 (pqs s) n W2 ((hb2.cell (p := ⟨g, 0, none⟩) (Rec.lt_of_cell hc)).trans hc) (holds_below h (hb2.mono hB2)) (Nat.le_trans hB2 hb2.size) hql) (Strs.holds_below hz (hb.mono hB)) (Nat.le_trans hB hb.size) hzl)
  have HE : Hid (bst (fun n => qof n (pqs s)) zs zs.length = cho zs s) := Lib.hid rfl
  rw [HE.out] at HN
  unfold Parsed at HP
  unfold TxtEnd at HN ⊢
  generalize cho zs s = r at *
  obtain ⟨az, cz, rfl, _⟩ := shape_s hz
  clear HE hz he hm
  go_enter Tryd.func9, Tryd.ntmps9
  go_wp2_with (fail)
  go_at_call 5
  refine HP.out.mono ?_
  rintro e w1 ⟨v, rfl, ho, hb1⟩
  obtain ⟨a, cap, rfl, _⟩ := Rec.shape_at ho
  have HO := Lib.hid ho
  have HB := Lib.hid hb1
  clear ho hb1
  have HA := Lib.hid ((Below.refl w1.heap.size w1).alloc (Nat.le_refl _) (.cells #[.slice a (pqs s).length cap] 24))
  have HB2 := Lib.hid (Base.then_below HB.out HA.out)
  have HH := Lib.hid (own_holds (row_below HO.out HA.out))
  have HCC : Hid ((w1.alloc (.cells #[.slice a (pqs s).length cap] 24)).cell? ⟨w1.heap.size, 0, none⟩ = some (.slice a (pqs s).length cap)) := Lib.hid (by rw [World.cell?_alloc_new]; rfl)
  go_wp2_with (fail)
  go_at_call 18
  refine (HN.out _ _ _ _ HB2.out HCC.out HH.out (Nat.le_refl _)).mono ?_
  rintro e w2 ⟨rfl, hb2⟩
  have HB3 := Lib.hid (Base.then_below HB2.out hb2)
  clear hb2
  go_wp2
  go_ret
  exact ⟨rfl, HB3.out⟩

/-! the model -/
/-- The class of worlds behind what only makes memory. -/
def GrowS (w wr w' : World) : Prop := Below wr.heap.size wr w' ∧ Below w.heap.size w w'
theorem grow_start {w wr : World} (hb : Below w.heap.size w wr) : GrowS w wr wr.drew := ⟨Rec.below_drew (Below.refl _ _), Rec.below_drew hb⟩
theorem grow_call {w wr w0 w1 : World} (h : GrowS w wr w0) (hb : Below w0.heap.size w0 w1) : GrowS w wr w1 := ⟨h.1.trans (hb.mono h.1.size), Base.then_below h.2 hb⟩
theorem grow_old {w wr w' : World} (h : GrowS w wr w') {b o : Nat} {u : Value} (hc : wr.cell? ⟨b, o, none⟩ = some u) : w'.cell? ⟨b, o, none⟩ = some u := by
  rw [h.1.cell (p := ⟨b, o, none⟩) (Rec.lt_of_cell hc)]; exact hc

end Go.Proofs.YtppdcboobpbajaaDoor.Qua

/-
  PLAIN FACTS for the law of chapter 13: the qualities that are read, and the first of the names that are liked best.
-/
namespace Go.Proofs.YtppdcboobpbajaaDoor.Qua
open Go Go.RowKit
set_option linter.unusedVariables false
set_option maxRecDepth 1000000

theorem qpar_le {s : List UInt8} {n : Nat} (h : qpar s = some n) : n ≤ 1000 := by
  unfold qpar at h
  split at h
  · exact wgt_le h
  · cases h
theorem name_len (x : List UInt8) : (Tx.lower (Tx.trim ((Spc.spl 59 x).getD 0 []))).length ≤ x.length := by
  have h1 : (Tx.lower (Tx.trim ((Spc.spl 59 x).getD 0 []))).length = (Tx.trim ((Spc.spl 59 x).getD 0 [])).length := by unfold Tx.lower; simp
  have h2 := Dir.trim_len ((Spc.spl 59 x).getD 0 [])
  have h3 := Spc.spl_mem 59 x ((Spc.spl 59 x).getD 0 []) (Rec.getD_mem (z := []) (List.length_pos_iff.2 (Spc.spl_ne 59 x)))
  omega
theorem qel_ok {x : List UInt8} {f : T} (h : qel x = some f) : 0 ≤ f.2 ∧ f.2 ≤ 1000 ∧ Tx.token f.1 = true ∧ f.1.length ≤ x.length := by
  unfold qel at h
  split at h
  · rename_i hh
    split at h
    · obtain ⟨n, hn, rfl⟩ := Option.map_eq_some_iff.1 h
      cases hq : qpar ((Spc.spl 59 x).getD 1 []) with
      | none => rw [hq] at hn; cases hn
      | some m =>
      rw [hq] at hn
      have := qpar_le hq
      obtain rfl : (m : Int) = n := Option.some.inj hn
      refine ⟨by show (0 : Int) ≤ (m : Int); omega, by show (m : Int) ≤ 1000; omega, ?_, name_len x⟩
      show Tx.token (Tx.lower _) = true
      rw [Dir.token_low]; exact hh.1
    · obtain rfl := Option.some.inj h
      refine ⟨by show (0 : Int) ≤ 1000; decide, by show (1000 : Int) ≤ 1000; decide, ?_, name_len x⟩
      show Tx.token (Tx.lower _) = true
      rw [Dir.token_low]; exact hh.1
  · cases h
theorem pqs_ok (s : List UInt8) : ∀ f ∈ pqs s, 0 ≤ f.2 ∧ f.2 ≤ 1000 ∧ Tx.token f.1 = true ∧ f.1.length ≤ s.length := by
  intro f hf
  unfold pqs quals at hf
  obtain ⟨x, hm, hx⟩ := List.mem_filterMap.1 hf
  obtain ⟨h1, h2, h3, h4⟩ := qel_ok hx
  exact ⟨h1, h2, h3, Nat.le_trans h4 (Tx.split_elem s x hm)⟩
theorem pqs_len (s : List UInt8) : (pqs s).length ≤ s.length + 1 := Nat.le_trans (quals_len (Tx.split s)) (Tx.split_count s)
theorem bix_max (f : List UInt8 → Int) (zs : List (List UInt8)) : ∀ k, (∀ j, j < k → f (zs.getD j []) ≤ f (zs.getD (bix f zs k) [])) ∧ (∀ j, j < bix f zs k → f (zs.getD j []) < f (zs.getD (bix f zs k) []))
  | 0 => ⟨fun j hj => by omega, fun j hj => by unfold bix at hj; omega⟩
  | k + 1 => by
    obtain ⟨h1, h2⟩ := bix_max f zs k
    by_cases h : f (zs.getD (bix f zs k) []) < f (zs.getD k [])
    · rw [bix_up h]
      refine ⟨fun j hj => ?_, fun j hj => ?_⟩
      · by_cases e : j = k
        · subst e; omega
        · have := h1 j (by omega); omega
      · have := h1 j hj; omega
    · rw [bix_keep h]
      refine ⟨fun j hj => ?_, h2⟩
      by_cases e : j = k
      · subst e; omega
      · exact h1 j (by omega)
/-- Where the chosen name stands first. -/
theorem cho_at (zs : List (List UInt8)) (s : List UInt8) (h : 0 < zs.length) : ∃ p, p < zs.length ∧ zs.getD p [] = cho zs s ∧ (∀ j, j < zs.length → qof (zs.getD j []) (pqs s) ≤ qof (cho zs s) (pqs s)) ∧ (∀ j, j < p → qof (zs.getD j []) (pqs s) < qof (cho zs s) (pqs s)) := by
  have e : cho zs s = zs.getD (bix (fun n => qof n (pqs s)) zs zs.length) [] := by unfold cho bst; rw [if_neg (by omega)]
  obtain ⟨h1, h2⟩ := bix_max (fun n => qof n (pqs s)) zs zs.length
  have h3 := bix_lt (fun n => qof n (pqs s)) zs zs.length
  rw [e]
  exact ⟨_, by omega, rfl, h1, h2⟩
theorem cho_nil {zs : List (List UInt8)} (s : List UInt8) (h : zs.length = 0) : cho zs s = [] := by unfold cho bst; rw [if_pos h]
end Go.Proofs.YtppdcboobpbajaaDoor.Qua
