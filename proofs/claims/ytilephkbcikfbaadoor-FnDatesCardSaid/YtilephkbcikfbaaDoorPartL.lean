/-
  CONTRACTS AND PLAIN FACTS, several texts in one; each says in its own words what it proves.
-/
import Derived.Test.YtilephkbcikfbaaDoorPartI
import Derived.Test.YtilephkbcikfbaaDoorPartA
import Derived.Test.YtilephkbcikfbaaDoorPartK
import Derived.Deep.QuietTactic
import Derived.BigQuiet
import Derived.Test.YtilephkbcikfbaaDoorPartF
import Derived.Test.YtilephkbcikfbaaDoorPartH
import Derived.Test.YtilephkbcikfbaaDoorPartJ
import Derived.Test.YtilephkbcikfbaaDoorPartC
import Derived.IntWalk
set_option linter.unusedSimpArgs false
set_option linter.unusedVariables false

/-
  CONTRACT of strings.Cut at a separator of one byte: what stands before the first such byte, what stands behind it, and whether there is one; nothing that was there before is changed.
-/
namespace Go.Proofs.YtilephkbcikfbaaDoor.Tx
open Go Go.RowKit
set_option linter.unusedVariables false
set_option maxRecDepth 1000000

theorem indexByte_idx (c : UInt8) (l : List UInt8) : Lib.indexByte l c = if idx c l < l.length then (idx c l : Int) else -1 := by
  induction l with
  | nil => simp [Lib.indexByte, idx]
  | cons a r ih =>
    unfold Lib.indexByte idx
    by_cases h : a == c
    · rw [if_pos h, if_pos h, if_pos (by simp)]; rfl
    · rw [if_neg h, if_neg h, ih]
      by_cases hl : idx c r < r.length
      · have hn : ((idx c r : Int) == -1) = false := by rw [beq_eq_false_iff_ne]; omega
        rw [if_pos hl, hn, if_neg (by simp), if_pos (by simp; omega)]; omega
      · rw [if_neg hl, if_pos (by decide), if_neg (by simp; omega)]
/-- How a cut ends. -/
def CutEnd (c : UInt8) (l : List UInt8) (w : World) (e : Ending) (w' : World) : Prop :=
  e = .returned (.tuple #[.string ⟨(cutAt c l).1.toArray⟩, .string ⟨(cutAt c l).2.1.toArray⟩, .bool (cutAt c l).2.2]) ∧ Below w.heap.size w w'
theorem below_drewN' {B : Nat} {a w : World} (h : Below B a w) (n : Nat) : Below B a (w.drewN n) := ⟨h.os, h.tape, h.output, h.size, h.block⟩
theorem ext_eq (s : ByteArray) (a b : Nat) : s.extract a b = ⟨((s.data.toList.drop a).take (b - a)).toArray⟩ := by
  apply ByteArray.ext
  rw [ByteArray.data_extract]
  apply Array.ext'
  simp
theorem cut_hit {s : ByteArray} {c : UInt8} {w w' : World} {i : Nat} (hi : i = idx c s.data.toList) (h : i < s.size) (hb : Below w.heap.size w w') :
    CutEnd c s.data.toList w (.returned (.tuple #[.string (s.extract 0 i), .string (s.extract (i + 1) s.size), .bool true])) w' := by
  have hl : s.data.toList.length = s.size := by rw [Array.length_toList]; rfl
  have e : cutAt c s.data.toList = (s.data.toList.take i, s.data.toList.drop (i + 1), true) := by
    unfold cutAt; rw [← hi, hl, if_pos h]
  unfold CutEnd
  rw [e, ext_eq, ext_eq]
  refine ⟨?_, hb⟩
  have h2 : (s.data.toList.drop (i + 1)).take (s.size - (i + 1)) = s.data.toList.drop (i + 1) := List.take_of_length_le (by rw [List.length_drop, hl]; omega)
  rw [h2, List.drop_zero, Nat.sub_zero]
theorem cut_miss {s : ByteArray} {c : UInt8} {w w' : World} (h : ¬ idx c s.data.toList < s.size) (hb : Below w.heap.size w w') :
    CutEnd c s.data.toList w (.returned (.tuple #[.string s, .string ⟨#[]⟩, .bool false])) w' := by
  have hl : s.data.toList.length = s.size := by rw [Array.length_toList]; rfl
  have e : cutAt c s.data.toList = (s.data.toList, [], false) := by
    unfold cutAt; rw [hl, if_neg h]
  unfold CutEnd
  rw [e]
  exact ⟨by simp, hb⟩

end Go.Proofs.YtilephkbcikfbaaDoor.Tx

/-
  A REGION THAT DRAWS ITS ORDER, ALSO ONE WITH CALLS THAT MAKE MEMORY: one walk, in the order of the text, in whatever world of a class S that each call keeps.
-/
namespace Go.Proofs.YtilephkbcikfbaaDoor.RegS
open Go Go.RowKit
set_option linter.unusedVariables false
set_option maxRecDepth 1000000

/-- A world of the class. -/
structure In (S : World → Prop) where
  w : World
  h : S w
theorem region {P : Program} {id : Nat} {Q : Exit → Act → World → Prop} {a : Act} {w : World} {l : List Oper} (S : World → Prop) (hm : P.follows .mixedOrders = true) (hB : Region.lexB .any l.toArray = true) (hS : S w.drew)
    (h : wpQuiet P l.toArray (fun w' => ∃ u : In S, w' = u.w) (fun a' => ∀ w', (∃ u : In S, w' = u.w) → Q .normal a' w') l a) : (Code.region id l.toArray true).wp P Q a w :=
  wp_region_quiet (C := fun w' => ∃ u : In S, w' = u.w) hm hB ⟨⟨w.drew, hS⟩, rfl⟩ (by simpa using h)
theorem call {P : Program} {f : FuncId} {args : Array Value} {S : World → Prop} {u : In S} {v : Value} {E : Ending → World → Prop}
    (h : Calls P f args u.w E) (hE : ∀ e w', E e w' → e = .returned v ∧ S w') : Calls P f args u.w fun e w'' => e = .returned v ∧ ∃ m : In S, w'' = m.w :=
  h.mono fun e w' he => ⟨(hE e w' he).1, ⟨w', (hE e w' he).2⟩, rfl⟩
end Go.Proofs.YtilephkbcikfbaaDoor.RegS

/-
  CONTRACTS of the model's FormatDate and of what it calls; nothing that was there before is changed.
-/
namespace Go.Proofs.YtilephkbcikfbaaDoor.Dt
open Go Go.RowKit
set_option linter.unusedVariables false
set_option maxRecDepth 1000000

def form2 (t y m d : Int) : List UInt8 := dnm (wkd (t / 86400)) ++ [44, 32] ++ Dig.digs d 2 ++ [45] ++ mnm (m - 1).toNat ++ [45] ++ Dig.digs (y % 100) 2 ++ [32] ++ clk (t % 86400) ++ [32, 71, 77, 84]
def dtx (d : Int) : List UInt8 := if d < 10 then [32] ++ Lib.itoa d else Dig.digs d 2
def form3 (t y m d : Int) : List UInt8 := (dnm (wkd (t / 86400))).take 3 ++ [32] ++ mnm (m - 1).toNat ++ [32] ++ dtx d ++ [32] ++ clk (t % 86400) ++ [32] ++ Dig.digs y 4
theorem cut3s (l : List UInt8) : (⟨l.toArray⟩ : ByteArray).extract 0 3 = ⟨(l.take 3).toArray⟩ := by rw [Tx.ext_eq]; simp
def Table (f : Nat → List UInt8) (n : Nat) (w : World) (e : Ending) (w' : World) : Prop := ∃ g, e = .returned (.slice (some ⟨g, 0, none⟩) n n) ∧ (∀ k, k < n → w'.cell? ⟨g, k, none⟩ = some (.string ⟨(f k).toArray⟩)) ∧ Below w.heap.size w w'
theorem days_tab (w : World) : Calls Tryd.prog 42 #[] w (Table dnm 7 w) := by
  go_enter Tryd.func42, Tryd.ntmps42
  go_wp2
  go_ret
  refine ⟨w.heap.size, rfl, fun k hk => ?_, (Below.refl _ _).alloc (Nat.le_refl _) _⟩
  rw [World.cell?_alloc_new]
  match k, hk with
  | 0, _ => rfl | 1, _ => rfl | 2, _ => rfl | 3, _ => rfl | 4, _ => rfl | 5, _ => rfl | 6, _ => rfl
  | k + 7, h => omega
theorem mons_tab (w : World) : Calls Tryd.prog 44 #[] w (Table mnm 12 w) := by
  go_enter Tryd.func44, Tryd.ntmps44
  go_wp2
  go_ret
  refine ⟨w.heap.size, rfl, fun k hk => ?_, (Below.refl _ _).alloc (Nat.le_refl _) _⟩
  rw [World.cell?_alloc_new]
  match k, hk with
  | 0, _ => rfl | 1, _ => rfl | 2, _ => rfl | 3, _ => rfl | 4, _ => rfl | 5, _ => rfl | 6, _ => rfl | 7, _ => rfl | 8, _ => rfl | 9, _ => rfl | 10, _ => rfl | 11, _ => rfl
  | k + 12, h => omega

set_option maxRecDepth 1000000 in
set_option maxHeartbeats 2000000 in
theorem spec_clock (t : Int) (w : World) (h0 : 0 ≤ t) (h1 : t ≤ 4102444799) : Calls Tryd.prog 46 #[.int .i64 t] w fun e w' => e = .returned (.string ⟨(clk (t % 86400)).toArray⟩) ∧ Below w.heap.size w w' := by
  have hs0 : 0 ≤ t % 86400 := by omega
  have hs1 : t % 86400 ≤ 86399 := by omega
  have hs2 : 0 ≤ t % 86400 / 60 := by omega
  have hs3 : t % 86400 / 60 ≤ 1439 := by omega
  have HCK : Hid (clk (t % 86400) = Dig.digs (t % 86400 / 3600) 2 ++ [58] ++ Dig.digs (t % 86400 / 60 % 60) 2 ++ [58] ++ Dig.digs (t % 60) 2) := Lib.hid (by unfold clk; rw [show t % 86400 % 3600 / 60 = t % 86400 / 60 % 60 by omega, show t % 86400 % 60 = t % 60 by omega])
  have HG1 := Lib.hid (fun W => Dig.spec_digits (t % 86400 / 3600) 2 W (by omega))
  have HG2 := Lib.hid (fun W => Dig.spec_digits (t % 86400 / 60 % 60) 2 W (by omega))
  have HG3 := Lib.hid (fun W => Dig.spec_digits (t % 60) 2 W (by omega))
  have l1 := dg2 (n := t % 86400 / 3600) (by omega) 2
  have l2 := dg2 (n := t % 86400 / 60 % 60) (by omega) 2
  have l3 := dg2 (n := t % 60) (by omega) 2
  rw [HCK.out]
  generalize Dig.digs (t % 86400 / 3600) 2 = x1 at HG1 l1 ⊢
  generalize Dig.digs (t % 86400 / 60 % 60) 2 = x2 at HG2 l2 ⊢
  generalize Dig.digs (t % 60) 2 = x3 at HG3 l3 ⊢
  have a1 := Tx.addtwo x1 [58] (by simp only [List.length_cons, List.length_nil]; omega)
  have a2 := Tx.addtwo (x1 ++ [58]) x2 (by simp only [List.length_append, List.length_cons, List.length_nil]; omega)
  have a3 := Tx.addtwo (x1 ++ [58] ++ x2) [58] (by simp only [List.length_append, List.length_cons, List.length_nil]; omega)
  have a4 := Tx.addtwo (x1 ++ [58] ++ x2 ++ [58]) x3 (by simp only [List.length_append, List.length_cons, List.length_nil]; omega)
  generalize x1 ++ [58] = y1 at a1 a2 a3 a4 ⊢
  generalize y1 ++ x2 = y2 at a2 a3 a4 ⊢
  generalize y2 ++ [58] = y3 at a3 a4 ⊢
  generalize y3 ++ x3 = y4 at a4 ⊢
  clear l1 l2 l3 HCK
  go_enter Tryd.func46, Tryd.ntmps46
  go_wp2_with (fail)
  go_at_call 45
  with_reducible refine (HG1.out _).mono ?_
  rintro e w1 ⟨rfl, hb1⟩
  have HB := Lib.hid hb1
  clear hb1
  go_wp2_with (fail)
  go_at_call 45
  with_reducible refine (HG2.out _).mono ?_
  rintro e w2 ⟨rfl, hb2⟩
  have HB := Lib.hid (Base.then_below HB.out hb2)
  clear hb2
  go_wp2_with (fail)
  go_at_call 45
  with_reducible refine (HG3.out _).mono ?_
  rintro e w3 ⟨rfl, hb3⟩
  have HB := Lib.hid (Base.then_below HB.out hb3)
  clear hb3
  go_wp2
  go_ret
  exact ⟨rfl, HB.out⟩
end Go.Proofs.YtilephkbcikfbaaDoor.Dt
