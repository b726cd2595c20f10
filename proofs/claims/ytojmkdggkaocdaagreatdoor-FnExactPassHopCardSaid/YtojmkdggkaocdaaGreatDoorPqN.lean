/-
  CONTRACTS AND PLAIN FACTS, several texts in one; each says in its own words what it proves.
-/
import Derived.Test.YtojmkdggkaocdaaGreatDoorPqH
import Derived.Test.YtojmkdggkaocdaaGreatDoorPqA
import Derived.Test.YtojmkdggkaocdaaGreatDoorPqG
import Derived.Deep.QuietTactic
import Derived.BigQuiet
import Derived.Test.YtojmkdggkaocdaaGreatDoorPqL
import Derived.Test.YtojmkdggkaocdaaGreatDoorPqM
import Derived.Test.YtojmkdggkaocdaaGreatDoorPqF
import Derived.Test.YtojmkdggkaocdaaGreatDoorPqD
import Derived.Test.YtojmkdggkaocdaaGreatDoorPqI
import Derived.Test.YtojmkdggkaocdaaGreatDoorPqB
import Derived.IntWalk

/-
  CONTRACT of strings.Cut at a separator of one byte: what stands before the first such byte, what stands behind it, and whether there is one; nothing that was there before is changed.
-/
namespace Go.Proofs.YtojmkdggkaocdaaGreatDoor.Tx
open Go Go.RowKit
set_option linter.unusedVariables false
set_option maxRecDepth 1000000

theorem indexByte_idx (c : UInt8) (l : List UInt8) : Lib.indexByte l c = if idx c l < l.length then (idx c l : Int) else -1 := by
  induction l with
  | nil => simp [Lib.indexByte, idx]
  | cons a r ih =>
    unfold Lib.indexByte idx
    by_cases h : a == c
    · rw [if_pos h, if_pos h, if_pos (by simp)]; rfl
    · rw [if_neg h, if_neg h, ih]
      by_cases hl : idx c r < r.length
      · have hn : ((idx c r : Int) == -1) = false := by rw [beq_eq_false_iff_ne]; omega
        rw [if_pos hl, hn, if_neg (by simp), if_pos (by simp; omega)]; omega
      · rw [if_neg hl, if_pos (by decide), if_neg (by simp; omega)]
/-- How a cut ends. -/
def CutEnd (c : UInt8) (l : List UInt8) (w : World) (e : Ending) (w' : World) : Prop :=
  e = .returned (.tuple #[.string ⟨(cutAt c l).1.toArray⟩, .string ⟨(cutAt c l).2.1.toArray⟩, .bool (cutAt c l).2.2]) ∧ Below w.heap.size w w'
theorem below_drewN' {B : Nat} {a w : World} (h : Below B a w) (n : Nat) : Below B a (w.drewN n) := ⟨h.os, h.tape, h.output, h.size, h.block⟩
theorem ext_eq (s : ByteArray) (a b : Nat) : s.extract a b = ⟨((s.data.toList.drop a).take (b - a)).toArray⟩ := by
  apply ByteArray.ext
  rw [ByteArray.data_extract]
  apply Array.ext'
  simp
theorem cut_hit {s : ByteArray} {c : UInt8} {w w' : World} {i : Nat} (hi : i = idx c s.data.toList) (h : i < s.size) (hb : Below w.heap.size w w') :
    CutEnd c s.data.toList w (.returned (.tuple #[.string (s.extract 0 i), .string (s.extract (i + 1) s.size), .bool true])) w' := by
  have hl : s.data.toList.length = s.size := by rw [Array.length_toList]; rfl
  have e : cutAt c s.data.toList = (s.data.toList.take i, s.data.toList.drop (i + 1), true) := by
    unfold cutAt; rw [← hi, hl, if_pos h]
  unfold CutEnd
  rw [e, ext_eq, ext_eq]
  refine ⟨?_, hb⟩
  have h2 : (s.data.toList.drop (i + 1)).take (s.size - (i + 1)) = s.data.toList.drop (i + 1) := List.take_of_length_le (by rw [List.length_drop, hl]; omega)
  rw [h2, List.drop_zero, Nat.sub_zero]
theorem cut_miss {s : ByteArray} {c : UInt8} {w w' : World} (h : ¬ idx c s.data.toList < s.size) (hb : Below w.heap.size w w') :
    CutEnd c s.data.toList w (.returned (.tuple #[.string s, .string ⟨#[]⟩, .bool false])) w' := by
  have hl : s.data.toList.length = s.size := by rw [Array.length_toList]; rfl
  have e : cutAt c s.data.toList = (s.data.toList, [], false) := by
    unfold cutAt; rw [hl, if_neg h]
  unfold CutEnd
  rw [e]
  exact ⟨by simp, hb⟩

set_option maxHeartbeats 1000000 in
theorem lite_cut (s : ByteArray) (c : UInt8) (w : World) (hs : s.size ≤ 9223372036854775806) :
    Calls Tryz.prog 213 #[.string s, .string ⟨#[c]⟩] w (CutEnd c s.data.toList w) := by
  have hl : s.data.toList.length = s.size := by rw [Array.length_toList]; rfl
  have c1 := Tryz.stringslite_Index_one s c w
  rw [indexByte_idx, hl] at c1
  by_cases h : idx c s.data.toList < s.size
  · rw [if_pos h] at c1
    obtain ⟨i, hi⟩ : ∃ i, i = idx c s.data.toList := ⟨_, rfl⟩
    rw [← hi] at c1 h
    have HI := Lib.hid hi
    clear hi hl
    go_enter Tryz.func213, Tryz.ntmps213
    go_wp2_with (go_at_call 252; refine c1.mono ?_; rintro e w' ⟨rfl, rfl⟩)
    go_quiet (fail)
    go_wp2
    go_ret3
    exact cut_hit HI.out h (below_drewN' (Below.refl _ _) _)
  · rw [if_neg h] at c1
    have H := Lib.hid h
    clear h hl
    go_enter Tryz.func213, Tryz.ntmps213
    go_wp2_with (go_at_call 252; refine c1.mono ?_; rintro e w' ⟨rfl, rfl⟩)
    go_ret3
    exact cut_miss H.out (Below.refl _ _)

theorem cut_any (s : ByteArray) (c : UInt8) (w : World) (hs : s.size ≤ 9223372036854775806) :
    Calls Tryz.prog 185 #[.string s, .string ⟨#[c]⟩] w (CutEnd c s.data.toList w) := by
  have c1 := lite_cut s c w hs
  go_enter Tryz.func185, Tryz.ntmps185
  go_wp2_with (go_at_call 213; refine c1.mono ?_; rintro e w' ⟨rfl, hb⟩)
  go_ret3
  exact ⟨rfl, hb⟩
end Go.Proofs.YtojmkdggkaocdaaGreatDoor.Tx

/-
  A REGION THAT DRAWS ITS ORDER, ALSO ONE WITH CALLS THAT MAKE MEMORY: one walk, in the order of the text, in whatever world of a class S that each call keeps.
-/
namespace Go.Proofs.YtojmkdggkaocdaaGreatDoor.RegS
open Go Go.RowKit
set_option linter.unusedVariables false
set_option maxRecDepth 1000000

/-- A world of the class. -/
structure In (S : World → Prop) where
  w : World
  h : S w
theorem region {P : Program} {id : Nat} {Q : Exit → Act → World → Prop} {a : Act} {w : World} {l : List Oper} (S : World → Prop) (hm : P.follows .mixedOrders = true) (hB : Region.lexB .any l.toArray = true) (hS : S w.drew)
    (h : wpQuiet P l.toArray (fun w' => ∃ u : In S, w' = u.w) (fun a' => ∀ w', (∃ u : In S, w' = u.w) → Q .normal a' w') l a) : (Code.region id l.toArray true).wp P Q a w :=
  wp_region_quiet (C := fun w' => ∃ u : In S, w' = u.w) hm hB ⟨⟨w.drew, hS⟩, rfl⟩ (by simpa using h)
theorem call {P : Program} {f : FuncId} {args : Array Value} {S : World → Prop} {u : In S} {v : Value} {E : Ending → World → Prop}
    (h : Calls P f args u.w E) (hE : ∀ e w', E e w' → e = .returned v ∧ S w') : Calls P f args u.w fun e w'' => e = .returned v ∧ ∃ m : In S, w'' = m.w :=
  h.mono fun e w' he => ⟨(hE e w' he).1, ⟨w', (hE e w' he).2⟩, rfl⟩
end Go.Proofs.YtojmkdggkaocdaaGreatDoor.RegS

/-
  CONTRACTS of the model's FormatDate and of what it calls; nothing that was there before is changed.
-/
namespace Go.Proofs.YtojmkdggkaocdaaGreatDoor.Dt
open Go Go.RowKit
set_option linter.unusedVariables false
set_option maxRecDepth 1000000

def form2 (t y m d : Int) : List UInt8 := dnm (wkd (t / 86400)) ++ [44, 32] ++ Dig.digs d 2 ++ [45] ++ mnm (m - 1).toNat ++ [45] ++ Dig.digs (y % 100) 2 ++ [32] ++ clk (t % 86400) ++ [32, 71, 77, 84]
def dtx (d : Int) : List UInt8 := if d < 10 then [32] ++ Lib.itoa d else Dig.digs d 2
def form3 (t y m d : Int) : List UInt8 := (dnm (wkd (t / 86400))).take 3 ++ [32] ++ mnm (m - 1).toNat ++ [32] ++ dtx d ++ [32] ++ clk (t % 86400) ++ [32] ++ Dig.digs y 4
theorem cut3s (l : List UInt8) : (⟨l.toArray⟩ : ByteArray).extract 0 3 = ⟨(l.take 3).toArray⟩ := by rw [Tx.ext_eq]; simp
def Table (f : Nat → List UInt8) (n : Nat) (w : World) (e : Ending) (w' : World) : Prop := ∃ g, e = .returned (.slice (some ⟨g, 0, none⟩) n n) ∧ (∀ k, k < n → w'.cell? ⟨g, k, none⟩ = some (.string ⟨(f k).toArray⟩)) ∧ Below w.heap.size w w'
theorem days_tab (w : World) : Calls Tryz.prog 163 #[] w (Table dnm 7 w) := by
  go_enter Tryz.func163, Tryz.ntmps163
  go_wp2
  go_ret
  refine ⟨w.heap.size, rfl, fun k hk => ?_, (Below.refl _ _).alloc (Nat.le_refl _) _⟩
  rw [World.cell?_alloc_new]
  match k, hk with
  | 0, _ => rfl | 1, _ => rfl | 2, _ => rfl | 3, _ => rfl | 4, _ => rfl | 5, _ => rfl | 6, _ => rfl
  | k + 7, h => omega
theorem mons_tab (w : World) : Calls Tryz.prog 159 #[] w (Table mnm 12 w) := by
  go_enter Tryz.func159, Tryz.ntmps159
  go_wp2
  go_ret
  refine ⟨w.heap.size, rfl, fun k hk => ?_, (Below.refl _ _).alloc (Nat.le_refl _) _⟩
  rw [World.cell?_alloc_new]
  match k, hk with
  | 0, _ => rfl | 1, _ => rfl | 2, _ => rfl | 3, _ => rfl | 4, _ => rfl | 5, _ => rfl | 6, _ => rfl | 7, _ => rfl | 8, _ => rfl | 9, _ => rfl | 10, _ => rfl | 11, _ => rfl
  | k + 12, h => omega

set_option maxRecDepth 1000000 in
set_option maxHeartbeats 2000000 in
theorem spec_clock (t : Int) (w : World) (h0 : 0 ≤ t) (h1 : t ≤ 4102444799) : Calls Tryz.prog 166 #[.int .i64 t] w fun e w' => e = .returned (.string ⟨(clk (t % 86400)).toArray⟩) ∧ Below w.heap.size w w' := by
  have hs0 : 0 ≤ t % 86400 := by omega
  have hs1 : t % 86400 ≤ 86399 := by omega
  have hs2 : 0 ≤ t % 86400 / 60 := by omega
  have hs3 : t % 86400 / 60 ≤ 1439 := by omega
  have HCK : Hid (clk (t % 86400) = Dig.digs (t % 86400 / 3600) 2 ++ [58] ++ Dig.digs (t % 86400 / 60 % 60) 2 ++ [58] ++ Dig.digs (t % 60) 2) := Lib.hid (by unfold clk; rw [show t % 86400 % 3600 / 60 = t % 86400 / 60 % 60 by omega, show t % 86400 % 60 = t % 60 by omega])
  have HG1 := Lib.hid (fun W => Dig.spec_digits (t % 86400 / 3600) 2 W (by omega))
  have HG2 := Lib.hid (fun W => Dig.spec_digits (t % 86400 / 60 % 60) 2 W (by omega))
  have HG3 := Lib.hid (fun W => Dig.spec_digits (t % 60) 2 W (by omega))
  have l1 := dg2 (n := t % 86400 / 3600) (by omega) 2
  have l2 := dg2 (n := t % 86400 / 60 % 60) (by omega) 2
  have l3 := dg2 (n := t % 60) (by omega) 2
  rw [HCK.out]
  generalize Dig.digs (t % 86400 / 3600) 2 = x1 at HG1 l1 ⊢
  generalize Dig.digs (t % 86400 / 60 % 60) 2 = x2 at HG2 l2 ⊢
  generalize Dig.digs (t % 60) 2 = x3 at HG3 l3 ⊢
  have a1 := Tx.addtwo x1 [58] (by simp only [List.length_cons, List.length_nil]; omega)
  have a2 := Tx.addtwo (x1 ++ [58]) x2 (by simp only [List.length_append, List.length_cons, List.length_nil]; omega)
  have a3 := Tx.addtwo (x1 ++ [58] ++ x2) [58] (by simp only [List.length_append, List.length_cons, List.length_nil]; omega)
  have a4 := Tx.addtwo (x1 ++ [58] ++ x2 ++ [58]) x3 (by simp only [List.length_append, List.length_cons, List.length_nil]; omega)
  generalize x1 ++ [58] = y1 at a1 a2 a3 a4 ⊢
  generalize y1 ++ x2 = y2 at a2 a3 a4 ⊢
  generalize y2 ++ [58] = y3 at a3 a4 ⊢
  generalize y3 ++ x3 = y4 at a4 ⊢
  clear l1 l2 l3 HCK
  go_enter Tryz.func166, Tryz.ntmps166
  go_wp2_with (fail)
  go_at_call 165
  with_reducible refine (HG1.out _).mono ?_
  rintro e w1 ⟨rfl, hb1⟩
  have HB := Lib.hid hb1
  clear hb1
  go_wp2_with (fail)
  go_at_call 165
  with_reducible refine (HG2.out _).mono ?_
  rintro e w2 ⟨rfl, hb2⟩
  have HB := Lib.hid (Base.then_below HB.out hb2)
  clear hb2
  go_wp2_with (fail)
  go_at_call 165
  with_reducible refine (HG3.out _).mono ?_
  rintro e w3 ⟨rfl, hb3⟩
  have HB := Lib.hid (Base.then_below HB.out hb3)
  clear hb3
  go_wp2
  go_ret
  exact ⟨rfl, HB.out⟩
end Go.Proofs.YtojmkdggkaocdaaGreatDoor.Dt

/-
  PLAIN FACTS on dates that are read from their places: a text that is written in one of the three forms has the parts of its time at the places of that form.
-/
namespace Go.Proofs.YtojmkdggkaocdaaGreatDoor.Dt
open Go Go.RowKit
set_option linter.unusedVariables false
set_option maxRecDepth 1000000

def lz (c : UInt8) : Int := if 48 ≤ c.toNat ∧ c.toNat ≤ 57 then c.toNat - 48 else 0
def loose (l : List UInt8) : Int := l.foldl (fun n c => n * 10 + lz c) 0
def dig (c : UInt8) : Bool := decide (48 ≤ c.toNat ∧ c.toNat ≤ 57)
theorem lz_bd (c : UInt8) : 0 ≤ lz c ∧ lz c ≤ 9 := by unfold lz; split <;> omega
theorem digs2 {n : Int} (h0 : 0 ≤ n) (h1 : n ≤ 99) : ∃ a b, Dig.digs n 2 = [a, b] ∧ dig a = true ∧ dig b = true ∧ 10 * lz a + lz b = n := by
  have : ∀ k : Fin 100, (Dig.digs (k.1 : Int) 2).length = 2 ∧ dig ((Dig.digs (k.1 : Int) 2).getD 0 0) = true ∧ dig ((Dig.digs (k.1 : Int) 2).getD 1 0) = true ∧ 10 * lz ((Dig.digs (k.1 : Int) 2).getD 0 0) + lz ((Dig.digs (k.1 : Int) 2).getD 1 0) = (k.1 : Int) := by decide +kernel
  have h := this ⟨n.toNat, by omega⟩
  rw [show ((n.toNat : Nat) : Int) = n by omega] at h
  generalize Dig.digs n 2 = l at h ⊢
  match l, h with
  | [a, b], h => exact ⟨a, b, rfl, h.2.1, h.2.2.1, h.2.2.2⟩
theorem digs4 {n : Int} (h0 : 1970 ≤ n) (h1 : n ≤ 2099) : ∃ a b c d, Dig.digs n 4 = [a, b, c, d] ∧ dig a = true ∧ dig b = true ∧ dig c = true ∧ dig d = true ∧ 1000 * lz a + 100 * lz b + 10 * lz c + lz d = n := by
  have : ∀ k : Fin 130, (Dig.digs (1970 + (k.1 : Int)) 4).length = 4 ∧ dig ((Dig.digs (1970 + (k.1 : Int)) 4).getD 0 0) = true ∧ dig ((Dig.digs (1970 + (k.1 : Int)) 4).getD 1 0) = true ∧ dig ((Dig.digs (1970 + (k.1 : Int)) 4).getD 2 0) = true ∧ dig ((Dig.digs (1970 + (k.1 : Int)) 4).getD 3 0) = true ∧ 1000 * lz ((Dig.digs (1970 + (k.1 : Int)) 4).getD 0 0) + 100 * lz ((Dig.digs (1970 + (k.1 : Int)) 4).getD 1 0) + 10 * lz ((Dig.digs (1970 + (k.1 : Int)) 4).getD 2 0) + lz ((Dig.digs (1970 + (k.1 : Int)) 4).getD 3 0) = 1970 + (k.1 : Int) := by decide +kernel
  have h := this ⟨(n - 1970).toNat, by omega⟩
  rw [show 1970 + (((n - 1970).toNat : Nat) : Int) = n by omega] at h
  generalize Dig.digs n 4 = l at h ⊢
  match l, h with
  | [a, b, c, d], h => exact ⟨a, b, c, d, rfl, h.2.1, h.2.2.1, h.2.2.2.1, h.2.2.2.2.1, h.2.2.2.2.2⟩
theorem dtx2 {n : Int} (h0 : 1 ≤ n) (h1 : n ≤ 31) : ∃ a b, dtx n = [a, b] ∧ (a = 32 ∨ dig a = true) ∧ dig b = true ∧ 10 * lz a + lz b = n := by
  have : ∀ k : Fin 31, (dtx (1 + (k.1 : Int))).length = 2 ∧ ((dtx (1 + (k.1 : Int))).getD 0 0 = 32 ∨ dig ((dtx (1 + (k.1 : Int))).getD 0 0) = true) ∧ dig ((dtx (1 + (k.1 : Int))).getD 1 0) = true ∧ 10 * lz ((dtx (1 + (k.1 : Int))).getD 0 0) + lz ((dtx (1 + (k.1 : Int))).getD 1 0) = 1 + (k.1 : Int) := by decide +kernel
  have h := this ⟨(n - 1).toNat, by omega⟩
  rw [show 1 + (((n - 1).toNat : Nat) : Int) = n by omega] at h
  generalize dtx n = l at h ⊢
  match l, h with
  | [a, b], h => exact ⟨a, b, rfl, h.2.1, h.2.2.1, h.2.2.2⟩
/-- The month with this name; 0 where there is none. -/
def monOf (l : List UInt8) : Int := if mons12.idxOf l < 12 then (mons12.idxOf l : Int) + 1 else 0
theorem monOf_mnm {k : Nat} (h : k < 12) : ∃ a b c, mnm k = [a, b, c] ∧ monOf [a, b, c] = (k : Int) + 1 := by
  have : ∀ k : Fin 12, (mnm k.1).length = 3 ∧ monOf (mnm k.1) = (k.1 : Int) + 1 := by decide +kernel
  have h := this ⟨k, h⟩
  simp only at h
  generalize mnm k = l at h ⊢
  match l, h with
  | [a, b, c], h => exact ⟨a, b, c, rfl, h.2⟩
theorem clk8 {s : Int} (h0 : 0 ≤ s) (h1 : s ≤ 86399) : ∃ a b c d e f, clk s = [a, b, 58, c, d, 58, e, f] ∧ (dig a = true ∧ dig b = true ∧ dig c = true ∧ dig d = true ∧ dig e = true ∧ dig f = true) ∧ 3600 * (10 * lz a + lz b) + 60 * (10 * lz c + lz d) + (10 * lz e + lz f) = s := by
  obtain ⟨a, b, h, q1, q2, q⟩ := digs2 (n := s / 3600) (by omega) (by omega)
  obtain ⟨c, d, i, r1, r2, r⟩ := digs2 (n := s % 3600 / 60) (by omega) (by omega)
  obtain ⟨e, f, j, s1, s2, t⟩ := digs2 (n := s % 60) (by omega) (by omega)
  refine ⟨a, b, c, d, e, f, by unfold clk; rw [h, i, j]; rfl, ⟨q1, q2, r1, r2, s1, s2⟩, by omega⟩
theorem dnm3 {k : Nat} (h : k < 7) : ∃ a b c r, dnm k = a :: b :: c :: r ∧ 3 ≤ r.length ∧ r.length ≤ 6 := by
  have : ∀ k : Fin 7, 6 ≤ (dnm k.1).length ∧ (dnm k.1).length ≤ 9 := by decide
  have h := this ⟨k, h⟩
  simp only at h
  generalize dnm k = l at h ⊢
  match l, h with
  | a :: b :: c :: r, h => exact ⟨a, b, c, r, rfl, by simp at h; omega, by simp at h; omega⟩
def InT (t : Int) : Prop := 0 ≤ t ∧ t ≤ 4102444799
theorem loose2 (a b : UInt8) : loose [a, b] = 10 * lz a + lz b := by simp [loose]; omega
theorem loose4 (a b c d : UInt8) : loose [a, b, c, d] = 1000 * lz a + 100 * lz b + 10 * lz c + lz d := by simp [loose]; omega
theorem loose_snoc (l : List UInt8) (c : UInt8) : loose (l ++ [c]) = loose l * 10 + lz c := by unfold loose; rw [List.foldl_append]; rfl
theorem loose_bd : ∀ (l : List UInt8), 0 ≤ loose l ∧ loose l + 1 ≤ 10 ^ l.length := by
  intro l
  suffices h : ∀ n : Nat, ∀ l : List UInt8, l.length = n → 0 ≤ loose l ∧ loose l + 1 ≤ 10 ^ n by exact h _ l rfl
  intro n
  induction n with
  | zero => intro l h; obtain rfl := List.length_eq_zero_iff.1 h; simp [loose]
  | succ n ih =>
    intro l h
    obtain ⟨t, c, rfl⟩ : ∃ t c, l = t ++ [c] := by
      rcases List.eq_nil_or_concat l with h0 | ⟨t, c, h0⟩
      · subst h0; simp at h
      · exact ⟨t, c, by simpa using h0⟩
    have := ih t (by simp at h; omega)
    have hz := lz_bd c
    rw [loose_snoc]
    have e : (10 : Int) ^ (n + 1) = 10 ^ n * 10 := by rw [Int.pow_succ]
    omega
/-- The number of two digits at an index; -1 if there are none. -/
def tw (l : List UInt8) (k : Nat) : Int := if dig (l.getD k 0) = true ∧ dig (l.getD (k + 1) 0) = true then 10 * lz (l.getD k 0) + lz (l.getD (k + 1) 0) else -1
theorem tw_bd (l : List UInt8) (k : Nat) : -1 ≤ tw l k ∧ tw l k ≤ 99 := by
  unfold tw; have a := lz_bd (l.getD k 0); have b := lz_bd (l.getD (k + 1) 0); split <;> omega
theorem tw_yes {l : List UInt8} {k : Nat} {a b : UInt8} (h1 : l.getD k 0 = a) (h2 : l.getD (k + 1) 0 = b) (ha : dig a = true) (hb : dig b = true) : tw l k = 10 * lz a + lz b := by
  unfold tw; rw [h1, h2, if_pos ⟨ha, hb⟩]
/-- The seconds of a clock, read without a look. -/
def clo (ck : List UInt8) : Int := loose (ck.take 2) * 3600 + loose ((ck.drop 3).take 2) * 60 + loose (ck.drop 6)
def clt (l : List UInt8) (k : Nat) : Int := 3600 * tw l k + 60 * tw l (k + 3) + tw l (k + 6)
theorem clo_bd {ck : List UInt8} (h : ck.length = 8) : 0 ≤ clo ck ∧ clo ck ≤ 362439 := by
  have a := loose_bd (ck.take 2)
  have b := loose_bd ((ck.drop 3).take 2)
  have c := loose_bd (ck.drop 6)
  rw [show (ck.take 2).length = 2 by simp; omega] at a
  rw [show ((ck.drop 3).take 2).length = 2 by simp; omega] at b
  rw [show (ck.drop 6).length = 2 by simp; omega] at c
  unfold clo; omega
theorem clt_bd (l : List UInt8) (k : Nat) : -3661 ≤ clt l k ∧ clt l k ≤ 362439 := by
  have a := tw_bd l k; have b := tw_bd l (k + 3); have c := tw_bd l (k + 6); unfold clt; omega
theorem getD_back (p x : List UInt8) (k j : Nat) (h : k = p.length + j) : (p ++ x).getD k 0 = x.getD j 0 := by
  subst h; simp [List.getD_eq_getElem?_getD, List.getElem?_append_right]
theorem read1 {t y m d : Int} {l : List UInt8} (ht : InT t) (hy0 : 1970 ≤ y) (hy1 : y ≤ 2099) (hm0 : 1 ≤ m) (hm1 : m ≤ 12) (hd0 : 1 ≤ d) (hd1 : d ≤ 31) (h : l = form1 t y m d) :
    l.length = 29 ∧ (loose ((l.drop 12).take 4) = y ∧ monOf ((l.drop 8).take 3) = m ∧ loose ((l.drop 5).take 2) = d ∧ clo ((l.drop 17).take 8) = t % 86400) ∧ (100 * tw l 12 + tw l 14 = y ∧ tw l 5 = d ∧ clt l 17 = t % 86400) := by
  obtain ⟨w1, w2, w3, wr, hw, _, _⟩ := dnm3 (wkd_lt (t / 86400))
  obtain ⟨d1, d2, hd, qd1, qd2, qd⟩ := digs2 (n := d) (by omega) (by omega)
  obtain ⟨m1, m2, m3, hm, qm⟩ := monOf_mnm (k := (m - 1).toNat) (by omega)
  obtain ⟨y1, y2, y3, y4, hy, r1, r2, r3, r4, qy⟩ := digs4 hy0 hy1
  obtain ⟨a, b, c, z, f, g, hc, ⟨s1, s2, s3, s4, s5, s6⟩, qc⟩ := clk8 (s := t % 86400) (by have := ht.1; omega) (by omega)
  have e : l = [w1, w2, w3, 44, 32, d1, d2, 32, m1, m2, m3, 32, y1, y2, y3, y4, 32, a, b, 58, c, z, 58, f, g, 32, 71, 77, 84] := by
    rw [h]; unfold form1; rw [hw, hd, hm, hy, hc]; rfl
  clear h
  subst e
  refine ⟨rfl, ⟨(loose4 y1 y2 y3 y4).trans qy, qm.trans (by omega), (loose2 d1 d2).trans qd, ?_⟩, ?_, ?_, ?_⟩
  · show loose [a, b] * 3600 + loose [c, z] * 60 + loose [f, g] = _
    rw [loose2, loose2, loose2]; omega
  · rw [tw_yes (k := 12) (a := y1) (b := y2) rfl rfl r1 r2, tw_yes (k := 14) (a := y3) (b := y4) rfl rfl r3 r4]; omega
  · rw [tw_yes (k := 5) (a := d1) (b := d2) rfl rfl qd1 qd2]; omega
  · unfold clt; rw [tw_yes (k := 17) (a := a) (b := b) rfl rfl s1 s2, tw_yes (k := 20) (a := c) (b := z) rfl rfl s3 s4, tw_yes (k := 23) (a := f) (b := g) rfl rfl s5 s6]; omega
def dtw (l : List UInt8) : Int := if l.getD 8 0 = 32 then ((l.getD 9 0).toNat : Int) - 48 else tw l 8
theorem read3 {t y m d : Int} {l : List UInt8} (ht : InT t) (hy0 : 1970 ≤ y) (hy1 : y ≤ 2099) (hm0 : 1 ≤ m) (hm1 : m ≤ 12) (hd0 : 1 ≤ d) (hd1 : d ≤ 31) (h : l = form3 t y m d) :
    l.length = 24 ∧ (loose ((l.drop 20).take 4) = y ∧ monOf ((l.drop 4).take 3) = m ∧ loose ((l.drop 8).take 2) = d ∧ clo ((l.drop 11).take 8) = t % 86400) ∧ (100 * tw l 20 + tw l 22 = y ∧ dtw l = d ∧ clt l 11 = t % 86400) := by
  obtain ⟨w1, w2, w3, wr, hw, _, _⟩ := dnm3 (wkd_lt (t / 86400))
  obtain ⟨d1, d2, hd, qd1, qd2, qd⟩ := dtx2 (n := d) (by omega) (by omega)
  obtain ⟨m1, m2, m3, hm, qm⟩ := monOf_mnm (k := (m - 1).toNat) (by omega)
  obtain ⟨y1, y2, y3, y4, hy, r1, r2, r3, r4, qy⟩ := digs4 hy0 hy1
  obtain ⟨a, b, c, z, f, g, hc, ⟨s1, s2, s3, s4, s5, s6⟩, qc⟩ := clk8 (s := t % 86400) (by have := ht.1; omega) (by omega)
  have e : l = [w1, w2, w3, 32, m1, m2, m3, 32, d1, d2, 32, a, b, 58, c, z, 58, f, g, 32, y1, y2, y3, y4] := by
    rw [h]; unfold form3; rw [hw, hd, hm, hy, hc]; rfl
  clear h
  subst e
  refine ⟨rfl, ⟨(loose4 y1 y2 y3 y4).trans qy, qm.trans (by omega), (loose2 d1 d2).trans qd, ?_⟩, ?_, ?_, ?_⟩
  · show loose [a, b] * 3600 + loose [c, z] * 60 + loose [f, g] = _
    rw [loose2, loose2, loose2]; omega
  · rw [tw_yes (k := 20) (a := y1) (b := y2) rfl rfl r1 r2, tw_yes (k := 22) (a := y3) (b := y4) rfl rfl r3 r4]; omega
  · unfold dtw
    show (if d1 = 32 then ((d2.toNat : Nat) : Int) - 48 else _) = d
    split
    · rename_i hs
      subst hs
      have : lz 32 = 0 := by decide
      have h2 : lz d2 = (d2.toNat : Int) - 48 := by unfold lz; unfold dig at qd2; rw [if_pos (by simpa using qd2)]
      omega
    · rename_i hs
      rw [tw_yes (k := 8) (a := d1) (b := d2) rfl rfl (by rcases qd1 with q | q; exact absurd q hs; exact q) qd2]; omega
  · unfold clt; rw [tw_yes (k := 11) (a := a) (b := b) rfl rfl s1 s2, tw_yes (k := 14) (a := c) (b := z) rfl rfl s3 s4, tw_yes (k := 17) (a := f) (b := g) rfl rfl s5 s6]; omega
theorem read2 {t y m d : Int} {l : List UInt8} (ht : InT t) (hy0 : 1970 ≤ y) (hy1 : y ≤ 2099) (hm0 : 1 ≤ m) (hm1 : m ≤ 12) (hd0 : 1 ≤ d) (hd1 : d ≤ 31) (h : l = form2 t y m d) :
    (30 ≤ l.length ∧ l.length ≤ 33) ∧ (loose (((l.drop (l.length - 24)).drop 9).take 2) = y % 100 ∧ monOf (((l.drop (l.length - 24)).drop 5).take 3) = m ∧ loose (((l.drop (l.length - 24)).drop 2).take 2) = d ∧ clo (((l.drop (l.length - 24)).drop 12).take 8) = t % 86400) ∧ (tw l (l.length - 15) = y % 100 ∧ tw l (l.length - 22) = d ∧ clt l (l.length - 12) = t % 86400) := by
  obtain ⟨w1, w2, w3, wr, hw, hw1, hw2⟩ := dnm3 (wkd_lt (t / 86400))
  obtain ⟨d1, d2, hd, qd1, qd2, qd⟩ := digs2 (n := d) (by omega) (by omega)
  obtain ⟨m1, m2, m3, hm, qm⟩ := monOf_mnm (k := (m - 1).toNat) (by omega)
  obtain ⟨y1, y2, hy, r1, r2, qy⟩ := digs2 (n := y % 100) (by omega) (by omega)
  obtain ⟨a, b, c, z, f, g, hc, ⟨s1, s2, s3, s4, s5, s6⟩, qc⟩ := clk8 (s := t % 86400) (by have := ht.1; omega) (by omega)
  obtain ⟨p, hp⟩ : ∃ p, p = w1 :: w2 :: w3 :: wr := ⟨_, rfl⟩
  have hpl : p.length = wr.length + 3 := by rw [hp]; simp
  have e : l = p ++ [44, 32, d1, d2, 45, m1, m2, m3, 45, y1, y2, 32, a, b, 58, c, z, 58, f, g, 32, 71, 77, 84] := by
    rw [h]; unfold form2; rw [hw, hd, hm, hy, hc, hp]; simp
  clear h
  have hl : l.length = p.length + 24 := by rw [e]; simp
  have hdr : l.drop (l.length - 24) = [44, 32, d1, d2, 45, m1, m2, m3, 45, y1, y2, 32, a, b, 58, c, z, 58, f, g, 32, 71, 77, 84] := by
    rw [show l.length - 24 = p.length by omega, e]; simp
  have hg : ∀ k j, k = p.length + j → l.getD k 0 = ([44, 32, d1, d2, 45, m1, m2, m3, 45, y1, y2, 32, a, b, 58, c, z, 58, f, g, 32, 71, 77, 84] : List UInt8).getD j 0 := by
    intro k j hk; rw [e]; exact getD_back _ _ _ _ hk
  rw [hdr]
  refine ⟨by omega, ⟨(loose2 y1 y2).trans qy, qm.trans (by omega), (loose2 d1 d2).trans qd, ?_⟩, ?_, ?_, ?_⟩
  · show loose [a, b] * 3600 + loose [c, z] * 60 + loose [f, g] = _
    rw [loose2, loose2, loose2]; omega
  · rw [tw_yes (k := l.length - 15) (hg _ 9 (by omega)) (hg _ 10 (by omega)) r1 r2]; exact qy
  · rw [tw_yes (k := l.length - 22) (hg _ 2 (by omega)) (hg _ 3 (by omega)) qd1 qd2]; exact qd
  · unfold clt; rw [tw_yes (k := l.length - 12) (hg _ 12 (by omega)) (hg _ 13 (by omega)) s1 s2, tw_yes (k := l.length - 12 + 3) (hg _ 15 (by omega)) (hg _ 16 (by omega)) s3 s4, tw_yes (k := l.length - 12 + 6) (hg _ 18 (by omega)) (hg _ 19 (by omega)) s5 s6]; show 3600 * (10 * lz a + lz b) + 60 * (10 * lz c + lz z) + (10 * lz f + lz g) = _; omega
theorem cv_bd {day y m d : Int} (h : CV day y m d) : 1970 ≤ y ∧ y ≤ 2099 ∧ 1 ≤ m ∧ m ≤ 12 ∧ 1 ≤ d ∧ d ≤ 31 := by
  obtain ⟨a, b, c, e, f, g, _⟩ := h
  have := dim_bd y m c e
  exact ⟨a, b, c, e, f, by omega⟩
theorem dof_pos {y m d : Int} (h : ¬ dof y m d < 0) : CV (dof y m d) y m d := by
  unfold dof at h ⊢
  split at h
  · rename_i q
    rw [if_pos q]
    exact ⟨q.1, q.2.1, q.2.2.1, q.2.2.2.1, q.2.2.2.2.1, q.2.2.2.2.2, rfl⟩
  · omega
theorem dof_bd (y m d : Int) : -1 ≤ dof y m d ∧ dof y m d ≤ 47481 := by
  by_cases h : dof y m d < 0
  · unfold dof at h ⊢
    split
    · rename_i q
      have := dby_bd (y - 1970).toNat
      have := cum_bd y (m - 1).toNat (by omega)
      rw [if_pos q] at h
      omega
    · omega
  · have hc := dof_pos h
    have h1 := cv_rest hc
    have h2 := dby_mono (a := (y - 1970 + 1).toNat) (b := 130) (by have := hc.2.1; omega)
    rw [dby_all] at h2
    omega
end Go.Proofs.YtojmkdggkaocdaaGreatDoor.Dt

/-
  FROM A ROW's LISTED VARIABLES to what the contracts ask of the world: the program's table of months, wherever it stands on the list.
-/
namespace Go.Proofs.YtojmkdggkaocdaaGreatDoor.Laid
open Go
set_option linter.unusedVariables false
set_option maxRecDepth 1000000

theorem of_vars' {P : Program} {w : World} : ∀ {l : List (String × DataW Unit)} {ps : List MemPlace}, DataW.LaidVars P w l ps → ∀ n d, (n, d) ∈ l →
    ∃ g t cs fuel p, P.globalNamed n = some g ∧ (P.globals[g]?).map (·.type) = some t ∧ w.var? P n = some cs ∧ DataW.trod (fun _ => ()) P w 0 (fun _ => true) false fuel t cs.toList = some (d, p)
  | [], _, _, _, _, hm => by cases hm
  | (n', d') :: r, ps, h, n, d, hm => by
    obtain ⟨g, t, cs, fuel, p, q, h1, h2, h3, h4, h5, _⟩ := h
    rcases List.mem_cons.1 hm with e | e
    · cases e
      exact ⟨g, t, cs, fuel, p, h1, h2, h3, h4⟩
    · exact of_vars' h5 n d e
theorem mds_datum : (Rows.laid_loop_example_g03012_impl_monthDays : DataW Unit) = Lib.tabData .i64 Dt.mdays := by kernel_rfl
theorem mds {l : List (String × DataW Unit)} {W : World} (h : laidMet Tryz.prog l W) (hm : ("loop.example/g03012/impl.monthDays", Rows.laid_loop_example_g03012_impl_monthDays) ∈ l) : Dt.Mds W := by
  obtain ⟨ps, hv, _⟩ := h
  obtain ⟨g, t, cs, fuel, p, hg, ht, hvar, hd⟩ := of_vars' hv _ _ hm
  obtain rfl := Option.some.inj ((show Tryz.prog.globalNamed "loop.example/g03012/impl.monthDays" = some 7 by kernel_rfl).symm.trans hg)
  obtain rfl := Option.some.inj ((show (Tryz.prog.globals[7]?).map (·.type) = some 267 by kernel_rfl).symm.trans ht)
  rw [mds_datum] at hd
  unfold Dt.Mds Lib.TabIs
  rw [hvar, ← Lib.cells_of_tab Tryz.underlying267 Tryz.underlying3 (by kernel_rfl) (by kernel_rfl) hd]
end Go.Proofs.YtojmkdggkaocdaaGreatDoor.Laid
