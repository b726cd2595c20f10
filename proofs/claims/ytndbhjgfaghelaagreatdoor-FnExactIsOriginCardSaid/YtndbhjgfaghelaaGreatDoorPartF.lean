/-
  CONTRACTS AND PLAIN FACTS, several texts in one; each says in its own words what it proves.
-/
import Derived.Test.YtndbhjgfaghelaaGreatDoorPartE
import Derived.Test.YtndbhjgfaghelaaGreatDoorPartD
import Derived.Test.YtndbhjgfaghelaaGreatDoorPartA
import Derived.Deep.QuietTactic
import Derived.BigQuiet
import Derived.Test.YtndbhjgfaghelaaGreatDoorPartB
set_option linter.unusedSimpArgs false
set_option linter.unusedVariables false

/-
  PLAIN FACTS on slices of Version (written by rec.py): what a slice holds, how that is kept, and how a slice that the call itself has built is such a one.
-/
namespace Go.Proofs.YtndbhjgfaghelaaGreatDoor.Ver
open Go Go.RowKit
set_option linter.unusedVariables false
set_option maxRecDepth 1000000

theorem info_r : (Tryz.prog.info? 148).map (fun i => (i.zero, i.size, i.bytes)) = some (some (.agg #[.int .i64 0, .string ⟨#[]⟩, .bool false]), 3, 32) := by kernel_rfl

abbrev T : Type := Int × List UInt8 × Bool
def nov : T := (0, [], false)
def cs (f : T) : List Value := [.int .i64 (f.1), .string ⟨(f.2.1).toArray⟩, .bool (f.2.2)]
def fv (f : T) : Value := .agg #[.int .i64 (f.1), .string ⟨(f.2.1).toArray⟩, .bool (f.2.2)]
theorem cs_len (f : T) : (cs f).length = 3 := rfl
theorem cs_one (f : T) : ∀ u ∈ cs f, u.oneCell' = true := by
  intro u hu; simp [cs] at hu; rcases hu with rfl | rfl | rfl <;> rfl
def fcs (l : List T) : List Value := Rec.flat cs l
theorem fcs_len (l : List T) : (fcs l).length = l.length * 3 := Rec.flat_len cs_len l
theorem fcs_more (l : List T) (f : T) : fcs (l ++ [f]) = fcs l ++ [.int .i64 (f.1), .string ⟨(f.2.1).toArray⟩, .bool (f.2.2)] := Rec.flat_more l f
theorem fcs_one (l : List T) : ∀ u ∈ fcs l, u.oneCell' = true := Rec.flat_one cs_one l
theorem fcs_put {l : List T} {k : Nat} (f : T) (h : k < l.length) : (((fcs l).set (k * 3) (.int .i64 (f.1))).set (k * 3 + 1) (.string ⟨(f.2.1).toArray⟩)).set (k * 3 + 2) (.bool (f.2.2)) = fcs (l.set k f) := Rec.flat_put cs_len f h
def Ok (f : T) : Prop := (-9223372036854775808 ≤ f.1 ∧ f.1 ≤ 9223372036854775807) ∧ f.2.1.length ≤ maxLen
/-- The cells from (b, off) on are these. -/
def At (w : World) (b off : Nat) (l : List T) : Prop := Rec.At 3 cs nov w b off l
/-- The slice v reads as l; its cells lie below block B. -/
def Holds (w : World) (B : Nat) (v : Value) (l : List T) : Prop := Rec.Holds 3 cs nov w B v l
abbrev Own (w : World) (B : Nat) (v : Value) (l : List T) : Prop := w.ownsRow B 148 3 v l.length (fcs l)
theorem holds_iff {w : World} {B : Nat} {v : Value} {l : List T} (h : Holds w B v l) : (l = [] ∧ ∃ a cap, v = .slice a 0 cap) ∨ (0 < l.length ∧ ∃ b off cap, v = .slice (some ⟨b, off, none⟩) l.length cap ∧ b < B ∧ l.length ≤ cap ∧ At w b off l) := h
theorem holds_nil (w : World) (B : Nat) (a : Option Addr) (cap : Nat) : Holds w B (.slice a 0 cap) [] := Or.inl ⟨rfl, _, _, rfl⟩
theorem at_cells {w : World} {b off : Nat} {l : List T} (h : At w b off l) {j : Nat} (hj : j < l.length) : w.cell? ⟨b, off + j * 3, none⟩ = some (.int .i64 ((l.getD j nov).1)) ∧ w.cell? ⟨b, off + j * 3 + 1, none⟩ = some (.string ⟨((l.getD j nov).2.1).toArray⟩) ∧ w.cell? ⟨b, off + j * 3 + 2, none⟩ = some (.bool ((l.getD j nov).2.2)) := ⟨h j hj 0 _ rfl, h j hj 1 _ rfl, h j hj 2 _ rfl⟩
theorem at_lt {w : World} {b off : Nat} {l : List T} (h : At w b off l) (h0 : 0 < l.length) : b < w.heap.size := Rec.at_lt cs_len (by decide) h h0
theorem at_below {w w' : World} {B b off : Nat} {l : List T} (h : At w b off l) (hb : Below B w w') (hlt : b < B) : At w' b off l := Rec.at_below h hb hlt
theorem holds_more {w : World} {B B' : Nat} {v : Value} {l : List T} (h : Holds w B v l) (hB : B ≤ B') : Holds w B' v l := Rec.holds_more h hB
theorem holds_below {w w' : World} {B : Nat} {v : Value} {l : List T} (h : Holds w B v l) (hb : Below B w w') : Holds w' B v l := Rec.holds_below h hb
theorem holds_grown {w w' : World} {B : Nat} {v : Value} {l : List T} {row : Option Nat} (h : Holds w B v l) (hg : w.grownBy w' row) (hr : ∀ k, row = some k → B ≤ k) : Holds w' B v l := Rec.holds_grown h hg hr
theorem own_len {w : World} {B : Nat} {v : Value} {l : List T} {n : Nat} (h : w.ownsRow B 148 3 v n (fcs l)) : n = l.length := Rec.own_len cs_len (by decide) h
theorem own_cells {w : World} {B g cap : Nat} {l : List T} {n : Nat} (h : w.ownsRow B 148 3 (.slice (some ⟨g, 0, none⟩) n cap) n (fcs l)) {j : Nat} (hj : j < n) : w.cell? ⟨g, j * 3, none⟩ = some (.int .i64 ((l.getD j nov).1)) ∧ w.cell? ⟨g, j * 3 + 1, none⟩ = some (.string ⟨((l.getD j nov).2.1).toArray⟩) ∧ w.cell? ⟨g, j * 3 + 2, none⟩ = some (.bool ((l.getD j nov).2.2)) :=
  ⟨Rec.own_cell (z := nov) (i := 0) cs_len (by decide) h hj rfl, Rec.own_cell (z := nov) (i := 1) cs_len (by decide) h hj rfl, Rec.own_cell (z := nov) (i := 2) cs_len (by decide) h hj rfl⟩
theorem own_holds {w : World} {B : Nat} {v : Value} {l : List T} (h : Own w B v l) : Holds w w.heap.size v l := Rec.own_holds cs_len (by decide) h
theorem own_mono {w : World} {B B' : Nat} {v : Value} {l : List T} (h : Own w B v l) (hB : B' ≤ B) : Own w B' v l := Rec.own_mono h hB
theorem row_below {w w' : World} {B n : Nat} {v : Value} {xs : List Value} (h : w.ownsRow B 148 3 v n xs) (hb : Below w.heap.size w w') : w'.ownsRow B 148 3 v n xs := Rec.row_below h hb
theorem row_grown {w w' : World} {B n : Nat} {v : Value} {xs : List Value} {row : Option Nat} (h : w.ownsRow B 148 3 v n xs) (hg : w.grownBy w' row) (hr : ∀ g, v.ownBlock = some g → some g ≠ row) : w'.ownsRow B 148 3 v n xs := Rec.row_grown h hg hr
theorem push_own {B : Nat} {a w w1 : World} {v v' : Value} {l : List T} {f : T} {o : Obj} (hown : Own w B v l) (hb : Below a.heap.size a w) (hB : a.heap.size ≤ B)
    (h' : w1.ownsRow B 148 3 v' (l.length + 1) (fcs l ++ [.int .i64 (f.1), .string ⟨(f.2.1).toArray⟩, .bool (f.2.2)])) (hg : (w.alloc o).grownBy w1 v.ownBlock) : Own w1 B v' (l ++ [f]) ∧ Below a.heap.size a w1 := Rec.push_own hown hb hB h' hg
theorem own_lit_nil (w : World) : Own (w.alloc (.cells #[] 148)) w.heap.size (.slice (some ⟨w.heap.size, 0, none⟩) 0 0) [] := Rec.own_lit_nil w _
theorem holds_drew {w : World} {B : Nat} {v : Value} {l : List T} (h : Holds w B v l) : Holds w.drew B v l := h
theorem row_drew {w : World} {B n : Nat} {v : Value} {xs : List Value} (h : w.ownsRow B 148 3 v n xs) : w.drew.ownsRow B 148 3 v n xs := h
def part (l : List T) (k : Nat) : List T := Rec.part nov l k
theorem part_len (l : List T) {k : Nat} (h : k ≤ l.length) : (part l k).length = l.length := Rec.part_len l h
theorem part_all (l : List T) : part l l.length = l := Rec.part_all l
theorem part_more {l : List T} {k : Nat} (h : k < l.length) : (part l k).set k (l.getD k nov) = part l (k + 1) := Rec.part_more h
theorem made_part (l : List T) : (madeCells (Value.agg #[.int .i64 0, .string ⟨#[]⟩, .bool false]).cells (l.length * 3)).toList = fcs (part l 0) := Rec.made_part cs_len (by decide) l _ rfl
def wt (f : T) : Nat := f.2.1.length
def total (l : List T) : Nat := Rec.total wt l
theorem len_le_total (l : List T) : l.length ≤ total l := Rec.len_le_total wt l
theorem mem_total {l : List T} {f : T} (h : f ∈ l) : wt f ≤ total l := Rec.mem_total wt h
end Go.Proofs.YtndbhjgfaghelaaGreatDoor.Ver

/-
  PLAIN FACTS on what a page of an origin must be like: its languages and its versions, one behind the other.
-/
namespace Go.Proofs.YtndbhjgfaghelaaGreatDoor.Orc
open Go Go.RowKit
set_option linter.unusedVariables false
set_option maxRecDepth 1000000

theorem range_more (f : Nat → Bool) (k : Nat) : (List.range (k + 1)).all f = ((List.range k).all f && f k) := by
  rw [List.range_succ, List.all_append]; simp
theorem range_bad {f : Nat → Bool} {k n : Nat} (h : k < n) (hf : f k = false) : (List.range n).all f = false := by
  rw [List.all_eq_false]; exact ⟨k, List.mem_range.2 h, by rw [hf]; decide⟩
theorem range_step {f : Nat → Bool} {k : Nat} (h : (List.range k).all f = true) (hf : f k = true) : (List.range (k + 1)).all f = true := by rw [range_more, h, hf]; rfl

/-- A language's own form. -/
def langForm (g : List UInt8) : Bool := Tx.nameOk g && (decide (g.length ≤ 8) && !(g == [42]))
/-- The language at i is none of those before it, and well formed. -/
def langAt (gs : List (List UInt8)) (i : Nat) : Bool := (List.range i).all (fun k => !(gs.getD k [] == gs.getD i [])) && langForm (gs.getD i [])
def langsOk (gs : List (List UInt8)) : Bool := (List.range gs.length).all (langAt gs)
theorem lang_dup {gs : List (List UInt8)} {i k : Nat} (hk : k < i) (hi : i < gs.length) (h : gs.getD k [] = gs.getD i []) : langsOk gs = false := by
  refine range_bad hi ?_
  unfold langAt
  rw [range_bad hk (by rw [h]; simp)]
  rfl
theorem lang_bad {gs : List (List UInt8)} {i : Nat} (hi : i < gs.length) (h : langForm (gs.getD i []) = false) : langsOk gs = false := by
  refine range_bad hi ?_
  unfold langAt
  rw [h, Bool.and_false]
theorem lang_step {gs : List (List UInt8)} {i : Nat} (ha : (List.range i).all (langAt gs) = true) (hd : (List.range i).all (fun k => !(gs.getD k [] == gs.getD i [])) = true) (hf : langForm (gs.getD i []) = true) : (List.range (i + 1)).all (langAt gs) = true := by
  refine range_step ha ?_
  unfold langAt
  rw [hd, hf]; rfl
theorem diff_step {gs : List (List UInt8)} {i k : Nat} (ha : (List.range k).all (fun k => !(gs.getD k [] == gs.getD i [])) = true) (h : gs.getD k [] ≠ gs.getD i []) : (List.range (k + 1)).all (fun k => !(gs.getD k [] == gs.getD i [])) = true :=
  range_step ha (by simpa using h)

/-- A version's own form. -/
def verForm (f : Ver.T) : Bool := decide (0 ≤ f.1 ∧ f.1 ≤ 4102444799) && decide (f.2.1.length ≤ 400)
def verAt (vs : List Ver.T) (i : Nat) : Bool := verForm (vs.getD i Ver.nov) && (i == 0 || decide ((vs.getD (i - 1) Ver.nov).1 < (vs.getD i Ver.nov).1))
def versOk (vs : List Ver.T) : Bool := (List.range vs.length).all (verAt vs)
theorem ver_bad {vs : List Ver.T} {i : Nat} (hi : i < vs.length) (h : verForm (vs.getD i Ver.nov) = false) : versOk vs = false := by
  refine range_bad hi ?_
  unfold verAt
  rw [h]; rfl
theorem ver_late {vs : List Ver.T} {i : Nat} (hi : i < vs.length) (h0 : 0 < i) (h : ¬ (vs.getD (i - 1) Ver.nov).1 < (vs.getD i Ver.nov).1) : versOk vs = false := by
  refine range_bad hi ?_
  unfold verAt
  rw [decide_eq_false h, Bool.or_false, show (i == 0) = false by simp; omega, Bool.and_false]
theorem ver_step {vs : List Ver.T} {i : Nat} (ha : (List.range i).all (verAt vs) = true) (hf : verForm (vs.getD i Ver.nov) = true) (h : i = 0 ∨ (vs.getD (i - 1) Ver.nov).1 < (vs.getD i Ver.nov).1) : (List.range (i + 1)).all (verAt vs) = true := by
  refine range_step ha ?_
  unfold verAt
  rw [hf]
  rcases h with h | h
  · subst h; rfl
  · rw [decide_eq_true h]; simp

/-- The rest of what a page must be like; nt tells whether its target stands in its one way. -/
def restOk (nt : Bool) (t c k : List UInt8) (n m : Nat) : Bool := nt && (decide (t.length ≤ 100) && (Tx.valOk c && (decide (c.length ≤ 150) && (keysOk k && (decide (n ≤ 4) && decide (1 ≤ m ∧ m ≤ 8))))))
def resOk (nt : Bool) (t c k : List UInt8) (gs : List (List UInt8)) (vs : List Ver.T) : Bool := langsOk gs && (versOk vs && restOk nt t c k gs.length vs.length)
theorem res_langs {nt : Bool} {t c k : List UInt8} {gs : List (List UInt8)} {vs : List Ver.T} (h : langsOk gs = false) : resOk nt t c k gs vs = false := by unfold resOk; rw [h]; rfl
theorem res_vers {nt : Bool} {t c k : List UInt8} {gs : List (List UInt8)} {vs : List Ver.T} (h : versOk vs = false) : resOk nt t c k gs vs = false := by unfold resOk; rw [h]; simp
theorem res_rest {nt : Bool} {t c k : List UInt8} {gs : List (List UInt8)} {vs : List Ver.T} (h1 : langsOk gs = true) (h2 : versOk vs = true) : resOk nt t c k gs vs = restOk nt t c k gs.length vs.length := by unfold resOk; rw [h1, h2]; rfl
end Go.Proofs.YtndbhjgfaghelaaGreatDoor.Orc

/-
  A REGION THAT DRAWS ITS ORDER, ALSO ONE WITH CALLS THAT MAKE MEMORY: one walk, in the order of the text, in whatever world of a class S that each call keeps.
-/
namespace Go.Proofs.YtndbhjgfaghelaaGreatDoor.RegS
open Go Go.RowKit
set_option linter.unusedVariables false
set_option maxRecDepth 1000000

/-- A world of the class. -/
structure In (S : World → Prop) where
  w : World
  h : S w
theorem region {P : Program} {id : Nat} {Q : Exit → Act → World → Prop} {a : Act} {w : World} {l : List Oper} (S : World → Prop) (hm : P.follows .mixedOrders = true) (hB : Region.lexB .any l.toArray = true) (hS : S w.drew)
    (h : wpQuiet P l.toArray (fun w' => ∃ u : In S, w' = u.w) (fun a' => ∀ w', (∃ u : In S, w' = u.w) → Q .normal a' w') l a) : (Code.region id l.toArray true).wp P Q a w :=
  wp_region_quiet (C := fun w' => ∃ u : In S, w' = u.w) hm hB ⟨⟨w.drew, hS⟩, rfl⟩ (by simpa using h)
theorem call {P : Program} {f : FuncId} {args : Array Value} {S : World → Prop} {u : In S} {v : Value} {E : Ending → World → Prop}
    (h : Calls P f args u.w E) (hE : ∀ e w', E e w' → e = .returned v ∧ S w') : Calls P f args u.w fun e w'' => e = .returned v ∧ ∃ m : In S, w'' = m.w :=
  h.mono fun e w' he => ⟨(hE e w' he).1, ⟨w', (hE e w' he).2⟩, rfl⟩
end Go.Proofs.YtndbhjgfaghelaaGreatDoor.RegS

/-
  CONTRACT of the model's l15Resource: at any page it answers whether its languages, its versions and the rest are as they must be; nothing that was there before is changed.
-/
namespace Go.Proofs.YtndbhjgfaghelaaGreatDoor.Orc
open Go Go.RowKit
set_option linter.unusedVariables false
set_option maxRecDepth 1000000

def GrowS (w wr w' : World) : Prop := Below wr.heap.size wr w' ∧ Below w.heap.size w w'
theorem grow_call {w wr u w' : World} (h : GrowS w wr u) (hb : Below u.heap.size u w') : GrowS w wr w' := ⟨Base.then_below h.1 hb, Base.then_below h.2 hb⟩
theorem grow_old {w wr u : World} (h : GrowS w wr u) {b o : Nat} {x : Value} (hc : wr.cell? ⟨b, o, none⟩ = some x) : u.cell? ⟨b, o, none⟩ = some x := (h.1.cell (p := ⟨b, o, none⟩) (Rec.lt_of_cell hc)).trans hc
theorem shape_r {w : World} {B : Nat} {v : Value} {l : List Ver.T} (h : Ver.Holds w B v l) : ∃ a cap, v = .slice a l.length cap ∧ (0 < l.length → ∃ b off, a = some ⟨b, off, none⟩ ∧ b < B ∧ Ver.At w b off l) := by
  rcases Ver.holds_iff h with ⟨rfl, a, cap, rfl⟩ | ⟨h0, b, off, cap, rfl, hb, _, hc⟩
  · exact ⟨a, cap, rfl, fun h => by simp at h⟩
  · exact ⟨_, cap, rfl, fun _ => ⟨b, off, rfl, hb, hc⟩⟩

set_option maxHeartbeats 16000000 in
theorem spec_res (nt : Bool) (t c k : List UInt8) (p : Bool) (u v : Value) (gs : List (List UInt8)) (vs : List Ver.T) (B : Nat) (w : World) (hu : Strs.Holds w B u gs) (hv : Ver.Holds w B v vs) (hB : B ≤ w.heap.size)
    (ht : t.length ≤ 1048576) (hc : c.length ≤ 1048576) (hk : k.length ≤ 1048576) (hg : gs.length ≤ 1048576) (hgx : ∀ x ∈ gs, x.length ≤ 1048576) (hvl : vs.length ≤ 1048576)
    (hnt : ∀ W : World, Calls Tryz.prog 113 #[.string ⟨t.toArray⟩] W fun e w' => e = .returned (.bool nt) ∧ Below W.heap.size W w') :
    Calls Tryz.prog 69 #[.agg #[.string ⟨t.toArray⟩, .string ⟨c.toArray⟩, .string ⟨k.toArray⟩, .bool p, u, v]] w fun e w' => e = .returned (.bool (resOk nt t c k gs vs)) ∧ Below w.heap.size w w' := by
  obtain ⟨ag, cg, rfl, hag⟩ := shape_k hu
  obtain ⟨av, cv, rfl, hav⟩ := shape_r hv
  have HAG := Lib.hid hag
  have HAV := Lib.hid hav
  have HNT := Lib.hid hnt
  have HGX := Lib.hid hgx
  obtain ⟨V, hV⟩ : ∃ V, V = (w.alloc (.cells #[.string ⟨t.toArray⟩, .string ⟨c.toArray⟩, .string ⟨k.toArray⟩, .bool p, .slice ag gs.length cg, .slice av vs.length cv] 107)) := ⟨_, rfl⟩
  have HB0 : Hid (Below w.heap.size w V) := Lib.hid (by rw [hV]; exact (Below.refl _ _).alloc (Nat.le_refl _) _)
  have x0 : V.cell? ⟨w.heap.size, 0, none⟩ = some (.string ⟨t.toArray⟩) := by rw [hV, World.cell?_alloc_new]; rfl
  have x1 : V.cell? ⟨w.heap.size, 1, none⟩ = some (.string ⟨c.toArray⟩) := by rw [hV, World.cell?_alloc_new]; rfl
  have x2 : V.cell? ⟨w.heap.size, 2, none⟩ = some (.string ⟨k.toArray⟩) := by rw [hV, World.cell?_alloc_new]; rfl
  have x4 : V.cell? ⟨w.heap.size, 4, none⟩ = some (.slice ag gs.length cg) := by rw [hV, World.cell?_alloc_new]; rfl
  have x5 : V.cell? ⟨w.heap.size, 5, none⟩ = some (.slice av vs.length cv) := by rw [hV, World.cell?_alloc_new]; rfl
  have HX := Lib.hid (And.intro x0 (And.intro x1 (And.intro x2 (And.intro x4 x5))))
  have HVV := Lib.hid hV
  have HSV : Hid (w.heap.size ≤ V.heap.size) := Lib.hid HB0.out.size
  clear hV
  clear hu hv hag hav hnt hgx x0 x1 x2 x4 x5
  go_enter Tryz.func69, Tryz.ntmps69
  go_wp2
  go_loopw [3] (fun i wr => ∃ n : Nat, n ≤ gs.length ∧ i = .int .i64 (n : Int) ∧ Hid ((List.range n).all (langAt gs) = true) ∧ Hid (GrowS w V wr)) (fun i _ => gs.length - (intOf i).toNat)
  case atStart => exact ⟨0, Nat.zero_le _, rfl, Lib.hid rfl, Lib.hid (by rw [← HVV.out]; exact ⟨Below.refl _ _, HB0.out⟩)⟩
  case round =>
    obtain ⟨n, hn, rfl, HL, HG⟩ := hrel
    have b4 := grow_old HG.out HX.out.2.2.2.1
    by_cases hlt : n < gs.length
    · obtain ⟨b, off, rfl, hbl, hat⟩ := HAG.out (by omega)
      have HAT := Lib.hid hat
      clear hat
      have hni : (n : Int) < (gs.length : Int) := by omega
      go_wp2
      go_loopw [4] (fun j wq => ∃ m : Nat, m ≤ n ∧ j = .int .i64 (m : Int) ∧ Hid ((List.range m).all (fun k => !(gs.getD k [] == gs.getD n [])) = true) ∧ Hid (GrowS w V wq)) (fun j _ => n - (intOf j).toNat)
      case atStart => exact ⟨0, Nat.zero_le _, rfl, Lib.hid rfl, HG⟩
      case round =>
        obtain ⟨m, hm, rfl, HD, HG2⟩ := hrel
        have q4 := grow_old HG2.out HX.out.2.2.2.1
        have HSD : Hid (GrowS w V wr.drew) := Lib.hid ⟨Rec.below_drew HG2.out.1, Rec.below_drew HG2.out.2⟩
        have a1 := Strs.at_below HAT.out HG2.out.2 (by omega)
        by_cases hmn : m < n
        · have hmi : (m : Int) < (n : Int) := by omega
          have hml : (m : Int) < (gs.length : Int) := by omega
          have k4 : ∀ u : RegS.In (GrowS w V), u.w.cell? ⟨w.heap.size, 4, none⟩ = some (.slice (some ⟨b, off, none⟩) gs.length cg) := fun u => grow_old u.h HX.out.2.2.2.1
          have km : ∀ u : RegS.In (GrowS w V), u.w.cell? ⟨b, off + m, none⟩ = some (Strs.sv (gs.getD m [])) := fun u => Strs.at_below HAT.out u.h.2 (by omega) m (by omega)
          have kn : ∀ u : RegS.In (GrowS w V), u.w.cell? ⟨b, off + n, none⟩ = some (Strs.sv (gs.getD n [])) := fun u => Strs.at_below HAT.out u.h.2 (by omega) n (by omega)
          have HDUP := Lib.hid (fun h => lang_dup (gs := gs) hmn hlt h)
          have HDIF := Lib.hid (fun h => diff_step (gs := gs) HD.out h)
          generalize hx : gs.getD m [] = x at km HDUP
          generalize hy : gs.getD n [] = y at kn HDUP
          unfold Strs.sv at km kn
          by_cases hxy : x = y
          · have HZ := Lib.hid (res_langs (nt := nt) (t := t) (c := c) (k := k) (vs := vs) (HDUP.out hxy))
            subst hxy
            clear a1 q4 HDIF HDUP hx hy
            go_wp2
            refine RegS.region (GrowS w V) (by kernel_rfl) (by kernel_rfl) HSD.out ?_
            haveI : Nonempty (RegS.In (GrowS w V)) := ⟨⟨_, HSD.out⟩⟩
            repeat (first | go_big_quiet_step (fail) | quiet_step (fail))
            refine wpQuiet_nil ?_
            intro wz hw'
            obtain ⟨⟨wy, hSq⟩, hw''⟩ := hw'
            have hS : GrowS w V wz := by rw [hw'']; exact hSq
            have HS := Lib.hid hS
            clear hw'' hSq hS
            clear k4 km kn
            go_wp2
            go_ret
            exact ⟨by rw [HZ.out]; rfl, HS.out.2⟩
          · have HZ := Lib.hid (HDIF.out (by rw [hx, hy]; exact hxy))
            rw [hy] at HZ
            have hxb : (x == y) = false := by simpa using hxy
            clear a1 q4 HDIF HDUP hx hy
            go_wp2
            refine RegS.region (GrowS w V) (by kernel_rfl) (by kernel_rfl) HSD.out ?_
            haveI : Nonempty (RegS.In (GrowS w V)) := ⟨⟨_, HSD.out⟩⟩
            repeat (first | go_big_quiet_step (fail) | quiet_step (fail))
            refine wpQuiet_nil ?_
            intro wz hw'
            obtain ⟨⟨wy, hSq⟩, hw''⟩ := hw'
            have hS : GrowS w V wz := by rw [hw'']; exact hSq
            have HS := Lib.hid hS
            clear hw'' hSq hS
            clear k4 km kn
            go_wp2
            go_roundw
            case rel => exact ⟨m + 1, by omega, by go_num, HZ, HS⟩
            case measure => simp [intOf]; omega
        · obtain rfl : m = n := by omega
          have hmi : ¬ (m : Int) < (m : Int) := by omega
          have kn := a1 m hlt
          have hxl := HGX.out _ (show gs.getD m [] ∈ gs by rw [show gs.getD m [] = gs[m] by simp [List.getD, hlt]]; exact List.getElem_mem _)
          have HBAD := Lib.hid (fun h => lang_bad (gs := gs) hlt h)
          have HSTP := Lib.hid (fun h => lang_step (gs := gs) HL.out HD.out h)
          generalize gs.getD m [] = x at kn hxl HBAD HSTP
          unfold Strs.sv at kn
          have HN := Lib.hid (fun W => Tx.spec_name x W (by omega))
          clear a1 HL HD HG HSD
          cases hq : Tx.nameOk x with
          | false =>
            have HZ := Lib.hid (res_langs (nt := nt) (t := t) (c := c) (k := k) (vs := vs) (HBAD.out (by unfold langForm; rw [hq]; rfl)))
            rw [hq] at HN
            clear HBAD HSTP hq
            go_wp2_with (fail)
            go_at_call 112
            refine (HN.out _).mono ?_
            rintro e w5 ⟨rfl, b5⟩
            have HS := Lib.hid (grow_call HG2.out b5)
            clear b5 HN kn q4
            go_wp2
            go_ret
            exact ⟨by rw [HZ.out]; rfl, HS.out.2⟩
          | true =>
            rw [hq] at HN
            go_wp2_with (fail)
            go_at_call 112
            refine (HN.out _).mono ?_
            rintro e w5 ⟨rfl, b5⟩
            have HS := Lib.hid (grow_call HG2.out b5)
            have r4 := grow_old HS.out HX.out.2.2.2.1
            have rn : w5.cell? ⟨b, off + m, none⟩ = some (.string ⟨x.toArray⟩) := (b5.cell (p := ⟨b, off + m, none⟩) (Rec.lt_of_cell kn)).trans kn
            clear b5 HN kn q4
            by_cases h8 : x.length ≤ 8
            · have h8i : ¬ (8 : Int) < (x.length : Int) := by omega
              by_cases hst : x = [42]
              · have HZ := Lib.hid (res_langs (nt := nt) (t := t) (c := c) (k := k) (vs := vs) (HBAD.out (by unfold langForm; rw [hst]; decide)))
                subst hst
                clear HBAD HSTP hq
                go_wp2
                go_ret
                exact ⟨by rw [HZ.out]; rfl, HS.out.2⟩
              · have hsb : (x == [42]) = false := by simpa using hst
                have HZ := Lib.hid (HSTP.out (by unfold langForm; rw [hq, hsb]; simp [h8]))
                clear HBAD HSTP hq
                go_wp2
                go_roundw
                case rel => exact ⟨m + 1, by omega, by go_num, HZ, HS⟩
                case measure => simp [intOf]; omega
            · have h8i : (8 : Int) < (x.length : Int) := by omega
              have HZ := Lib.hid (res_langs (nt := nt) (t := t) (c := c) (k := k) (vs := vs) (HBAD.out (by unfold langForm; rw [decide_eq_false h8]; simp)))
              clear HBAD HSTP hq
              go_wp2
              go_ret
              exact ⟨by rw [HZ.out]; rfl, HS.out.2⟩
    · have hni : ¬ (n : Int) < (gs.length : Int) := by omega
      obtain rfl : n = gs.length := by omega
      have HLS : Hid (langsOk gs = true) := HL
      have HG0 := HG
      clear HL HG hlt hn
      go_wp2
      go_loopw [5] (fun i wr => ∃ n : Nat, n ≤ vs.length ∧ i = .int .i64 (n : Int) ∧ Hid ((List.range n).all (verAt vs) = true) ∧ Hid (GrowS w V wr)) (fun i _ => vs.length - (intOf i).toNat)
      case atStart => exact ⟨0, Nat.zero_le _, rfl, Lib.hid rfl, HG0⟩
      case round =>
        obtain ⟨n, hn, rfl, HL, HG⟩ := hrel
        have b5 := grow_old HG.out HX.out.2.2.2.2
        by_cases hlt : n < vs.length
        · obtain ⟨bv, ov, rfl, hbv, hvt⟩ := HAV.out (by omega)
          have hat := Ver.at_below hvt HG.out.2 (by omega)
          obtain ⟨c0, c1, c2⟩ := Ver.at_cells hat hlt
          have HBAD := Lib.hid (fun h => ver_bad (vs := vs) hlt h)
          have HLATE := Lib.hid (fun h0 h => ver_late (vs := vs) hlt h0 h)
          have HSTP := Lib.hid (fun hf h => ver_step (vs := vs) HL.out hf h)
          have HPV : Hid (∀ j, n = j + 1 → wr.cell? ⟨bv, ov + j * 3, none⟩ = some (.int .i64 (vs.getD j Ver.nov).1)) := Lib.hid (fun j hj => (Ver.at_cells hat (j := j) (by omega)).1)
          generalize vs.getD n Ver.nov = f at c0 c1 c2 HBAD HLATE HSTP
          obtain ⟨a, tx, gn⟩ := f
          dsimp only at c0 c1 c2 HLATE HSTP
          have hni : (n : Int) < (vs.length : Int) := by omega
          have hba : Below wr.heap.size wr (wr.alloc (.cells #[.int .i64 a, .string ⟨tx.toArray⟩, .bool gn] 148)) := (Below.refl _ _).alloc (Nat.le_refl _) _
          have HWN : Hid (GrowS w V (wr.alloc (.cells #[.int .i64 a, .string ⟨tx.toArray⟩, .bool gn] 148))) := Lib.hid (grow_call HG.out hba)
          have HBA := Lib.hid hba
          have SV : Hid (∀ u, GrowS w (wr.alloc (.cells #[.int .i64 a, .string ⟨tx.toArray⟩, .bool gn] 148)) u → GrowS w V u) := Lib.hid (fun u hu => ⟨Base.then_below HWN.out.1 hu.1, hu.2⟩)
          have SI : Hid (∀ u w', GrowS w (wr.alloc (.cells #[.int .i64 a, .string ⟨tx.toArray⟩, .bool gn] 148)) u → u = w' → GrowS w (wr.alloc (.cells #[.int .i64 a, .string ⟨tx.toArray⟩, .bool gn] 148)) w') := Lib.hid (fun u w' h e => e ▸ h)
          have HSD : Hid (GrowS w (wr.alloc (.cells #[.int .i64 a, .string ⟨tx.toArray⟩, .bool gn] 148)) (wr.alloc (.cells #[.int .i64 a, .string ⟨tx.toArray⟩, .bool gn] 148)).drew) := Lib.hid ⟨Rec.below_drew (Below.refl _ _), Rec.below_drew HWN.out.2⟩
          have n0 : (wr.alloc (.cells #[.int .i64 a, .string ⟨tx.toArray⟩, .bool gn] 148)).cell? ⟨wr.heap.size, 0, none⟩ = some (.int .i64 a) := by rw [World.cell?_alloc_new]; rfl
          have n1 : (wr.alloc (.cells #[.int .i64 a, .string ⟨tx.toArray⟩, .bool gn] 148)).cell? ⟨wr.heap.size, 1, none⟩ = some (.string ⟨tx.toArray⟩) := by rw [World.cell?_alloc_new]; rfl
          have e0 : ∀ u : RegS.In (GrowS w (wr.alloc (.cells #[.int .i64 a, .string ⟨tx.toArray⟩, .bool gn] 148))), u.w.cell? ⟨wr.heap.size, 0, none⟩ = some (.int .i64 a) := fun u => grow_old u.h n0
          have e1 : ∀ u : RegS.In (GrowS w (wr.alloc (.cells #[.int .i64 a, .string ⟨tx.toArray⟩, .bool gn] 148))), u.w.cell? ⟨wr.heap.size, 1, none⟩ = some (.string ⟨tx.toArray⟩) := fun u => grow_old u.h n1
          have e5 : ∀ u : RegS.In (GrowS w (wr.alloc (.cells #[.int .i64 a, .string ⟨tx.toArray⟩, .bool gn] 148))), u.w.cell? ⟨w.heap.size, 5, none⟩ = some (.slice (some ⟨bv, ov, none⟩) vs.length cv) := fun u => grow_old (SV.out _ u.h) HX.out.2.2.2.2
          clear n0 n1 hba hat hvt
          by_cases hin : 0 ≤ a ∧ a ≤ 4102444799
          · have HIN : Hid (∀ u : RegS.In (GrowS w (wr.alloc (.cells #[.int .i64 a, .string ⟨tx.toArray⟩, .bool gn] 148))), Calls Tryz.prog 90 #[.int .i64 a, .int .i64 0, .int .i64 4102444799] u.w fun e w' => e = .returned (.bool true) ∧ u.w = w') := Lib.hid (fun u => NumDiv.in_yes a 0 4102444799 u.w hin.1 hin.2)
            by_cases h4 : tx.length ≤ 400
            · have h4i : ¬ (400 : Int) < (tx.length : Int) := by omega
              have hf : verForm (a, tx, gn) = true := by unfold verForm; rw [decide_eq_true hin, decide_eq_true (show (a, tx, gn).2.1.length ≤ 400 from h4)]; rfl
              by_cases hn0 : n = 0
              · subst hn0
                simp only [Nat.zero_mul, Nat.add_zero, Nat.zero_add] at c0 c1 c2
                have HZ := Lib.hid (HSTP.out hf (Or.inl rfl))
                clear HBAD HLATE HSTP HPV hf hin
                go_wp2
                refine RegS.region (GrowS w (wr.alloc (.cells #[.int .i64 a, .string ⟨tx.toArray⟩, .bool gn] 148))) (by kernel_rfl) (by kernel_rfl) HSD.out ?_
                haveI : Nonempty (RegS.In (GrowS w (wr.alloc (.cells #[.int .i64 a, .string ⟨tx.toArray⟩, .bool gn] 148)))) := ⟨⟨_, HSD.out⟩⟩
                repeat (first | go_big_quiet_step (first | (go_at_call 90; with_reducible exact RegS.call (HIN.out _) (fun e w' he => ⟨he.1, SI.out _ _ (RegS.In.h _) he.2⟩))) | quiet_step (fail))
                refine wpQuiet_nil ?_
                intro wz hw'
                obtain ⟨⟨wy, hSq⟩, hw''⟩ := hw'
                have hS : GrowS w (wr.alloc (.cells #[.int .i64 a, .string ⟨tx.toArray⟩, .bool gn] 148)) wz := by rw [hw'']; exact hSq
                have HS := Lib.hid (SV.out _ hS)
                clear hw'' hSq hS e0 e1 e5
                go_wp2
                go_roundw
                case rel => exact ⟨0 + 1, by omega, by go_num, HZ, HS⟩
                case measure => simp [intOf]; omega
              · obtain ⟨j, rfl⟩ : ∃ j, n = j + 1 := ⟨n - 1, by omega⟩
                have hpc := HPV.out j rfl
                rw [show j + 1 - 1 = j from rfl] at HLATE HSTP
                generalize (vs.getD j Ver.nov).1 = pa at hpc HLATE HSTP
                have ep : ∀ u : RegS.In (GrowS w (wr.alloc (.cells #[.int .i64 a, .string ⟨tx.toArray⟩, .bool gn] 148))), u.w.cell? ⟨bv, ov + j * 3, none⟩ = some (.int .i64 pa) := fun u => grow_old (wr := wr) ⟨Base.then_below HBA.out u.h.1, u.h.2⟩ hpc
                have hpos : (0 : Int) < ((j + 1 : Nat) : Int) := by omega
                have hjl : (j : Int) < (vs.length : Int) := by omega
                by_cases hlt2 : pa < a
                · have hge : ¬ a ≤ pa := by omega
                  have HZ := Lib.hid (HSTP.out hf (Or.inr hlt2))
                  clear HBAD HLATE HSTP HPV hf hin hpc
                  go_wp2
                  refine RegS.region (GrowS w (wr.alloc (.cells #[.int .i64 a, .string ⟨tx.toArray⟩, .bool gn] 148))) (by kernel_rfl) (by kernel_rfl) HSD.out ?_
                  haveI : Nonempty (RegS.In (GrowS w (wr.alloc (.cells #[.int .i64 a, .string ⟨tx.toArray⟩, .bool gn] 148)))) := ⟨⟨_, HSD.out⟩⟩
                  repeat (first | go_big_quiet_step (first | (go_at_call 90; with_reducible exact RegS.call (HIN.out _) (fun e w' he => ⟨he.1, SI.out _ _ (RegS.In.h _) he.2⟩))) | quiet_step (fail))
                  refine wpQuiet_nil ?_
                  intro wz hw'
                  obtain ⟨⟨wy, hSq⟩, hw''⟩ := hw'
                  have hS : GrowS w (wr.alloc (.cells #[.int .i64 a, .string ⟨tx.toArray⟩, .bool gn] 148)) wz := by rw [hw'']; exact hSq
                  have HS := Lib.hid (SV.out _ hS)
                  clear hw'' hSq hS e0 e1 e5
                  go_wp2
                  go_roundw
                  case rel => exact ⟨j + 1 + 1, by omega, by go_num, HZ, HS⟩
                  case measure => simp [intOf]; omega
                · have hge : a ≤ pa := by omega
                  have HZ := Lib.hid (res_vers (nt := nt) (t := t) (c := c) (k := k) (gs := gs) (HLATE.out (by omega) hlt2))
                  clear HBAD HLATE HSTP HPV hf hin hpc
                  go_wp2
                  refine RegS.region (GrowS w (wr.alloc (.cells #[.int .i64 a, .string ⟨tx.toArray⟩, .bool gn] 148))) (by kernel_rfl) (by kernel_rfl) HSD.out ?_
                  haveI : Nonempty (RegS.In (GrowS w (wr.alloc (.cells #[.int .i64 a, .string ⟨tx.toArray⟩, .bool gn] 148)))) := ⟨⟨_, HSD.out⟩⟩
                  repeat (first | go_big_quiet_step (first | (go_at_call 90; with_reducible exact RegS.call (HIN.out _) (fun e w' he => ⟨he.1, SI.out _ _ (RegS.In.h _) he.2⟩))) | quiet_step (fail))
                  refine wpQuiet_nil ?_
                  intro wz hw'
                  obtain ⟨⟨wy, hSq⟩, hw''⟩ := hw'
                  have hS : GrowS w (wr.alloc (.cells #[.int .i64 a, .string ⟨tx.toArray⟩, .bool gn] 148)) wz := by rw [hw'']; exact hSq
                  have HS := Lib.hid (SV.out _ hS)
                  clear hw'' hSq hS e0 e1 e5
                  go_wp2
                  go_ret
                  exact ⟨by rw [HZ.out]; rfl, HS.out.2⟩
            · have h4i : (400 : Int) < (tx.length : Int) := by omega
              have HZ := Lib.hid (res_vers (nt := nt) (t := t) (c := c) (k := k) (gs := gs) (HBAD.out (by unfold verForm; rw [decide_eq_false (show ¬ (a, tx, gn).2.1.length ≤ 400 from h4)]; simp)))
              clear HBAD HLATE HSTP HPV hin
              go_wp2
              refine RegS.region (GrowS w (wr.alloc (.cells #[.int .i64 a, .string ⟨tx.toArray⟩, .bool gn] 148))) (by kernel_rfl) (by kernel_rfl) HSD.out ?_
              haveI : Nonempty (RegS.In (GrowS w (wr.alloc (.cells #[.int .i64 a, .string ⟨tx.toArray⟩, .bool gn] 148)))) := ⟨⟨_, HSD.out⟩⟩
              repeat (first | go_big_quiet_step (first | (go_at_call 90; with_reducible exact RegS.call (HIN.out _) (fun e w' he => ⟨he.1, SI.out _ _ (RegS.In.h _) he.2⟩))) | quiet_step (fail))
              refine wpQuiet_nil ?_
              intro wz hw'
              obtain ⟨⟨wy, hSq⟩, hw''⟩ := hw'
              have hS : GrowS w (wr.alloc (.cells #[.int .i64 a, .string ⟨tx.toArray⟩, .bool gn] 148)) wz := by rw [hw'']; exact hSq
              have HS := Lib.hid (SV.out _ hS)
              clear hw'' hSq hS e0 e1 e5
              go_wp2
              go_ret
              exact ⟨by rw [HZ.out]; rfl, HS.out.2⟩
          · have HIN : Hid (∀ u : RegS.In (GrowS w (wr.alloc (.cells #[.int .i64 a, .string ⟨tx.toArray⟩, .bool gn] 148))), Calls Tryz.prog 90 #[.int .i64 a, .int .i64 0, .int .i64 4102444799] u.w fun e w' => e = .returned (.bool false) ∧ u.w = w') := Lib.hid (fun u => NumDiv.in_no a 0 4102444799 u.w (by omega))
            have HZ := Lib.hid (res_vers (nt := nt) (t := t) (c := c) (k := k) (gs := gs) (HBAD.out (by unfold verForm; rw [decide_eq_false (show ¬ (0 ≤ (a, tx, gn).1 ∧ (a, tx, gn).1 ≤ 4102444799) from hin)]; rfl)))
            clear HBAD HLATE HSTP HPV
            go_wp2
            refine RegS.region (GrowS w (wr.alloc (.cells #[.int .i64 a, .string ⟨tx.toArray⟩, .bool gn] 148))) (by kernel_rfl) (by kernel_rfl) HSD.out ?_
            haveI : Nonempty (RegS.In (GrowS w (wr.alloc (.cells #[.int .i64 a, .string ⟨tx.toArray⟩, .bool gn] 148)))) := ⟨⟨_, HSD.out⟩⟩
            repeat (first | go_big_quiet_step (first | (go_at_call 90; with_reducible exact RegS.call (HIN.out _) (fun e w' he => ⟨he.1, SI.out _ _ (RegS.In.h _) he.2⟩))) | quiet_step (fail))
            refine wpQuiet_nil ?_
            intro wz hw'
            obtain ⟨⟨wy, hSq⟩, hw''⟩ := hw'
            have hS : GrowS w (wr.alloc (.cells #[.int .i64 a, .string ⟨tx.toArray⟩, .bool gn] 148)) wz := by rw [hw'']; exact hSq
            have HS := Lib.hid (SV.out _ hS)
            clear hw'' hSq hS e0 e1 e5
            go_wp2
            go_ret
            exact ⟨by rw [HZ.out]; rfl, HS.out.2⟩
        · have hni : ¬ (n : Int) < (vs.length : Int) := by omega
          obtain rfl : n = vs.length := by omega
          have HVS : Hid (versOk vs = true) := HL
          have HRS : Hid (resOk nt t c k gs vs = restOk nt t c k gs.length vs.length) := Lib.hid (res_rest HLS.out HVS.out)
          have y0 := grow_old HG.out HX.out.1
          have HNTr := Lib.hid (HNT.out wr)
          clear HL HLS HVS HNT
          cases nt with
          | false =>
            go_wp2_with (fail)
            go_at_call 113
            refine HNTr.out.mono ?_
            rintro e w1 ⟨rfl, q1⟩
            have HS := Lib.hid (grow_call HG.out q1)
            clear q1 y0 b5
            have HZ : Hid (resOk false t c k gs vs = false) := Lib.hid (by rw [HRS.out]; unfold restOk; rfl)
            go_wp2
            go_ret
            exact ⟨by rw [HZ.out]; rfl, HS.out.2⟩
          | true =>
            go_wp2_with (fail)
            go_at_call 113
            refine HNTr.out.mono ?_
            rintro e w1 ⟨rfl, q1⟩
            have HS := Lib.hid (grow_call HG.out q1)
            clear q1 y0 b5
            have y0 := grow_old HS.out HX.out.1
            have y1 := grow_old HS.out HX.out.2.1
            have y2 := grow_old HS.out HX.out.2.2.1
            have y4 := grow_old HS.out HX.out.2.2.2.1
            have y5 := grow_old HS.out HX.out.2.2.2.2
            have HVC := Lib.hid (fun W => Tx.spec_val ⟨c.toArray⟩ W (by simp [ByteArray.size]; omega))
            rw [show (⟨c.toArray⟩ : ByteArray).data.toList = c from rfl] at HVC
            by_cases t1 : t.length ≤ 100
            · have t1i : (t.length : Int) ≤ 100 := by omega
              cases hvc : Tx.valOk c with
              | false =>
                rw [hvc] at HVC
                go_wp2_with (fail)
                go_at_call 114
                refine (HVC.out _).mono ?_
                rintro e w2 ⟨rfl, rfl⟩
                have HZ : Hid (resOk true t c k gs vs = false) := Lib.hid (by rw [HRS.out]; unfold restOk; rw [hvc]; simp)
                go_wp2
                go_ret
                exact ⟨by rw [HZ.out]; rfl, HS.out.2⟩
              | true =>
                rw [hvc] at HVC
                go_wp2_with (fail)
                go_at_call 114
                refine (HVC.out _).mono ?_
                rintro e w2 ⟨rfl, rfl⟩
                by_cases t2 : c.length ≤ 150
                · have t2i : (c.length : Int) ≤ 150 := by omega
                  have HK := Lib.hid (fun W => spec_keys k W hk)
                  cases hkk : keysOk k with
                  | false =>
                    rw [hkk] at HK
                    go_wp2_with (fail)
                    go_at_call 115
                    refine (HK.out _).mono ?_
                    rintro e w3 ⟨rfl, q3⟩
                    have HS3 := Lib.hid (grow_call HS.out q3)
                    clear q3 y0 y1 y2 y4 y5
                    have HS := HS3
                    have HZ : Hid (resOk true t c k gs vs = false) := Lib.hid (by rw [HRS.out]; unfold restOk; rw [hvc, hkk]; simp)
                    go_wp2
                    go_ret
                    exact ⟨by rw [HZ.out]; rfl, HS.out.2⟩
                  | true =>
                    rw [hkk] at HK
                    go_wp2_with (fail)
                    go_at_call 115
                    refine (HK.out _).mono ?_
                    rintro e w3 ⟨rfl, q3⟩
                    have HS3 := Lib.hid (grow_call HS.out q3)
                    clear q3 y0 y1 y2 y4 y5
                    have HS := HS3
                    have y4 := grow_old HS.out HX.out.2.2.2.1
                    have y5 := grow_old HS.out HX.out.2.2.2.2
                    by_cases t3 : gs.length ≤ 4
                    · have t3i : (gs.length : Int) ≤ 4 := by omega
                      by_cases t4 : 1 ≤ vs.length ∧ vs.length ≤ 8
                      · have HZ : Hid (resOk true t c k gs vs = true) := Lib.hid (by rw [HRS.out]; unfold restOk; rw [hvc, hkk, decide_eq_true t1, decide_eq_true t2, decide_eq_true t3, decide_eq_true t4]; rfl)
                        go_wp2_with (fail)
                        go_at_call 90
                        refine (NumDiv.in_yes _ 1 8 _ (by omega) (by omega)).mono ?_
                        rintro e w4 ⟨rfl, rfl⟩
                        go_wp2
                        go_ret
                        exact ⟨by rw [HZ.out]; rfl, HS.out.2⟩
                      · have HZ : Hid (resOk true t c k gs vs = false) := Lib.hid (by rw [HRS.out]; unfold restOk; rw [decide_eq_false t4]; simp)
                        go_wp2_with (fail)
                        go_at_call 90
                        refine (NumDiv.in_no _ 1 8 _ (by omega)).mono ?_
                        rintro e w4 ⟨rfl, rfl⟩
                        go_wp2
                        go_ret
                        exact ⟨by rw [HZ.out]; rfl, HS.out.2⟩
                    · have t3i : ¬ (gs.length : Int) ≤ 4 := by omega
                      have HZ : Hid (resOk true t c k gs vs = false) := Lib.hid (by rw [HRS.out]; unfold restOk; rw [decide_eq_false t3]; simp)
                      go_wp2
                      go_ret
                      exact ⟨by rw [HZ.out]; rfl, HS.out.2⟩
                · have t2i : ¬ (c.length : Int) ≤ 150 := by omega
                  have HZ : Hid (resOk true t c k gs vs = false) := Lib.hid (by rw [HRS.out]; unfold restOk; rw [decide_eq_false t2]; simp)
                  go_wp2
                  go_ret
                  exact ⟨by rw [HZ.out]; rfl, HS.out.2⟩
            · have t1i : ¬ (t.length : Int) ≤ 100 := by omega
              have HZ : Hid (resOk true t c k gs vs = false) := Lib.hid (by rw [HRS.out]; unfold restOk; rw [decide_eq_false t1]; simp)
              go_wp2
              go_ret
              exact ⟨by rw [HZ.out]; rfl, HS.out.2⟩
end Go.Proofs.YtndbhjgfaghelaaGreatDoor.Orc
