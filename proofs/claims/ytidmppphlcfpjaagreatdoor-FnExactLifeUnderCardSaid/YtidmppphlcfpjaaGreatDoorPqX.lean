/-
  CONTRACTS AND PLAIN FACTS, several texts in one; each says in its own words what it proves.
-/
import Derived.Test.YtidmppphlcfpjaaGreatDoorPqP
import Derived.Test.YtidmppphlcfpjaaGreatDoorPqW
import Derived.Test.YtidmppphlcfpjaaGreatDoorPqJ
import Derived.Test.YtidmppphlcfpjaaGreatDoorPqA
import Derived.Test.YtidmppphlcfpjaaGreatDoorPqC
import Derived.Test.YtidmppphlcfpjaaGreatDoorPqD
import Derived.Lib.Strings
import Derived.Test.YtidmppphlcfpjaaGreatDoorPqF
import Derived.Test.YtidmppphlcfpjaaGreatDoorPqH
import Derived.LoopTactic
import Derived.Outline
import Derived.Test.YtidmppphlcfpjaaGreatDoorPqE
import Derived.Laws.DeepStrings4
set_option linter.unusedSimpArgs false
set_option linter.unusedVariables false

/-
  CONTRACTS of the program's dateIn and of both sides' InitialAge; nothing that was there before is changed.
-/
namespace Go.Proofs.YtidmppphlcfpjaaGreatDoor.Age
open Go Go.RowKit
set_option linter.unusedVariables false
set_option maxRecDepth 1000000

/-- The tables that the library and the program lay. -/
def Tabs (w : World) : Prop := Dt.Mds w ∧ Dt.Names w ∧ Fmt.Tens w
theorem tabs_below {w w1 : World} (h : Tabs w) (hb : Below w.heap.size w w1) : Tabs w1 := ⟨Dt.mds_below h.1 hb, Dt.names_below h.2.1 hb, Fmt.tens_below h.2.2 hb⟩
/-- The date that a field is. -/
noncomputable def din (n : List UInt8) (l : List Flds.Fld) : Int × Bool := Dt.pdate (Flds.got n l)
theorem din_bd (n : List UInt8) (l : List Flds.Fld) : 0 ≤ (din n l).1 ∧ (din n l).1 ≤ 4102444799 := Dt.pdate_bd _
def PairEnd (p : Int × Bool) (w : World) (e : Ending) (w' : World) : Prop := e = .returned (.tuple #[.int .i64 p.1, .bool p.2]) ∧ Below w.heap.size w w'

set_option maxHeartbeats 1000000 in
theorem impl_din (v : Value) (B : Nat) (l : List Flds.Fld) (n : List UInt8) (w : World) (h : Flds.Holds w B v l) (hB : B ≤ w.heap.size) (hl : Flds.total l ≤ 1048576) (ht : Tabs w) :
    Calls Tryz.prog 118 #[v, .string ⟨n.toArray⟩] w (PairEnd (din n l) w) := by
  have hg := Flds.got_len n l
  have HG := Lib.hid (Flds.impl_get v B l n _ h hB hl)
  have HP := Lib.hid (fun W (hb : Below w.heap.size w W) => Dt.impl_pdate (Flds.got n l) W (by omega) (tabs_below ht hb).1 (tabs_below ht hb).2.1 (tabs_below ht hb).2.2)
  unfold Flds.GetEnd at HG
  unfold Dt.PdEnd at HP
  have hj : Tx.join (Flds.vals n l) = Flds.got n l := rfl
  rw [hj] at HG
  unfold PairEnd din
  obtain ⟨a, cap, rfl, _⟩ := Flds.shape_lget h
  clear h hl ht hg hj
  generalize Flds.got n l = g at HG HP ⊢
  generalize decide (0 < (Flds.vals n l).length) = q at HG
  generalize Dt.pdate g = p at HP ⊢
  go_enter Tryz.func118, Tryz.ntmps118
  go_wp2_with (fail)
  go_at_call 151
  refine HG.out.mono ?_
  rintro e w1 ⟨rfl, hb1⟩
  have HB1 := Lib.hid hb1
  clear hb1
  go_wp2_with (fail)
  go_at_call 155
  refine (HP.out _ HB1.out).mono ?_
  rintro e w2 ⟨rfl, hb2⟩
  have HB2 := Lib.hid (Base.then_below HB1.out hb2)
  clear hb2
  go_wp2
  go_ret2
  exact ⟨rfl, HB2.out⟩

def dateN : List UInt8 := [100, 97, 116, 101]
def ia0 (l : List Flds.Fld) (a g : Int) : Int := wrap64 (agef l + max 0 (wrap64 (g - a)))
noncomputable def inia (l : List Flds.Fld) (a g : Int) : Int := min (if (din dateN l).2 = true then max (ia0 l a g) (wrap64 (g - (din dateN l).1)) else ia0 l a g) 2147483648

set_option maxHeartbeats 2000000 in
theorem spec_inia (c : Int) (v : Value) (B : Nat) (l : List Flds.Fld) (b : List UInt8) (a g : Int) (w : World) (h : Flds.Holds w B v l) (hB : B ≤ w.heap.size) (hl : Flds.total l ≤ 1048576) (wa : (Lit.int .i64 a).wf = true) (wg : (Lit.int .i64 g).wf = true) :
    Calls Tryz.prog 92 #[.agg #[.int .i64 c, v, .string ⟨b.toArray⟩], .int .i64 a, .int .i64 g] w (NumEnd (inia l a g) w) := by
  have HB0 : Hid (Below w.heap.size w (w.alloc (.cells #[.int .i64 c, v, .string ⟨b.toArray⟩] 49))) := Lib.hid ((Below.refl _ _).alloc (Nat.le_refl _) _)
  have HX := Lib.hid (fun w1 => kept3 (w := w) (w1 := w1) (T := 49) (a := .int .i64 c) (b := v) (c := .string ⟨b.toArray⟩))
  have HA := Lib.hid (spec_agef c v B l b _ (Flds.holds_below h (HB0.out.mono hB)) (Nat.le_trans hB HB0.out.size) hl)
  have HY := Lib.hid (fun W (hb : Below w.heap.size w W) => Flds.holds_below h (hb.mono hB))
  have hg := Flds.got_len dateN l
  have HG := Lib.hid (fun W (hb : Below w.heap.size w W) => Flds.spec_lget v B l dateN W (HY.out W hb) (by omega))
  have HP := Lib.hid (fun W => Dt.spec_pdate (Flds.got dateN l) W (by omega))
  have HE : Hid (inia l a g = min (if (din dateN l).2 = true then max (ia0 l a g) (wrap64 (g - (din dateN l).1)) else ia0 l a g) 2147483648) := Lib.hid rfl
  have hdd : Dt.pdate (Flds.got dateN l) = din dateN l := rfl
  rw [hdd] at HP
  have hi0 : ia0 l a g = wrap64 (agef l + max 0 (wrap64 (g - a))) := rfl
  rw [hi0] at HE
  have ab := agef_bd l
  have db := din_bd dateN l
  unfold Flds.GotEnd at HG
  unfold Dt.PdEnd at HP
  unfold NumEnd at HA ⊢
  clear h hl hg hdd hi0
  generalize inia l a g = z at HE ⊢
  generalize agef l = ag at HA HE ab
  generalize din dateN l = p at HP HE db
  generalize Flds.got dateN l = t at HG HP
  obtain ⟨d, ok⟩ := p
  simp only at HE HP db
  obtain ⟨a1, a2⟩ := ab
  obtain ⟨d1, d2⟩ := db
  unfold dateN at HG
  cases ok
  all_goals
    simp only [Bool.false_eq_true, if_false, if_true] at HE
    go_enter Tryz.func92, Tryz.ntmps92
    go_wp2_with (fail)
    go_at_call 120
    refine HA.out.mono ?_
    rintro e w1 ⟨rfl, hb1⟩
    obtain ⟨⟨q0, q1, q2⟩, hbw⟩ := HX.out _ hb1
    have HB1 := Lib.hid hbw
    clear hb1 hbw
    go_wp2_with (fail)
    go_at_call 80
    refine (Mm.spec_max _ _ _).mono ?_
    rintro e wm ⟨rfl, rfl⟩
    go_wp2_with (fail)
    go_at_call 78
    refine (HG.out _ HB1.out).mono ?_
    rintro e w2 ⟨rfl, hb2⟩
    have HB2 := Lib.hid (Base.then_below HB1.out hb2)
    clear hb2
    go_wp2_with (fail)
    go_at_call 77
    refine (HP.out _).mono ?_
    rintro e w3 ⟨rfl, hb3⟩
    have HB3 := Lib.hid (Base.then_below HB2.out hb3)
    clear hb3
  · go_wp2_with (fail)
    go_at_call 47
    refine (Mm.spec_min _ _ _).mono ?_
    rintro e wm ⟨rfl, rfl⟩
    go_wp2
    go_ret
    exact ⟨ret_n HE.out.symm, HB3.out⟩
  · go_wp2_with (fail)
    go_at_call 80
    refine (Mm.spec_max _ _ _).mono ?_
    rintro e wm ⟨rfl, rfl⟩
    go_wp2_with (fail)
    go_at_call 47
    refine (Mm.spec_min _ _ _).mono ?_
    rintro e wm ⟨rfl, rfl⟩
    go_wp2
    go_ret
    exact ⟨ret_n HE.out.symm, HB3.out⟩

set_option maxHeartbeats 2000000 in
theorem impl_inia (c : Int) (v : Value) (B : Nat) (l : List Flds.Fld) (b : List UInt8) (a g : Int) (w : World) (h : Flds.Holds w B v l) (hB : B ≤ w.heap.size) (hl : Flds.total l ≤ 1048576) (wa : (Lit.int .i64 a).wf = true) (wg : (Lit.int .i64 g).wf = true) (ht : Tabs w) (her : Par.Errs w) :
    Calls Tryz.prog 125 #[.agg #[.int .i64 c, v, .string ⟨b.toArray⟩], .int .i64 a, .int .i64 g] w (NumEnd (inia l a g) w) := by
  have HB0 : Hid (Below w.heap.size w (w.alloc (.cells #[.int .i64 c, v, .string ⟨b.toArray⟩] 49))) := Lib.hid ((Below.refl _ _).alloc (Nat.le_refl _) _)
  have HX := Lib.hid (fun w1 => kept3 (w := w) (w1 := w1) (T := 49) (a := .int .i64 c) (b := v) (c := .string ⟨b.toArray⟩))
  have HA := Lib.hid (impl_agef c v B l b _ (Flds.holds_below h (HB0.out.mono hB)) (Nat.le_trans hB HB0.out.size) hl (tabs_below ht HB0.out).2.2 (Par.errs_below her HB0.out))
  have HP := Lib.hid (fun W (hb : Below w.heap.size w W) => impl_din v B l dateN W (Flds.holds_below h (hb.mono hB)) (Nat.le_trans hB hb.size) hl (tabs_below ht hb))
  have HE : Hid (inia l a g = min (if (din dateN l).2 = true then max (ia0 l a g) (wrap64 (g - (din dateN l).1)) else ia0 l a g) 2147483648) := Lib.hid rfl
  have hi0 : ia0 l a g = wrap64 (agef l + max 0 (wrap64 (g - a))) := rfl
  rw [hi0] at HE
  have ab := agef_bd l
  have db := din_bd dateN l
  unfold PairEnd at HP
  unfold NumEnd at HA ⊢
  clear h hl hi0 ht her
  generalize inia l a g = z at HE ⊢
  generalize agef l = ag at HA HE ab
  generalize din dateN l = p at HP HE db
  obtain ⟨d, ok⟩ := p
  simp only at HE HP db
  obtain ⟨a1, a2⟩ := ab
  obtain ⟨d1, d2⟩ := db
  unfold dateN at HP
  cases ok
  all_goals
    simp only [Bool.false_eq_true, if_false, if_true] at HE
    go_enter Tryz.func125, Tryz.ntmps125
    go_wp2_with (fail)
    go_at_call 159
    refine HA.out.mono ?_
    rintro e w1 ⟨rfl, hb1⟩
    obtain ⟨⟨q0, q1, q2⟩, hbw⟩ := HX.out _ hb1
    have HB1 := Lib.hid hbw
    clear hb1 hbw
    go_wp2_with (fail)
    go_at_call 85
    refine (Mm.impl_max _ _ _).mono ?_
    rintro e wm ⟨rfl, rfl⟩
    go_wp2_with (fail)
    go_at_call 118
    refine (HP.out _ HB1.out).mono ?_
    rintro e w3 ⟨rfl, hb3⟩
    have HB3 := Lib.hid (Base.then_below HB1.out hb3)
    clear hb3
  · go_wp2_with (fail)
    go_at_call 160
    refine (Mm.impl_min _ _ _).mono ?_
    rintro e wm ⟨rfl, rfl⟩
    go_wp2
    go_ret
    exact ⟨ret_n HE.out.symm, HB3.out⟩
  · go_wp2_with (fail)
    go_at_call 85
    refine (Mm.impl_max _ _ _).mono ?_
    rintro e wm ⟨rfl, rfl⟩
    go_wp2_with (fail)
    go_at_call 160
    refine (Mm.impl_min _ _ _).mono ?_
    rintro e wm ⟨rfl, rfl⟩
    go_wp2
    go_ret
    exact ⟨ret_n HE.out.symm, HB3.out⟩
end Go.Proofs.YtidmppphlcfpjaaGreatDoor.Age

/-
  PLAIN FACTS on slices of Tag (written by rec.py): what a slice holds, how that is kept, and how a slice that the call itself has built is such a one.
-/
namespace Go.Proofs.YtidmppphlcfpjaaGreatDoor.Tgs
open Go Go.RowKit
set_option linter.unusedVariables false
set_option maxRecDepth 1000000

abbrev T : Type := Bool × List UInt8
def nov : T := (false, [])
def cs (f : T) : List Value := [.bool (f.1), .string ⟨(f.2).toArray⟩]
def fv (f : T) : Value := .agg #[.bool (f.1), .string ⟨(f.2).toArray⟩]
theorem cs_len (f : T) : (cs f).length = 2 := rfl
theorem cs_one (f : T) : ∀ u ∈ cs f, u.oneCell' = true := by
  intro u hu; simp [cs] at hu; rcases hu with rfl | rfl <;> rfl
def fcs (l : List T) : List Value := Rec.flat cs l
theorem fcs_len (l : List T) : (fcs l).length = l.length * 2 := Rec.flat_len cs_len l
theorem fcs_more (l : List T) (f : T) : fcs (l ++ [f]) = fcs l ++ [.bool (f.1), .string ⟨(f.2).toArray⟩] := Rec.flat_more l f
theorem fcs_one (l : List T) : ∀ u ∈ fcs l, u.oneCell' = true := Rec.flat_one cs_one l
theorem fcs_put {l : List T} {k : Nat} (f : T) (h : k < l.length) : ((fcs l).set (k * 2) (.bool (f.1))).set (k * 2 + 1) (.string ⟨(f.2).toArray⟩) = fcs (l.set k f) := Rec.flat_put cs_len f h
def Ok (f : T) : Prop := f.2.length ≤ maxLen
/-- The cells from (b, off) on are these. -/
def At (w : World) (b off : Nat) (l : List T) : Prop := Rec.At 2 cs nov w b off l
/-- The slice v reads as l; its cells lie below block B. -/
def Holds (w : World) (B : Nat) (v : Value) (l : List T) : Prop := Rec.Holds 2 cs nov w B v l
theorem holds_iff {w : World} {B : Nat} {v : Value} {l : List T} (h : Holds w B v l) : (l = [] ∧ ∃ a cap, v = .slice a 0 cap) ∨ (0 < l.length ∧ ∃ b off cap, v = .slice (some ⟨b, off, none⟩) l.length cap ∧ b < B ∧ l.length ≤ cap ∧ At w b off l) := h
theorem holds_nil (w : World) (B : Nat) (a : Option Addr) (cap : Nat) : Holds w B (.slice a 0 cap) [] := Or.inl ⟨rfl, _, _, rfl⟩
theorem at_cells {w : World} {b off : Nat} {l : List T} (h : At w b off l) {j : Nat} (hj : j < l.length) : w.cell? ⟨b, off + j * 2, none⟩ = some (.bool ((l.getD j nov).1)) ∧ w.cell? ⟨b, off + j * 2 + 1, none⟩ = some (.string ⟨((l.getD j nov).2).toArray⟩) := ⟨h j hj 0 _ rfl, h j hj 1 _ rfl⟩
theorem at_lt {w : World} {b off : Nat} {l : List T} (h : At w b off l) (h0 : 0 < l.length) : b < w.heap.size := Rec.at_lt cs_len (by decide) h h0
theorem at_below {w w' : World} {B b off : Nat} {l : List T} (h : At w b off l) (hb : Below B w w') (hlt : b < B) : At w' b off l := Rec.at_below h hb hlt
theorem holds_more {w : World} {B B' : Nat} {v : Value} {l : List T} (h : Holds w B v l) (hB : B ≤ B') : Holds w B' v l := Rec.holds_more h hB
theorem holds_below {w w' : World} {B : Nat} {v : Value} {l : List T} (h : Holds w B v l) (hb : Below B w w') : Holds w' B v l := Rec.holds_below h hb
theorem holds_grown {w w' : World} {B : Nat} {v : Value} {l : List T} {row : Option Nat} (h : Holds w B v l) (hg : w.grownBy w' row) (hr : ∀ k, row = some k → B ≤ k) : Holds w' B v l := Rec.holds_grown h hg hr
theorem holds_drew {w : World} {B : Nat} {v : Value} {l : List T} (h : Holds w B v l) : Holds w.drew B v l := h
def part (l : List T) (k : Nat) : List T := Rec.part nov l k
theorem part_len (l : List T) {k : Nat} (h : k ≤ l.length) : (part l k).length = l.length := Rec.part_len l h
theorem part_all (l : List T) : part l l.length = l := Rec.part_all l
theorem part_more {l : List T} {k : Nat} (h : k < l.length) : (part l k).set k (l.getD k nov) = part l (k + 1) := Rec.part_more h
theorem made_part (l : List T) : (madeCells (Value.agg #[.bool false, .string ⟨#[]⟩]).cells (l.length * 2)).toList = fcs (part l 0) := Rec.made_part cs_len (by decide) l _ rfl
def wt (f : T) : Nat := f.2.length
def total (l : List T) : Nat := Rec.total wt l
theorem len_le_total (l : List T) : l.length ≤ total l := Rec.len_le_total wt l
theorem mem_total {l : List T} {f : T} (h : f ∈ l) : wt f ≤ total l := Rec.mem_total wt h
end Go.Proofs.YtidmppphlcfpjaaGreatDoor.Tgs

/-
  PLAIN FACTS on the texts of entity tags: which bytes may stand in one, how a tag is written, how it is read.
-/
namespace Go.Proofs.YtidmppphlcfpjaaGreatDoor.Tgs
open Go Go.RowKit
set_option linter.unusedVariables false
set_option maxRecDepth 1000000

def tgc (c : UInt8) : Bool := decide (33 ≤ c.toNat ∧ c.toNat ≤ 126) && !(c == 34)
def okt (l : List UInt8) : Bool := l.all tgc && decide (l.length ≤ 40)
theorem tgc_no {c : UInt8} (h : tgc c = false) : ((c.toNat : Int) < 33 ∨ 126 < (c.toNat : Int)) ∨ ((33 ≤ (c.toNat : Int) ∧ (c.toNat : Int) ≤ 126) ∧ c = 34) := by
  unfold tgc at h
  by_cases a : 33 ≤ c.toNat ∧ c.toNat ≤ 126
  · right
    refine ⟨by omega, ?_⟩
    simpa [a] using h
  · left; omega
theorem tgc_yes {c : UInt8} (h : tgc c = true) : (33 ≤ (c.toNat : Int) ∧ (c.toNat : Int) ≤ 126) ∧ (c.toNat : Int) ≠ 34 := by
  unfold tgc at h
  rw [Bool.and_eq_true] at h
  have h1 := of_decide_eq_true h.1
  refine ⟨by omega, fun e => ?_⟩
  have : c = 34 := UInt8.toNat_inj.1 (by show c.toNat = 34; omega)
  rw [this] at h; simp at h
theorem list_len (s : ByteArray) : s.data.toList.length = s.size := by rw [Array.length_toList]; rfl
theorem tgc_more {s : ByteArray} {k : Nat} (h : k < s.size) (ha : (s.data.toList.take k).all tgc = true) (hc : tgc s[k] = true) : (s.data.toList.take (k + 1)).all tgc = true := by
  rw [Tx.take_snoc s k h, List.all_append, ha, List.all_cons, hc]; rfl
theorem okt_bad {s : ByteArray} {k : Nat} (h : k < s.size) (hc : tgc s[k] = false) : okt s.data.toList = false := by
  unfold okt
  have : s.data.toList.all tgc = false := by
    rw [Bool.eq_false_iff]
    intro ha
    have hm : s[k] ∈ s.data.toList := by
      rw [← List.take_append_drop k s.data.toList, Tx.drop_cons s k h]; simp
    rw [List.all_eq_true] at ha
    have := ha _ hm
    rw [hc] at this; cases this
  rw [this, Bool.false_and]
theorem okt_all {s : ByteArray} {k : Nat} (h : k = s.size) (ha : (s.data.toList.take k).all tgc = true) : okt s.data.toList = decide ((s.size : Int) ≤ 40) := by
  have e : s.data.toList.take k = s.data.toList := List.take_of_length_le (by rw [list_len]; omega)
  rw [e] at ha
  unfold okt
  rw [ha, Bool.true_and, list_len, Bool.eq_iff_iff]; simp; omega
theorem okt_long {s : ByteArray} (h : 40 < s.size) : okt s.data.toList = false := by
  unfold okt
  rw [list_len]
  have : decide (s.size ≤ 40) = false := by simp; omega
  rw [this, Bool.and_false]
/-- How a tag is written. -/
def ftag (f : T) : List UInt8 := if okt f.2 then (if f.1 then [87, 47, 34] ++ f.2 ++ [34] else [34] ++ f.2 ++ [34]) else []
theorem ftag_no {x : Bool} {y : List UInt8} (h : okt y = false) : ftag (x, y) = [] := by unfold ftag; simp [h]
theorem ftag_weak {y : List UInt8} (h : okt y = true) : ftag (true, y) = [87, 47, 34] ++ y ++ [34] := by unfold ftag; simp [h]
theorem ftag_strong {y : List UInt8} (h : okt y = true) : ftag (false, y) = [34] ++ y ++ [34] := by unfold ftag; simp [h]
/-- How a tag is read. -/
def ptag (l : List UInt8) : T × Bool :=
  if Lib.hasPrefix (Lib.trimPrefix l [87, 47]) [34] && (Lib.hasSuffix (Lib.trimPrefix (Lib.trimPrefix l [87, 47]) [34]) [34] && okt (Lib.trimSuffix (Lib.trimPrefix (Lib.trimPrefix l [87, 47]) [34]) [34]))
  then ((Lib.hasPrefix l [87, 47], Lib.trimSuffix (Lib.trimPrefix (Lib.trimPrefix l [87, 47]) [34]) [34]), true) else ((false, []), false)
/-- What stands between two quotes. -/
def inner (r : List UInt8) : Bool × List UInt8 := (decide (2 ≤ r.length) && (r.head? == some 34 && r.getLast? == some 34), (r.drop 1).take (r.length - 2))
theorem inner_lib (r : List UInt8) : (Lib.hasPrefix r [34] && Lib.hasSuffix (Lib.trimPrefix r [34]) [34]) = (inner r).1 ∧ ((inner r).1 = true → Lib.trimSuffix (Lib.trimPrefix r [34]) [34] = (inner r).2) := by
  cases r with
  | nil => exact ⟨by decide, by intro h; exact absurd h (by decide)⟩
  | cons a t =>
    by_cases ha : a = 34
    · subst ha
      have hp : Lib.hasPrefix (34 :: t) [34] = true := by simp [Lib.hasPrefix, List.isPrefixOf]
      have ht : Lib.trimPrefix (34 :: t) [34] = t := by unfold Lib.trimPrefix; rw [if_pos hp]; rfl
      rw [hp, ht, Bool.true_and]
      rcases List.eq_nil_or_concat t with rfl | ⟨m, b, rfl⟩
      · exact ⟨by decide, by intro h; exact absurd h (by decide)⟩
      · simp only [List.concat_eq_append]
        have hs : Lib.hasSuffix (m ++ [b]) [34] = (b == 34) := by
          rw [Bool.eq_iff_iff]
          unfold Lib.hasSuffix
          rw [List.isSuffixOf_iff_suffix]
          constructor
          · rintro ⟨q, hq⟩
            have := List.append_inj_right' hq.symm rfl
            simp at this; simp [this]
          · intro h
            have : b = 34 := by simpa using h
            subst this; exact ⟨m, rfl⟩
        have hi : (inner (34 :: (m ++ [b]))).1 = (b == 34) := by
          unfold inner
          have : (34 :: (m ++ [b]) : List UInt8).getLast? = some b := by
            rw [show (34 :: (m ++ [b]) : List UInt8) = (34 :: m) ++ [b] by rfl, List.getLast?_append]; rfl
          simp only [this]
          simp
        refine ⟨by rw [hs, hi], fun h => ?_⟩
        rw [hi] at h
        have : b = 34 := by simpa using h
        subst this
        unfold Lib.trimSuffix
        rw [if_pos (by rw [hs]; rfl)]
        unfold inner
        simp
    · have hp : Lib.hasPrefix (a :: t) [34] = false := by
        have : (34 == a) = false := by rw [beq_eq_false_iff_ne]; exact fun e => ha e.symm
        simp [Lib.hasPrefix, List.isPrefixOf, this]
      rw [hp, Bool.false_and]
      have hi : (inner (a :: t)).1 = false := by
        unfold inner
        have : ((a :: t).head? == some 34) = false := by simp [ha]
        rw [this, Bool.false_and, Bool.and_false]
      exact ⟨hi.symm, fun h => by rw [hi] at h; cases h⟩
theorem ptag_inner (l : List UInt8) : ptag l = if (inner (Lib.trimPrefix l [87, 47])).1 && okt (inner (Lib.trimPrefix l [87, 47])).2 then ((Lib.hasPrefix l [87, 47], (inner (Lib.trimPrefix l [87, 47])).2), true) else ((false, []), false) := by
  unfold ptag
  obtain ⟨h1, h2⟩ := inner_lib (Lib.trimPrefix l [87, 47])
  rw [← Bool.and_assoc, h1]
  by_cases h : (inner (Lib.trimPrefix l [87, 47])).1 = true
  · rw [h2 h]
  · have : (inner (Lib.trimPrefix l [87, 47])).1 = false := by simpa using h
    rw [this, Bool.false_and, Bool.false_and]; rfl
theorem prefix_at (l : List UInt8) : Lib.hasPrefix l [87, 47] = (decide (2 ≤ l.length) && (l.take 2 == [87, 47])) := (Lib.hasPrefix_of_take l [87, 47]).symm
/-- The tag of a text, by what stands where. -/
theorem ptag_weak {l : List UInt8} (h2 : 2 ≤ l.length) (h : l.take 2 = [87, 47]) : ptag l = if (inner (l.drop 2)).1 && okt (inner (l.drop 2)).2 then ((true, (inner (l.drop 2)).2), true) else ((false, []), false) := by
  have hp : Lib.hasPrefix l [87, 47] = true := by rw [prefix_at, h]; simp [h2]
  have ht : Lib.trimPrefix l [87, 47] = l.drop 2 := by unfold Lib.trimPrefix; rw [if_pos hp]; rfl
  rw [ptag_inner, ht, hp]
theorem ptag_strong {l : List UInt8} (h : ¬ (2 ≤ l.length ∧ l.take 2 = [87, 47])) : ptag l = if (inner l).1 && okt (inner l).2 then ((false, (inner l).2), true) else ((false, []), false) := by
  have hp : Lib.hasPrefix l [87, 47] = false := by
    rw [prefix_at]
    by_cases h2 : 2 ≤ l.length
    · have h3 : l.take 2 ≠ [87, 47] := fun e => h ⟨h2, e⟩
      have : (l.take 2 == [87, 47]) = false := by simpa using h3
      rw [this, Bool.and_false]
    · have : decide (2 ≤ l.length) = false := by simpa using h2
      rw [this, Bool.false_and]
  have ht : Lib.trimPrefix l [87, 47] = l := by unfold Lib.trimPrefix; rw [hp]; rfl
  rw [ptag_inner, ht, hp]
end Go.Proofs.YtidmppphlcfpjaaGreatDoor.Tgs

/-
  CONTRACTS of both sides' IsTag, FormatTag, StrongSame and WeakSame; nothing that was there before is changed.
-/
namespace Go.Proofs.YtidmppphlcfpjaaGreatDoor.Tgs
open Go Go.RowKit
set_option linter.unusedVariables false
set_option maxRecDepth 1000000

def BoolEnd (b : Bool) (w : World) (e : Ending) (w' : World) : Prop := e = .returned (.bool b) ∧ Below w.heap.size w w'
def TxtEnd (t : List UInt8) (w : World) (e : Ending) (w' : World) : Prop := e = .returned (.string ⟨t.toArray⟩) ∧ Below w.heap.size w w'
theorem ret_bool {a b : Bool} (h : a = b) : Ending.returned (.bool a) = .returned (.bool b) := by rw [h]
theorem ret_txt {a b : List UInt8} (h : a = b) : Ending.returned (.string ⟨a.toArray⟩) = .returned (.string ⟨b.toArray⟩) := by rw [h]

theorem bsz (y : List UInt8) : (⟨y.toArray⟩ : ByteArray).size = y.length := by simp [ByteArray.size]
end Go.Proofs.YtidmppphlcfpjaaGreatDoor.Tgs

/-
  CONTRACT of the program's ParseTag; nothing that was there before is changed.
-/
namespace Go.Proofs.YtidmppphlcfpjaaGreatDoor.Tgs
open Go Go.RowKit
set_option linter.unusedVariables false
set_option maxRecDepth 1000000

def ParEnd (l : List UInt8) (w : World) (e : Ending) (w' : World) : Prop := e = .returned (.tuple #[.agg #[.bool (ptag l).1.1, .string ⟨(ptag l).1.2.toArray⟩], .bool (ptag l).2]) ∧ Below w.heap.size w w'
theorem par_ret {l : List UInt8} {x b : Bool} {t : List UInt8} (h : ptag l = ((x, t), b)) : Ending.returned (.tuple #[.agg #[.bool x, .string ⟨t.toArray⟩], .bool b]) = .returned (.tuple #[.agg #[.bool (ptag l).1.1, .string ⟨(ptag l).1.2.toArray⟩], .bool (ptag l).2]) := by rw [h]
/-- Two blocks of the call's own, kept by what follows. -/
theorem kept22 {w w1 : World} {T : TypeId} {a b c d : Value} (hb : Below ((w.alloc (.cells #[a, b] T)).alloc (.cells #[c, d] T)).heap.size ((w.alloc (.cells #[a, b] T)).alloc (.cells #[c, d] T)) w1) :
    (w1.cell? ⟨w.heap.size, 0, none⟩ = some a ∧ w1.cell? ⟨w.heap.size, 1, none⟩ = some b ∧ w1.cell? ⟨w.heap.size + 1, 0, none⟩ = some c ∧ w1.cell? ⟨w.heap.size + 1, 1, none⟩ = some d) ∧ (w1.frozen? ⟨w.heap.size, 0, none⟩ = false ∧ w1.frozen? ⟨w.heap.size, 1, none⟩ = false) ∧ Below w.heap.size w w1 := by
  have h1 : Below (w.alloc (.cells #[a, b] T)).heap.size (w.alloc (.cells #[a, b] T)) w1 := ((Below.refl _ _).alloc (Nat.le_refl _) _).trans (hb.mono (by simp))
  refine ⟨⟨?_, ?_, ?_, ?_⟩, ⟨?_, ?_⟩, ((Below.refl _ _).alloc (Nat.le_refl _) _).trans (h1.mono (by simp))⟩
  · rw [h1.cell (p := ⟨w.heap.size, 0, none⟩) (by simp), World.cell?_alloc_new]; rfl
  · rw [h1.cell (p := ⟨w.heap.size, 1, none⟩) (by simp), World.cell?_alloc_new]; rfl
  · rw [hb.cell (p := ⟨w.heap.size + 1, 0, none⟩) (by simp), World.cell?_alloc_at _ _ _ _ (by simp)]; rfl
  · rw [hb.cell (p := ⟨w.heap.size + 1, 1, none⟩) (by simp), World.cell?_alloc_at _ _ _ _ (by simp)]; rfl
  · rw [h1.frozen (p := ⟨w.heap.size, 0, none⟩) (by simp)]; simp [go_sem]
  · rw [h1.frozen (p := ⟨w.heap.size, 1, none⟩) (by simp)]; simp [go_sem]
theorem trimp_len (l p : List UInt8) : (Lib.trimPrefix l p).length ≤ l.length := by unfold Lib.trimPrefix; split <;> simp
theorem trims_len (l p : List UInt8) : (Lib.trimSuffix l p).length ≤ l.length := by unfold Lib.trimSuffix; split <;> simp

/-- What stands between two quotes, by the text's bytes. -/
theorem inner_yes {s : ByteArray} (h2 : 2 ≤ s.size) (ha : s[0] = 34) (hz : s[s.size - 1] = 34) : inner s.data.toList = (true, (s.extract 1 (s.size - 1)).data.toList) := by
  obtain ⟨⟨l⟩⟩ := s
  have hl : (⟨⟨l⟩⟩ : ByteArray).size = l.length := rfl
  rw [hl] at h2
  have e0 : l.head? = some 34 := by
    cases l with
    | nil => simp at h2
    | cons a t => have ha' : a = 34 := ha; simp [ha']
  have e1 : l.getLast? = some 34 := by
    rw [List.getLast?_eq_getElem?]
    have hlt : l.length - 1 < l.length := by omega
    rw [List.getElem?_eq_getElem hlt]
    exact congrArg some hz
  unfold inner
  rw [Lib.extract_data]
  show (decide (2 ≤ l.length) && (l.head? == some 34 && l.getLast? == some 34), (l.drop 1).take (l.length - 2)) = (true, (l.drop 1).take (l.length - 1 - 1))
  rw [e0, e1, show l.length - 1 - 1 = l.length - 2 by omega]
  simp [h2]
theorem inner_no {s : ByteArray} (h : s.size < 2 ∨ (∃ h0 : 0 < s.size, s[0] ≠ 34) ∨ ∃ h0 : s.size - 1 < s.size, s[s.size - 1] ≠ 34) : (inner s.data.toList).1 = false := by
  obtain ⟨⟨l⟩⟩ := s
  unfold inner
  show (decide (2 ≤ l.length) && (l.head? == some 34 && l.getLast? == some 34)) = false
  rcases h with h | ⟨h0, h⟩ | ⟨h0, h⟩
  · have h' : l.length < 2 := h
    have : decide (2 ≤ l.length) = false := by simp; omega
    rw [this, Bool.false_and]
  · have : (l.head? == some 34) = false := by
      cases l with
      | nil => rfl
      | cons a t =>
        have ha : a ≠ 34 := h
        simp [ha]
    rw [this, Bool.false_and, Bool.and_false]
  · have : (l.getLast? == some 34) = false := by
      rw [List.getLast?_eq_getElem?]
      have hlt : l.length - 1 < l.length := h0
      rw [List.getElem?_eq_getElem hlt]
      have ha : l[l.length - 1] ≠ 34 := h
      simp [ha]
    rw [this, Bool.and_false, Bool.and_false]

end Go.Proofs.YtidmppphlcfpjaaGreatDoor.Tgs

/-
  CONTRACT of the model's ParseTag; nothing that was there before is changed.
-/
namespace Go.Proofs.YtidmppphlcfpjaaGreatDoor.Tgs
open Go Go.RowKit
set_option linter.unusedVariables false
set_option maxRecDepth 1000000

theorem ptag_small {l : List UInt8} (h : l.length ≤ 2) : ptag l = if (inner l).1 && okt (inner l).2 then ((false, (inner l).2), true) else ((false, []), false) := by
  by_cases hw : 2 ≤ l.length ∧ l.take 2 = [87, 47]
  · have e : l = [87, 47] := by rw [← hw.2]; exact (List.take_of_length_le h).symm
    subst e; decide
  · exact ptag_strong hw
theorem cut2 (s : ByteArray) : (s.extract 0 2).toList = s.data.toList.take 2 := by rw [Lib.extract_toList]; simp
theorem cut2' (s : ByteArray) : (s.extract 2 s.size).data.toList = s.data.toList.drop 2 := by
  rw [Lib.extract_data, List.take_of_length_le (by rw [List.length_drop, list_len]; omega)]

end Go.Proofs.YtidmppphlcfpjaaGreatDoor.Tgs

/-
  CONTRACTS of both sides' StrongSame and WeakSame; nothing that was there before is changed.
-/
namespace Go.Proofs.YtidmppphlcfpjaaGreatDoor.Tgs
open Go Go.RowKit
set_option linter.unusedVariables false
set_option maxRecDepth 1000000

def samestrong (f g : T) : Bool := !f.1 && (!g.1 && f.2 == g.2)
def sameweak (f g : T) : Bool := f.2 == g.2
theorem two_boxes (w : World) (a b : Array Value) (T1 : TypeId) : Below w.heap.size w ((w.alloc (.cells a T1)).alloc (.cells b T1)) := ((Below.refl _ _).alloc (Nat.le_refl _) _).alloc (by simp) _
theorem text_ne {y v : List UInt8} (h : y ≠ v) : ((⟨y.toArray⟩ : ByteArray) = ⟨v.toArray⟩) = False := by
  apply eq_false; intro e
  apply h
  have := congrArg (fun s : ByteArray => s.data.toList) e
  simpa using this

end Go.Proofs.YtidmppphlcfpjaaGreatDoor.Tgs

/-
  CONTRACTS of MergeFields, the model's and the program's: in new memory, the fields whose name the newer ones do not have, followed by the newer ones; nothing that was there before is changed.
-/
namespace Go.Proofs.YtidmppphlcfpjaaGreatDoor.Flds
open Go Go.RowKit
set_option linter.unusedVariables false
set_option maxRecDepth 1000000

def has (nw : List Fld) (n : List UInt8) : Bool := nw.any (fun f => f.1 == n)
theorem has_vals (nw : List Fld) (n : List UInt8) : decide (0 < (vals n nw).length) = has nw n := by
  unfold vals has
  rw [List.length_map]
  induction nw with
  | nil => rfl
  | cons a r ih =>
    by_cases h : (a.1 == n) = true
    · rw [List.filter_cons_of_pos (by exact h), List.any_cons, h]; simp
    · rw [List.filter_cons_of_neg (by exact h), List.any_cons, ih]; simp [h]
def keepm (nw l : List Fld) : List Fld := l.filter (fun f => !has nw f.1)
def merged (l nw : List Fld) : List Fld := keepm nw l ++ nw
theorem keepm_le (nw l : List Fld) : (keepm nw l).length ≤ l.length := List.length_filter_le _ _
theorem keepm_more {nw l : List Fld} {k : Nat} (h : k < l.length) : keepm nw (l.take (k + 1)) = if has nw (l.getD k nofld).1 = true then keepm nw (l.take k) else keepm nw (l.take k) ++ [l.getD k nofld] := by
  unfold keepm
  rw [filt_more h]
  by_cases e : has nw (l.getD k nofld).1 = true
  · rw [if_pos e, if_neg (by rw [e]; decide)]
  · rw [if_neg e, if_pos (by simpa using e)]

/-! slices.IndexFunc and slices.ContainsFunc at a closure that only reads -/
theorem any_more {p : Fld → Bool} {l : List Fld} {k : Nat} (h : k < l.length) : (l.take (k + 1)).any p = ((l.take k).any p || p (l.getD k nofld)) := by
  rw [List.take_succ_eq_append_getElem h, List.any_append, show l.getD k nofld = l[k] by simp [List.getD, h]]; simp
theorem any_take {p : Fld → Bool} {l : List Fld} {k : Nat} (h : (l.take k).any p = true) : l.any p = true := by
  rw [List.any_eq_true] at h ⊢
  obtain ⟨x, hx, hp⟩ := h
  exact ⟨x, List.mem_of_mem_take hx, hp⟩
def IdxEnd (p : Fld → Bool) (l : List Fld) (w : World) (e : Ending) (w' : World) : Prop := ∃ z : Int, e = .returned (.int .i64 z) ∧ ((0 ≤ z ∧ l.any p = true) ∨ (z < 0 ∧ l.any p = false)) ∧ Below w.heap.size w w'

set_option maxRecDepth 1000000 in
theorem idx_nil (K : FuncId) (q : Value) (p : Fld → Bool) (a : Option Addr) (cap : Nat) (w : World) :
    Calls Tryz.prog 186 #[.slice a 0 cap, .func (.func K) #[] #[q]] w (IdxEnd p [] w) := by
  go_enter Tryz.func186, Tryz.ntmps186
  go_wp2
  go_loop [8] (fun i => i = .int .i64 0) (fun i => 0)
  case atStart => rfl
  case round =>
    obtain rfl := hrel
    go_wp2
    go_ret
    exact ⟨_, rfl, Or.inr ⟨by decide, rfl⟩, Below.refl _ _⟩

set_option maxRecDepth 1000000 in
set_option maxHeartbeats 1000000 in
theorem idx_some (K : FuncId) (q : Value) (p : Fld → Bool) (b off cap : Nat) (l : List Fld) (w : World) (hE : Enters K) (hK : Keeps K q p w) (hc : At w b off l) (h0 : 0 < l.length) (hl : l.length ≤ 1048576) :
    Calls Tryz.prog 186 #[.slice (some ⟨b, off, none⟩) l.length cap, .func (.func K) #[] #[q]] w (IdxEnd p l w) := by
  have hbl := at_lt hc h0
  have HC := Lib.hid hc
  have HK := Lib.hid hK
  have HE := Lib.hid hE
  clear hc hK hE
  go_enter Tryz.func186, Tryz.ntmps186
  go_wp2
  go_loopw [8] (fun i wr => ∃ k : Nat, k ≤ l.length ∧ i = .int .i64 (k : Int) ∧ Hid ((l.take k).any p = false) ∧ Below w.heap.size w wr) (fun i _ => l.length - (intOf i).toNat)
  case atStart => exact ⟨0, Nat.zero_le _, rfl, rfl, Below.refl _ _⟩
  case round =>
    obtain ⟨k, hk, rfl, hn, hb⟩ := hrel
    by_cases hlt : k < l.length
    · obtain ⟨c1, c2⟩ := at_below HC.out hb hbl k hlt
      have HM := Lib.hid (any_more (p := p) hlt)
      generalize l.getD k nofld = f at c1 c2 HM
      obtain ⟨x, y⟩ := f
      unfold sv at c1 c2
      have HB := Lib.hid hb
      have HKx := Lib.hid (HK.out x y wr hb)
      clear hb
      by_cases hp : p (x, y) = true
      · have HT : Hid (l.any p = true) := Lib.hid (any_take (k := k + 1) (by rw [HM.out, hp]; simp))
        rw [hp] at HKx
        clear hp HM hn
        go_wp2_with (fail)
        rw [HE.out, Oper.upon_enter]
        refine HKx.out.mono ?_
        rintro e w1 ⟨rfl, hb1⟩
        have HB1 := Lib.hid (Base.then_below HB.out hb1)
        clear hb1
        go_wp2
        go_ret
        exact ⟨_, rfl, Or.inl ⟨by omega, HT.out⟩, HB1.out⟩
      · have hp' : p (x, y) = false := by simpa using hp
        have HT : Hid ((l.take (k + 1)).any p = false) := Lib.hid (by rw [HM.out, hn.out, hp']; rfl)
        rw [hp'] at HKx
        clear hp hp' HM hn
        go_wp2_with (fail)
        rw [HE.out, Oper.upon_enter]
        refine HKx.out.mono ?_
        rintro e w1 ⟨rfl, hb1⟩
        have HB1 := Lib.hid (Base.then_below HB.out hb1)
        clear hb1
        go_wp2
        go_roundw
        case rel => exact ⟨k + 1, by omega, by go_num, HT.out, HB1.out⟩
        case measure => simp [intOf]; omega
    · have HT : Hid (l.any p = false) := Lib.hid (by have h := hn.out; rwa [List.take_of_length_le (by omega)] at h)
      go_wp2
      go_ret
      exact ⟨_, rfl, Or.inr ⟨by decide, HT.out⟩, hb⟩

theorem idx_any (K : FuncId) (q : Value) (p : Fld → Bool) (v : Value) (B : Nat) (l : List Fld) (w : World) (hE : Enters K) (hK : Keeps K q p w) (h : Holds w B v l) (hl : l.length ≤ 1048576) :
    Calls Tryz.prog 186 #[v, .func (.func K) #[] #[q]] w (IdxEnd p l w) := by
  rcases h with ⟨rfl, a, cap, rfl⟩ | ⟨h0, b, off, cap, rfl, _, _, hc⟩
  · exact idx_nil K q p a cap w
  · exact idx_some K q p b off cap l w hE hK hc h0 hl

set_option maxRecDepth 1000000 in
theorem contains_any (K : FuncId) (q : Value) (p : Fld → Bool) (v : Value) (B : Nat) (l : List Fld) (w : World) (hE : Enters K) (hK : Keeps K q p w) (h : Holds w B v l) (hl : l.length ≤ 1048576) :
    Calls Tryz.prog 156 #[v, .func (.func K) #[] #[q]] w fun e w' => e = .returned (.bool (l.any p)) ∧ Below w.heap.size w w' := by
  have HI := Lib.hid (idx_any K q p v B l w hE hK h hl)
  clear h hK hE
  go_enter Tryz.func156, Tryz.ntmps156
  go_wp2_with (fail)
  go_at_call 186
  refine HI.out.mono ?_
  rintro e w1 ⟨z, rfl, hz, hb⟩
  rcases hz with ⟨hz, hp⟩ | ⟨hz, hp⟩
  · have HP := Lib.hid hp
    have HB := Lib.hid hb
    clear hb hp
    go_wp2
    go_ret
    exact ⟨congrArg (fun q => Ending.returned (.bool q)) (show true = l.any p from HP.out.symm), HB.out⟩
  · have HP := Lib.hid hp
    have hzn : ¬ 0 ≤ z := by omega
    have HB := Lib.hid hb
    clear hb hp
    go_wp2
    go_ret
    exact ⟨congrArg (fun q => Ending.returned (.bool q)) (show decide (0 ≤ z) = l.any p by rw [HP.out]; simp; omega), HB.out⟩

set_option maxRecDepth 1000000 in
theorem enters_has : Enters 157 := fun args w => rfl
set_option maxRecDepth 1000000 in
theorem has_keeps (g : Nat) (n : List UInt8) (w : World) (hc : w.cell? ⟨g, 0, none⟩ = some (.string ⟨n.toArray⟩)) : Keeps 157 (.pointer (some ⟨g, 0, none⟩)) (fun f => f.1 == n) w := by
  intro x y wx hb
  have hg := lt_of_cell hc
  have hgx : g < wx.heap.size := Nat.lt_of_lt_of_le hg hb.size
  have hcx : wx.cell? ⟨g, 0, none⟩ = some (.string ⟨n.toArray⟩) := (hb.cell (p := ⟨g, 0, none⟩) hg).trans hc
  have HB := Lib.hid ((Below.refl wx.heap.size wx).alloc (Nat.le_refl _) (.cells #[.string ⟨x.toArray⟩, .string ⟨y.toArray⟩] 123))
  clear hb hc hg
  by_cases e : x = n
  · subst e
    go_enter Tryz.func157, Tryz.ntmps157
    go_wp2
    go_ret
    exact ⟨by simp, HB.out⟩
  · have hq : (x == n) = false := by simpa using e
    go_enter Tryz.func157, Tryz.ntmps157
    go_wp2
    go_ret
    exact ⟨by simp [e], HB.out⟩

set_option maxRecDepth 1000000 in
theorem impl_has (v : Value) (B : Nat) (nw : List Fld) (n : List UInt8) (w : World) (h : Holds w B v nw) (hB : B ≤ w.heap.size) (hl : nw.length ≤ 1048576) :
    Calls Tryz.prog 119 #[v, .string ⟨n.toArray⟩] w fun e w' => e = .returned (.bool (has nw n)) ∧ Below w.heap.size w w' := by
  have hmf : ∀ (fn : Fn) (first cap : Array Value) (w : World), (Instr.makeFunc fn first cap).run Tryz.prog w = .ok (.func fn first cap) w := fun _ _ _ _ => rfl
  have hb2 : Below w.heap.size w (w.alloc (.cells #[.string ⟨n.toArray⟩] 9)) := (Below.refl _ _).alloc (Nat.le_refl _) _
  have hcn : (w.alloc (.cells #[.string ⟨n.toArray⟩] 9)).cell? ⟨w.heap.size, 0, none⟩ = some (.string ⟨n.toArray⟩) := by
    rw [World.cell?_alloc_at _ _ _ _ rfl]; rfl
  have HF := Lib.hid (contains_any 157 (.pointer (some ⟨w.heap.size, 0, none⟩)) (fun f => f.1 == n) v B nw _ enters_has (has_keeps w.heap.size n _ hcn) (holds_below h (hb2.mono hB)) hl)
  have HL := Lib.hid hb2
  clear hb2 hcn h
  unfold has
  go_enter Tryz.func119, Tryz.ntmps119
  go_wp2_with (fail)
  go_at_call 156
  refine HF.out.mono ?_
  rintro e w3 ⟨rfl, hb3⟩
  have HR := Lib.hid (HL.out.trans (hb3.mono (by simp)))
  clear hb3
  go_wp2
  go_ret
  exact ⟨rfl, HR.out⟩

end Go.Proofs.YtidmppphlcfpjaaGreatDoor.Flds

/-
  CONTRACTS of the program's answerTag and changeAndLimit and of both sides' RangeHolds; nothing that was there before is changed.
-/
namespace Go.Proofs.YtidmppphlcfpjaaGreatDoor.Rgh
open Go Go.RowKit
set_option linter.unusedVariables false
set_option maxRecDepth 1000000

def etagN : List UInt8 := [101, 116, 97, 103]
def modN : List UInt8 := [108, 97, 115, 116, 45, 109, 111, 100, 105, 102, 105, 101, 100]
def ifrN : List UInt8 := [105, 102, 45, 114, 97, 110, 103, 101]
theorem vals_two {n : List UInt8} (hn : 1 ≤ n.length) : ∀ l : List Flds.Fld, ((Flds.vals n l).map (·.length)).sum + 2 * (Flds.vals n l).length ≤ Flds.total l
  | [] => by simp [Flds.vals, Flds.total]
  | f :: l => by
    have ih := vals_two hn l
    have e : Flds.vals n (f :: l) = if (f.1 == n) = true then f.2 :: Flds.vals n l else Flds.vals n l := by
      unfold Flds.vals
      rw [List.filter_cons]
      split <;> simp
    have et : Flds.total (f :: l) = Flds.wt f + 1 + Flds.total l := by unfold Flds.total; simp; omega
    rw [e, et]
    split
    · rename_i h
      have h1 : f.1 = n := by simpa using h
      have : Flds.wt f = n.length + f.2.length := by unfold Flds.wt; rw [h1]
      simp
      omega
    · omega
theorem got_short {n : List UInt8} (hn : 1 ≤ n.length) (l : List Flds.Fld) : (Flds.got n l).length ≤ Flds.total l := by
  have h1 := Tx.join_len (Flds.vals n l) (Flds.vals n l).length (Nat.le_refl _)
  rw [List.take_length] at h1
  have h2 := Tx.pre_le (Flds.vals n l) (Flds.vals n l).length
  have h3 := vals_two hn l
  unfold Flds.got
  omega
/-- The tag of an answer. -/
def atag (m : List Flds.Fld) : (Bool × List UInt8) × Bool := Tgs.ptag (Flds.got etagN m)
/-- Whether the answer is the one of which the request has a part. -/
noncomputable def rgh (l m : List Flds.Fld) : Bool :=
  if 0 < (Flds.vals ifrN l).length then
    (if (Tgs.ptag (Flds.got ifrN l)).2 = true then (atag m).2 && Tgs.samestrong (Tgs.ptag (Flds.got ifrN l)).1 (atag m).1
     else (Age.din modN m).2 && (Age.din ifrN l).2 && ((Age.din modN m).1 == (Age.din ifrN l).1))
  else true
def TagEnd (p : (Bool × List UInt8) × Bool) (w : World) (e : Ending) (w' : World) : Prop := e = .returned (.tuple #[.agg #[.bool p.1.1, .string ⟨p.1.2.toArray⟩], .bool p.2]) ∧ Below w.heap.size w w'
def BoolEnd (b : Bool) (w : World) (e : Ending) (w' : World) : Prop := e = .returned (.bool b) ∧ Below w.heap.size w w'
def ThreeEnd (a b : Int) (c : Bool) (w : World) (e : Ending) (w' : World) : Prop := e = .returned (.tuple #[.int .i64 a, .int .i64 b, .bool c]) ∧ Below w.heap.size w w'
theorem ret_b {a b : Bool} (h : a = b) : Ending.returned (.bool a) = .returned (.bool b) := by rw [h]

end Go.Proofs.YtidmppphlcfpjaaGreatDoor.Rgh
