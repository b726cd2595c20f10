/-
  CONTRACTS AND PLAIN FACTS, several texts in one; each says in its own words what it proves.
-/
import Derived.Test.YtojmkdggkaocdaaGreatDoorPqT
import Derived.Test.YtojmkdggkaocdaaGreatDoorPqA
import Derived.LoopTactic
import Derived.Test.YtojmkdggkaocdaaGreatDoorPqK
import Derived.Test.YtojmkdggkaocdaaGreatDoorPqH
import Derived.IntWalk
import Derived.Test.YtojmkdggkaocdaaGreatDoorPqE
import Derived.Test.YtojmkdggkaocdaaGreatDoorPqB

/-
  CONTRACT of the model's ParseDate at texts of the other lengths, and at all.
-/
namespace Go.Proofs.YtojmkdggkaocdaaGreatDoor.Dt
open Go Go.RowKit
set_option linter.unusedVariables false
set_option maxRecDepth 1000000


set_option maxHeartbeats 1000000 in
theorem spec_pdo (l : List UInt8) (h1 : l.length ≠ 29) (h2 : l.length ≠ 24) (h3 : l.length < 30 ∨ 33 < l.length) (hs : l.length ≤ 67108864) (w : World) : Calls Tryz.prog 83 #[.string ⟨l.toArray⟩] w (PdEnd (pdate l) w) := by
  have hsz : (⟨l.toArray⟩ : ByteArray).size = l.length := by simp [ByteArray.size]
  have HE : Hid (pdate l = (0, false)) := Lib.hid (pdate_no (by
    rintro t (h | h | h)
    · exact h1 (f1_read h).1
    · have := (f2_read h).1; omega
    · exact h2 (f3_read h).1))
  have q1 : ((l.length : Int) == 29) = false := by rw [beq_eq_false_iff_ne]; omega
  have q2 : ((l.length : Int) == 24) = false := by rw [beq_eq_false_iff_ne]; omega
  have HO := Lib.hid (show (l.length : Int) < 30 ∨ 33 < (l.length : Int) by omega)
  have HD := Lib.hid (fun W => spec_days 0 0 0 W (by decide))
  have hd : dof 0 0 0 = -1 := rfl
  rw [hd] at HD
  unfold Num at HD
  unfold PdEnd
  go_enter Tryz.func83, Tryz.ntmps83
  go_wp2_with (fail)
  go_at_call 36
  refine (NumDiv.in_no _ _ _ _ HO.out).mono ?_
  rintro e wn ⟨rfl, rfl⟩
  go_wp2_with (fail)
  go_at_call 126
  refine (HD.out _).mono ?_
  rintro e w1 ⟨rfl, hb1⟩
  have HB := Lib.hid hb1
  clear hb1
  go_wp2
  go_ret2
  exact ⟨by rw [HE.out]; rfl, HB.out⟩
theorem spec_pdate (l : List UInt8) (w : World) (hs : l.length ≤ 67108864) : Calls Tryz.prog 83 #[.string ⟨l.toArray⟩] w (PdEnd (pdate l) w) := by
  by_cases h1 : l.length = 29
  · exact spec_pd29 l h1 hs w
  · by_cases h2 : l.length = 24
    · exact spec_pd24 l h2 hs w
    · by_cases h3 : l.length < 30 ∨ 33 < l.length
      · exact spec_pdo l h1 h2 h3 hs w
      · exact spec_pd30 l (k := l.length - 24) (by omega) (by omega) hs w
end Go.Proofs.YtojmkdggkaocdaaGreatDoor.Dt

/-
  CONTRACT of the program's Max.
-/
namespace Go.Proofs.YtojmkdggkaocdaaGreatDoor.Mm
open Go Go.RowKit
set_option linter.unusedVariables false
set_option maxRecDepth 1000000
theorem ret_max_impl {a b : Int} (h : a = b) : Ending.returned (.int .i64 a) = .returned (.int .i64 b) := by rw [h]
theorem impl_max (a b : Int) (w : World) : Calls Tryz.prog 88 #[.int .i64 a, .int .i64 b] w fun e w' => e = .returned (.int .i64 (max a b)) ∧ w = w' := by
  by_cases h : b ≤ a
  · go_enter Tryz.func88, Tryz.ntmps88
    go_wp2
    all_goals go_ret
    all_goals exact ⟨ret_max_impl (by omega), rfl⟩
  · go_enter Tryz.func88, Tryz.ntmps88
    go_wp2
    all_goals go_ret
    all_goals exact ⟨ret_max_impl (by omega), rfl⟩
end Go.Proofs.YtojmkdggkaocdaaGreatDoor.Mm

/-
  CONTRACTS of the program's Min and Max.
-/
namespace Go.Proofs.YtojmkdggkaocdaaGreatDoor.Mm
open Go Go.RowKit
set_option linter.unusedVariables false
set_option maxRecDepth 1000000
theorem ret_int {a b : Int} (h : a = b) : Ending.returned (.int .i64 a) = .returned (.int .i64 b) := by rw [h]
theorem impl_min (a b : Int) (w : World) : Calls Tryz.prog 91 #[.int .i64 a, .int .i64 b] w fun e w' => e = .returned (.int .i64 (min a b)) ∧ w = w' := by
  by_cases h : a ≤ b
  · have HE := Lib.hid (show a = min a b by omega)
    go_enter Tryz.func91, Tryz.ntmps91
    go_wp2
    all_goals go_ret
    all_goals exact ⟨ret_int (by omega), rfl⟩
  · go_enter Tryz.func91, Tryz.ntmps91
    go_wp2
    all_goals go_ret
    all_goals exact ⟨ret_int (by omega), rfl⟩
end Go.Proofs.YtojmkdggkaocdaaGreatDoor.Mm

/-
  CONTRACTS of the program's dateIn and of both sides' InitialAge; nothing that was there before is changed.
-/
namespace Go.Proofs.YtojmkdggkaocdaaGreatDoor.Age
open Go Go.RowKit
set_option linter.unusedVariables false
set_option maxRecDepth 1000000

/-- The tables that the library and the program lay. -/
def Tabs (w : World) : Prop := Dt.Mds w ∧ Dt.Names w ∧ Fmt.Tens w
theorem tabs_below {w w1 : World} (h : Tabs w) (hb : Below w.heap.size w w1) : Tabs w1 := ⟨Dt.mds_below h.1 hb, Dt.names_below h.2.1 hb, Fmt.tens_below h.2.2 hb⟩
/-- The date that a field is. -/
noncomputable def din (n : List UInt8) (l : List Flds.Fld) : Int × Bool := Dt.pdate (Flds.got n l)
theorem din_bd (n : List UInt8) (l : List Flds.Fld) : 0 ≤ (din n l).1 ∧ (din n l).1 ≤ 4102444799 := Dt.pdate_bd _
def PairEnd (p : Int × Bool) (w : World) (e : Ending) (w' : World) : Prop := e = .returned (.tuple #[.int .i64 p.1, .bool p.2]) ∧ Below w.heap.size w w'

set_option maxHeartbeats 1000000 in
theorem impl_din (v : Value) (B : Nat) (l : List Flds.Fld) (n : List UInt8) (w : World) (h : Flds.Holds w B v l) (hB : B ≤ w.heap.size) (hl : Flds.total l ≤ 1048576) (ht : Tabs w) :
    Calls Tryz.prog 90 #[v, .string ⟨n.toArray⟩] w (PairEnd (din n l) w) := by
  have hg := Flds.got_len n l
  have HG := Lib.hid (Flds.impl_get v B l n _ h hB hl)
  have HP := Lib.hid (fun W (hb : Below w.heap.size w W) => Dt.impl_pdate (Flds.got n l) W (by omega) (tabs_below ht hb).1 (tabs_below ht hb).2.1 (tabs_below ht hb).2.2)
  unfold Flds.GetEnd at HG
  unfold Dt.PdEnd at HP
  have hj : Tx.join (Flds.vals n l) = Flds.got n l := rfl
  rw [hj] at HG
  unfold PairEnd din
  obtain ⟨a, cap, rfl, _⟩ := Flds.shape_lget h
  clear h hl ht hg hj
  generalize Flds.got n l = g at HG HP ⊢
  generalize decide (0 < (Flds.vals n l).length) = q at HG
  generalize Dt.pdate g = p at HP ⊢
  go_enter Tryz.func90, Tryz.ntmps90
  go_wp2_with (fail)
  go_at_call 62
  refine HG.out.mono ?_
  rintro e w1 ⟨rfl, hb1⟩
  have HB1 := Lib.hid hb1
  clear hb1
  go_wp2_with (fail)
  go_at_call 128
  refine (HP.out _ HB1.out).mono ?_
  rintro e w2 ⟨rfl, hb2⟩
  have HB2 := Lib.hid (Base.then_below HB1.out hb2)
  clear hb2
  go_wp2
  go_ret2
  exact ⟨rfl, HB2.out⟩

def dateN : List UInt8 := [100, 97, 116, 101]
def ia0 (l : List Flds.Fld) (a g : Int) : Int := wrap64 (agef l + max 0 (wrap64 (g - a)))
noncomputable def inia (l : List Flds.Fld) (a g : Int) : Int := min (if (din dateN l).2 = true then max (ia0 l a g) (wrap64 (g - (din dateN l).1)) else ia0 l a g) 2147483648

set_option maxHeartbeats 2000000 in
theorem spec_inia (c : Int) (v : Value) (B : Nat) (l : List Flds.Fld) (b : List UInt8) (a g : Int) (w : World) (h : Flds.Holds w B v l) (hB : B ≤ w.heap.size) (hl : Flds.total l ≤ 1048576) (wa : (Lit.int .i64 a).wf = true) (wg : (Lit.int .i64 g).wf = true) :
    Calls Tryz.prog 39 #[.agg #[.int .i64 c, v, .string ⟨b.toArray⟩], .int .i64 a, .int .i64 g] w (NumEnd (inia l a g) w) := by
  have HB0 : Hid (Below w.heap.size w (w.alloc (.cells #[.int .i64 c, v, .string ⟨b.toArray⟩] 30))) := Lib.hid ((Below.refl _ _).alloc (Nat.le_refl _) _)
  have HX := Lib.hid (fun w1 => kept3 (w := w) (w1 := w1) (T := 30) (a := .int .i64 c) (b := v) (c := .string ⟨b.toArray⟩))
  have HA := Lib.hid (spec_agef c v B l b _ (Flds.holds_below h (HB0.out.mono hB)) (Nat.le_trans hB HB0.out.size) hl)
  have HY := Lib.hid (fun W (hb : Below w.heap.size w W) => Flds.holds_below h (hb.mono hB))
  have hg := Flds.got_len dateN l
  have HG := Lib.hid (fun W (hb : Below w.heap.size w W) => Flds.spec_lget v B l dateN W (HY.out W hb) (by omega))
  have HP := Lib.hid (fun W => Dt.spec_pdate (Flds.got dateN l) W (by omega))
  have HE : Hid (inia l a g = min (if (din dateN l).2 = true then max (ia0 l a g) (wrap64 (g - (din dateN l).1)) else ia0 l a g) 2147483648) := Lib.hid rfl
  have hdd : Dt.pdate (Flds.got dateN l) = din dateN l := rfl
  rw [hdd] at HP
  have hi0 : ia0 l a g = wrap64 (agef l + max 0 (wrap64 (g - a))) := rfl
  rw [hi0] at HE
  have ab := agef_bd l
  have db := din_bd dateN l
  unfold Flds.GotEnd at HG
  unfold Dt.PdEnd at HP
  unfold NumEnd at HA ⊢
  clear h hl hg hdd hi0
  generalize inia l a g = z at HE ⊢
  generalize agef l = ag at HA HE ab
  generalize din dateN l = p at HP HE db
  generalize Flds.got dateN l = t at HG HP
  obtain ⟨d, ok⟩ := p
  simp only at HE HP db
  obtain ⟨a1, a2⟩ := ab
  obtain ⟨d1, d2⟩ := db
  unfold dateN at HG
  cases ok
  all_goals
    simp only [Bool.false_eq_true, if_false, if_true] at HE
    go_enter Tryz.func39, Tryz.ntmps39
    go_wp2_with (fail)
    go_at_call 82
    refine HA.out.mono ?_
    rintro e w1 ⟨rfl, hb1⟩
    obtain ⟨⟨q0, q1, q2⟩, hbw⟩ := HX.out _ hb1
    have HB1 := Lib.hid hbw
    clear hb1 hbw
    go_wp2_with (fail)
    go_at_call 80
    refine (Mm.spec_max _ _ _).mono ?_
    rintro e wm ⟨rfl, rfl⟩
    go_wp2_with (fail)
    go_at_call 58
    refine (HG.out _ HB1.out).mono ?_
    rintro e w2 ⟨rfl, hb2⟩
    have HB2 := Lib.hid (Base.then_below HB1.out hb2)
    clear hb2
    go_wp2_with (fail)
    go_at_call 83
    refine (HP.out _).mono ?_
    rintro e w3 ⟨rfl, hb3⟩
    have HB3 := Lib.hid (Base.then_below HB2.out hb3)
    clear hb3
  · go_wp2_with (fail)
    go_at_call 81
    refine (Mm.spec_min _ _ _).mono ?_
    rintro e wm ⟨rfl, rfl⟩
    go_wp2
    go_ret
    exact ⟨ret_n HE.out.symm, HB3.out⟩
  · go_wp2_with (fail)
    go_at_call 80
    refine (Mm.spec_max _ _ _).mono ?_
    rintro e wm ⟨rfl, rfl⟩
    go_wp2_with (fail)
    go_at_call 81
    refine (Mm.spec_min _ _ _).mono ?_
    rintro e wm ⟨rfl, rfl⟩
    go_wp2
    go_ret
    exact ⟨ret_n HE.out.symm, HB3.out⟩

set_option maxHeartbeats 2000000 in
theorem impl_inia (c : Int) (v : Value) (B : Nat) (l : List Flds.Fld) (b : List UInt8) (a g : Int) (w : World) (h : Flds.Holds w B v l) (hB : B ≤ w.heap.size) (hl : Flds.total l ≤ 1048576) (wa : (Lit.int .i64 a).wf = true) (wg : (Lit.int .i64 g).wf = true) (ht : Tabs w) (her : Par.Errs w) :
    Calls Tryz.prog 46 #[.agg #[.int .i64 c, v, .string ⟨b.toArray⟩], .int .i64 a, .int .i64 g] w (NumEnd (inia l a g) w) := by
  have HB0 : Hid (Below w.heap.size w (w.alloc (.cells #[.int .i64 c, v, .string ⟨b.toArray⟩] 30))) := Lib.hid ((Below.refl _ _).alloc (Nat.le_refl _) _)
  have HX := Lib.hid (fun w1 => kept3 (w := w) (w1 := w1) (T := 30) (a := .int .i64 c) (b := v) (c := .string ⟨b.toArray⟩))
  have HA := Lib.hid (impl_agef c v B l b _ (Flds.holds_below h (HB0.out.mono hB)) (Nat.le_trans hB HB0.out.size) hl (tabs_below ht HB0.out).2.2 (Par.errs_below her HB0.out))
  have HP := Lib.hid (fun W (hb : Below w.heap.size w W) => impl_din v B l dateN W (Flds.holds_below h (hb.mono hB)) (Nat.le_trans hB hb.size) hl (tabs_below ht hb))
  have HE : Hid (inia l a g = min (if (din dateN l).2 = true then max (ia0 l a g) (wrap64 (g - (din dateN l).1)) else ia0 l a g) 2147483648) := Lib.hid rfl
  have hi0 : ia0 l a g = wrap64 (agef l + max 0 (wrap64 (g - a))) := rfl
  rw [hi0] at HE
  have ab := agef_bd l
  have db := din_bd dateN l
  unfold PairEnd at HP
  unfold NumEnd at HA ⊢
  clear h hl hi0 ht her
  generalize inia l a g = z at HE ⊢
  generalize agef l = ag at HA HE ab
  generalize din dateN l = p at HP HE db
  obtain ⟨d, ok⟩ := p
  simp only at HE HP db
  obtain ⟨a1, a2⟩ := ab
  obtain ⟨d1, d2⟩ := db
  unfold dateN at HP
  cases ok
  all_goals
    simp only [Bool.false_eq_true, if_false, if_true] at HE
    go_enter Tryz.func46, Tryz.ntmps46
    go_wp2_with (fail)
    go_at_call 89
    refine HA.out.mono ?_
    rintro e w1 ⟨rfl, hb1⟩
    obtain ⟨⟨q0, q1, q2⟩, hbw⟩ := HX.out _ hb1
    have HB1 := Lib.hid hbw
    clear hb1 hbw
    go_wp2_with (fail)
    go_at_call 88
    refine (Mm.impl_max _ _ _).mono ?_
    rintro e wm ⟨rfl, rfl⟩
    go_wp2_with (fail)
    go_at_call 90
    refine (HP.out _ HB1.out).mono ?_
    rintro e w3 ⟨rfl, hb3⟩
    have HB3 := Lib.hid (Base.then_below HB1.out hb3)
    clear hb3
  · go_wp2_with (fail)
    go_at_call 91
    refine (Mm.impl_min _ _ _).mono ?_
    rintro e wm ⟨rfl, rfl⟩
    go_wp2
    go_ret
    exact ⟨ret_n HE.out.symm, HB3.out⟩
  · go_wp2_with (fail)
    go_at_call 88
    refine (Mm.impl_max _ _ _).mono ?_
    rintro e wm ⟨rfl, rfl⟩
    go_wp2_with (fail)
    go_at_call 91
    refine (Mm.impl_min _ _ _).mono ?_
    rintro e wm ⟨rfl, rfl⟩
    go_wp2
    go_ret
    exact ⟨ret_n HE.out.symm, HB3.out⟩
end Go.Proofs.YtojmkdggkaocdaaGreatDoor.Age

/-
  CONTRACTS of the program's CurrentAge and of the model's.
-/
namespace Go.Proofs.YtojmkdggkaocdaaGreatDoor.Age
open Go Go.RowKit
set_option linter.unusedVariables false
set_option maxRecDepth 1000000
/-- The age at a time, as the words of 64 bits count it. -/
def cage (i g n : Int) : Int := max 0 (min 2147483648 (wrap64 (max 0 i + max 0 (wrap64 (n - g)))))
theorem ret_age {a b : Int} (h : a = b) : Ending.returned (.int .i64 a) = .returned (.int .i64 b) := by rw [h]
theorem spec_cage (i g n : Int) (w : World) (wi : (Lit.int .i64 i).wf = true) (wg : (Lit.int .i64 g).wf = true) (wn : (Lit.int .i64 n).wf = true) :
    Calls Tryz.prog 38 #[.int .i64 i, .int .i64 g, .int .i64 n] w fun e w' => e = .returned (.int .i64 (cage i g n)) ∧ w = w' := by
  unfold cage
  go_enter Tryz.func38, Tryz.ntmps38
  go_wp2_with (first | (go_at_call 80; refine (Mm.spec_max _ _ _).mono ?_; rintro e w1 ⟨rfl, rfl⟩) | (go_at_call 81; refine (Mm.spec_min _ _ _).mono ?_; rintro e w1 ⟨rfl, rfl⟩))
  go_ret
  exact ⟨ret_age (by rfl), rfl⟩
theorem impl_cage (i g n : Int) (w : World) (wi : (Lit.int .i64 i).wf = true) (wg : (Lit.int .i64 g).wf = true) (wn : (Lit.int .i64 n).wf = true) :
    Calls Tryz.prog 45 #[.int .i64 i, .int .i64 g, .int .i64 n] w fun e w' => e = .returned (.int .i64 (cage i g n)) ∧ w = w' := by
  unfold cage
  go_enter Tryz.func45, Tryz.ntmps45
  go_wp2_with (first | (go_at_call 88; refine (Mm.impl_max _ _ _).mono ?_; rintro e w1 ⟨rfl, rfl⟩) | (go_at_call 87; refine (Mm.impl_clamp _ _ _ _).mono ?_; rintro e w1 ⟨rfl, rfl⟩))
  go_ret
  exact ⟨ret_age (by omega), rfl⟩
end Go.Proofs.YtojmkdggkaocdaaGreatDoor.Age

/-
  PLAIN FACTS: a block of cells that the call has laid, read behind what only adds, behind a write into it, and behind a write elsewhere.
-/
namespace Go.Proofs.YtojmkdggkaocdaaGreatDoor.Kept
open Go Go.RowKit
set_option linter.unusedVariables false
set_option maxRecDepth 1000000

/-- The block g holds these values, and may be written. -/
structure Box (W : World) (g : Nat) (xs : List Value) : Prop where
  cell : ∀ j u, xs[j]? = some u → W.cell? ⟨g, j, none⟩ = some u
  frz : ∀ j, W.frozen? ⟨g, j, none⟩ = false
  lt : g < W.heap.size
theorem Box.new {w : World} {T : TypeId} {a : Array Value} : Box (w.alloc (.cells a T)) w.heap.size a.toList :=
  ⟨fun j u h => by rw [World.cell?_alloc_new]; simpa using h, fun j => by simp [go_sem], by simp⟩
theorem Box.below {W W' : World} {g : Nat} {xs : List Value} (h : Box W g xs) (hb : Below W.heap.size W W') : Box W' g xs :=
  ⟨fun j u e => (hb.cell (p := ⟨g, j, none⟩) h.lt).trans (h.cell j u e), fun j => (hb.frozen (p := ⟨g, j, none⟩) h.lt).trans (h.frz j), Nat.lt_of_lt_of_le h.lt hb.size⟩
theorem Box.alloc {W : World} {g : Nat} {xs : List Value} (h : Box W g xs) (o : Obj) : Box (W.alloc o) g xs := h.below ((Below.refl _ _).alloc (Nat.le_refl _) _)
theorem Box.same {W : World} {g k : Nat} {xs : List Value} (h : Box W g xs) (hk : k < xs.length) (v : Value) : Box (W.setCell ⟨g, k, none⟩ v) g (xs.set k v) :=
  ⟨fun j u e => by
    by_cases hj : j = k
    · subst hj
      obtain ⟨u0, hu0⟩ : ∃ u0, xs[j]? = some u0 := ⟨xs[j], by simp [hk]⟩
      rw [World.cell?_setCell_same _ _ _ (h.cell j u0 hu0)]
      simpa [hk] using e
    · rw [World.cell?_setCell_other _ _ _ _ (fun e => hj (by cases e; rfl))]
      exact h.cell j u (by rw [List.getElem?_set_ne (fun e => hj e.symm)] at e; exact e), fun j => by rw [World.frozen?_setCell]; exact h.frz j, by rw [World.size_setCell]; exact h.lt⟩
theorem Box.other {W : World} {g g' k : Nat} {xs : List Value} (h : Box W g xs) (hne : g' ≠ g) (v : Value) : Box (W.setCell ⟨g', k, none⟩ v) g xs :=
  ⟨fun j u e => by rw [World.cell?_setCell_other _ _ _ _ (fun e => hne (by cases e; rfl))]; exact h.cell j u e, fun j => by rw [World.frozen?_setCell]; exact h.frz j, by rw [World.size_setCell]; exact h.lt⟩
end Go.Proofs.YtojmkdggkaocdaaGreatDoor.Kept
