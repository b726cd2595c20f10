/-
  CONTRACTS AND PLAIN FACTS, several texts in one; each says in its own words what it proves.
-/
import Derived.Test.YtgclilgahalgaaaGreatDoorPartB
import Derived.Test.YtgclilgahalgaaaGreatDoorPartD
import Derived.Test.YtgclilgahalgaaaGreatDoorPartAB

/-
  CONTRACTS of SameFields, the model's and the program's (by slices.Equal): whether the two lists of fields are the same; nothing that was there before is changed.
-/
namespace Go.Proofs.YtgclilgahalgaaaGreatDoor.Flds
open Go Go.RowKit
set_option linter.unusedVariables false
set_option maxRecDepth 1000000

theorem take_more_eq {l l' : List Fld} {k : Nat} (h : l.take k = l'.take k) (h1 : k < l.length) (h2 : k < l'.length) (e : l.getD k nofld = l'.getD k nofld) : l.take (k + 1) = l'.take (k + 1) := by
  have e' : l[k] = l'[k] := by simpa [List.getD, h1, h2] using e
  rw [List.take_succ_eq_append_getElem h1, List.take_succ_eq_append_getElem h2, h, e']
theorem ne_of_getD {l l' : List Fld} {k : Nat} (e : l.getD k nofld ≠ l'.getD k nofld) : l ≠ l' := fun h => e (by rw [h])
theorem ret_yes {l l' : List Fld} (h : l = l') : Ending.returned (.bool true) = .returned (.bool (decide (l = l'))) := by rw [decide_eq_true h]
theorem ret_no {l l' : List Fld} (h : l ≠ l') : Ending.returned (.bool false) = .returned (.bool (decide (l = l'))) := by rw [decide_eq_false h]

def SameEnd (l l' : List Fld) (w : World) (e : Ending) (w' : World) : Prop := e = .returned (.bool (decide (l = l'))) ∧ Below w.heap.size w w'

/-! The program's: slices.Equal at fields. -/
end Go.Proofs.YtgclilgahalgaaaGreatDoor.Flds

/-
  CONTRACTS of SameResponse, the model's and the program's; nothing that was there before is changed.
-/
namespace Go.Proofs.YtgclilgahalgaaaGreatDoor.Msg
open Go Go.RowKit
set_option linter.unusedVariables false
set_option maxRecDepth 1000000

def BoolEnd (b : Bool) (w : World) (e : Ending) (w' : World) : Prop := e = .returned (.bool b) ∧ Below w.heap.size w w'
theorem ret_b {a b : Bool} (h : a = b) : Ending.returned (.bool a) = .returned (.bool b) := by rw [h]
theorem flds_drew {w : World} {B : Nat} {v : Value} {l : List Flds.Fld} (h : Flds.Holds w B v l) : Flds.Holds w.drew B v l := h
theorem flds_top {w : World} {B : Nat} {v : Value} {l : List Flds.Fld} (h : Flds.Holds w B v l) : Flds.Holds w w.heap.size v l := by
  rcases h with h | ⟨h0, b, off, cap, rfl, hB, hc, h1⟩
  · exact Or.inl h
  · exact Or.inr ⟨h0, b, off, cap, rfl, Flds.at_lt h1 h0, hc, h1⟩
def rspSame (c1 : Int) (l1 : List Flds.Fld) (b1 : List UInt8) (c2 : Int) (l2 : List Flds.Fld) (b2 : List UInt8) : Bool := decide (c1 = c2) && (decide (l1 = l2) && decide (b1 = b2))

end Go.Proofs.YtgclilgahalgaaaGreatDoor.Msg

/-
  CONTRACTS of both sides' RangeHolds; nothing that was there before is changed.
-/
namespace Go.Proofs.YtgclilgahalgaaaGreatDoor.Rgh
open Go Go.RowKit
set_option linter.unusedVariables false
set_option maxRecDepth 1000000

theorem keep_x {w W : World} {o : Obj} {T : TypeId} {a b c : Value} (hb : Below ((w.alloc o).alloc (.cells #[a, b, c] T)).heap.size ((w.alloc o).alloc (.cells #[a, b, c] T)) W) :
    (W.cell? ⟨w.heap.size + 1, 0, none⟩ = some a ∧ W.cell? ⟨w.heap.size + 1, 1, none⟩ = some b ∧ W.cell? ⟨w.heap.size + 1, 2, none⟩ = some c) ∧ Below w.heap.size w W := by
  have h := Kept.two hb
  exact ⟨⟨h.1 0 _ rfl, h.1 1 _ rfl, h.1 2 _ rfl⟩, Kept.below_in (Kept.below_in hb)⟩
theorem keep_r {w W : World} {o : Obj} {T : TypeId} {a b c d : Value} (hb : Below ((w.alloc (.cells #[a, b, c, d] T)).alloc o).heap.size ((w.alloc (.cells #[a, b, c, d] T)).alloc o) W) :
    W.cell? ⟨w.heap.size, 0, none⟩ = some a ∧ W.cell? ⟨w.heap.size, 1, none⟩ = some b ∧ W.cell? ⟨w.heap.size, 2, none⟩ = some c ∧ W.cell? ⟨w.heap.size, 3, none⟩ = some d := by
  have h := Kept.one (Kept.below_in hb)
  exact ⟨h.1 0 _ rfl, h.1 1 _ rfl, h.1 2 _ rfl, h.1 3 _ rfl⟩

set_option maxHeartbeats 4000000 in
theorem spec_rgh (me ho t : List UInt8) (u : Value) (l : List Flds.Fld) (c : Int) (v : Value) (m : List Flds.Fld) (b : List UInt8) (B : Nat) (w : World) (h : Flds.Holds w B u l) (h2 : Flds.Holds w B v m) (hB : B ≤ w.heap.size) (hl : Flds.total l ≤ 1048576) (hm : Flds.total m ≤ 1048576) :
    Calls Tryz.prog 13 #[.agg #[.string ⟨me.toArray⟩, .string ⟨ho.toArray⟩, .string ⟨t.toArray⟩, u], .agg #[.int .i64 c, v, .string ⟨b.toArray⟩]] w (BoolEnd (rgh l m) w) := by
  have HK := Lib.hid (fun W => keep_x (w := w) (W := W) (o := .cells #[.string ⟨me.toArray⟩, .string ⟨ho.toArray⟩, .string ⟨t.toArray⟩, u] 38) (T := 29) (a := .int .i64 c) (b := v) (c := .string ⟨b.toArray⟩))
  have HG := Lib.hid (fun W (hb : Below w.heap.size w W) => Flds.spec_get u B l ifrN W (Flds.holds_below h (hb.mono hB)) (by omega))
  have HGE := Lib.hid (fun W (hb : Below w.heap.size w W) => Flds.spec_lget v B m etagN W (Flds.holds_below h2 (hb.mono hB)) (by omega))
  have HGM := Lib.hid (fun W (hb : Below w.heap.size w W) => Flds.spec_lget v B m modN W (Flds.holds_below h2 (hb.mono hB)) (by omega))
  have s1 := got_short (n := ifrN) (by decide) l
  have s2 := got_short (n := etagN) (by decide) m
  have s3 := got_short (n := modN) (by decide) m
  have HP1 := Lib.hid (fun W => Tgs.spec_ptag (Flds.got ifrN l) W (by omega))
  have HP2 := Lib.hid (fun W => Tgs.spec_ptag (Flds.got etagN m) W (by omega))
  have HD1 := Lib.hid (fun W => Dt.spec_pdate (Flds.got ifrN l) W (by omega))
  have HD2 := Lib.hid (fun W => Dt.spec_pdate (Flds.got modN m) W (by omega))
  have HE : Hid (rgh l m = if 0 < (Flds.vals ifrN l).length then (if (Tgs.ptag (Flds.got ifrN l)).2 = true then (Tgs.ptag (Flds.got etagN m)).2 && Tgs.samestrong (Tgs.ptag (Flds.got ifrN l)).1 (Tgs.ptag (Flds.got etagN m)).1 else (Dt.pdate (Flds.got modN m)).2 && (Dt.pdate (Flds.got ifrN l)).2 && ((Dt.pdate (Flds.got modN m)).1 == (Dt.pdate (Flds.got ifrN l)).1)) else true) := Lib.hid rfl
  have hj : Tx.join (Flds.vals ifrN l) = Flds.got ifrN l := rfl
  unfold Flds.GetEnd at HG
  rw [hj] at HG
  unfold Flds.GotEnd at HGE HGM
  unfold Tgs.ParEnd at HP1 HP2
  unfold Dt.PdEnd at HD1 HD2
  unfold BoolEnd
  clear h h2 hl hm s1 s2 s3 hj
  generalize hvq : decide (0 < (Flds.vals ifrN l).length) = vq at HG
  generalize rgh l m = z at HE ⊢
  generalize Flds.got ifrN l = g1 at HG HP1 HD1 HE
  generalize Flds.got etagN m = g2 at HGE HP2 HE
  generalize Flds.got modN m = g3 at HGM HD2 HE
  generalize Tgs.ptag g1 = p at HP1 HE
  generalize Tgs.ptag g2 = q at HP2 HE
  generalize Dt.pdate g1 = d1 at HD1 HE
  generalize Dt.pdate g3 = d3 at HD2 HE
  obtain ⟨⟨p0, p1⟩, p2⟩ := p
  obtain ⟨⟨q0, q1⟩, q2⟩ := q
  obtain ⟨d1, k1⟩ := d1
  obtain ⟨d3, k3⟩ := d3
  simp only at HP1 HP2 HD1 HD2 HE
  have HSS := Lib.hid (fun W => Tgs.spec_strong p0 p1 q0 q1 W)
  generalize Tgs.samestrong (p0, p1) (q0, q1) = ss at HSS HE
  unfold ifrN at HG
  unfold etagN at HGE
  unfold modN at HGM
  have HB00 : Hid (Below ((w.alloc (.cells #[.string ⟨me.toArray⟩, .string ⟨ho.toArray⟩, .string ⟨t.toArray⟩, u] 38)).alloc (.cells #[.int .i64 c, v, .string ⟨b.toArray⟩] 29)).heap.size ((w.alloc (.cells #[.string ⟨me.toArray⟩, .string ⟨ho.toArray⟩, .string ⟨t.toArray⟩, u] 38)).alloc (.cells #[.int .i64 c, v, .string ⟨b.toArray⟩] 29)) ((w.alloc (.cells #[.string ⟨me.toArray⟩, .string ⟨ho.toArray⟩, .string ⟨t.toArray⟩, u] 38)).alloc (.cells #[.int .i64 c, v, .string ⟨b.toArray⟩] 29))) := Lib.hid (Below.refl _ _)
  by_cases hv : 0 < (Flds.vals ifrN l).length
  case neg =>
    rw [if_neg hv] at HE
    rw [decide_eq_false hv] at hvq
    subst hvq
    clear hv
    go_enter Tryz.func13, Tryz.ntmps13
    go_wp2_with (fail)
    go_at_call 33
    refine (HG.out _ (HK.out _ HB00.out).2).mono ?_
    rintro e w1 ⟨rfl, hb1⟩
    have HB1 := Lib.hid ((HK.out _ hb1).2)
    clear hb1
    go_wp2
    go_ret
    exact ⟨ret_b HE.out.symm, HB1.out⟩
  rw [if_pos hv] at HE
  rw [decide_eq_true hv] at hvq
  subst hvq
  clear hv
  cases p2
  all_goals
    simp only [Bool.false_eq_true, if_false, if_true] at HE
    go_enter Tryz.func13, Tryz.ntmps13
    go_wp2_with (fail)
    go_at_call 33
    refine (HG.out _ (HK.out _ HB00.out).2).mono ?_
    rintro e w1 ⟨rfl, hb1⟩
    have HB1 := Lib.hid hb1
    clear hb1 HB00
    go_wp2_with (fail)
    go_at_call 34
    refine (HP1.out _).mono ?_
    rintro e w2 ⟨rfl, hb2⟩
    have HB2 := Lib.hid (Base.then_below HB1.out hb2)
    clear hb2 HB1
  · have HB3 := Lib.hid (HB2.out.alloc HB2.out.size (.cells #[.bool p0, .string ⟨p1.toArray⟩] 57))
    go_wp2_with (fail)
    go_at_call 24
    refine (HD1.out _).mono ?_
    rintro e w3 ⟨rfl, hb3⟩
    have HB4 := Lib.hid (Base.then_below HB3.out hb3)
    obtain ⟨⟨x0, x1, x2⟩, hbw⟩ := HK.out _ HB4.out
    have HBW := Lib.hid hbw
    clear hb3 hbw HB3
    go_wp2_with (fail)
    go_at_call 25
    refine (HGM.out _ HBW.out).mono ?_
    rintro e w4 ⟨rfl, hb4⟩
    have HB5 := Lib.hid (Base.then_below HBW.out hb4)
    clear hb4 x0 x1 x2
    go_wp2_with (fail)
    go_at_call 24
    refine (HD2.out _).mono ?_
    rintro e w5 ⟨rfl, hb5⟩
    have HB6 := Lib.hid (Base.then_below HB5.out hb5)
    clear hb5
    rcases he : (d1 == d3) with _ | _
    all_goals
      have he2 : (d3 == d1) = (d1 == d3) := BEq.comm
      rw [he2, he] at HE
      clear he2
      cases k1 <;> cases k3
    all_goals
      go_wp2
      go_ret
      exact ⟨ret_b HE.out.symm, HB6.out⟩
  · have HB3 := Lib.hid (HB2.out.alloc HB2.out.size (.cells #[.bool p0, .string ⟨p1.toArray⟩] 57))
    obtain ⟨⟨x0, x1, x2⟩, hbw⟩ := HK.out _ HB3.out
    have HBW := Lib.hid hbw
    have HQ1 : Hid ((w2.alloc (.cells #[.bool p0, .string ⟨p1.toArray⟩] 57)).cell? ⟨w2.heap.size, 0, none⟩ = some (.bool p0) ∧ (w2.alloc (.cells #[.bool p0, .string ⟨p1.toArray⟩] 57)).cell? ⟨w2.heap.size, 1, none⟩ = some (.string ⟨p1.toArray⟩)) := Lib.hid ⟨by rw [World.cell?_alloc_new]; rfl, by rw [World.cell?_alloc_new]; rfl⟩
    clear hbw
    go_wp2_with (fail)
    go_at_call 25
    refine (HGE.out _ HBW.out).mono ?_
    rintro e w3 ⟨rfl, hb3⟩
    have HB5 := Lib.hid (Base.then_below HBW.out hb3)
    have HQ2 := Lib.hid (And.intro ((hb3.cell (p := ⟨w2.heap.size, 0, none⟩) (Rec.lt_of_cell HQ1.out.1)).trans HQ1.out.1) ((hb3.cell (p := ⟨w2.heap.size, 1, none⟩) (Rec.lt_of_cell HQ1.out.2)).trans HQ1.out.2))
    clear hb3 x0 x1 x2 HQ1
    go_wp2_with (fail)
    go_at_call 34
    refine (HP2.out _).mono ?_
    rintro e w4 ⟨rfl, hb4⟩
    have HB6 := Lib.hid (Base.then_below HB5.out hb4)
    have y0 := (hb4.cell (p := ⟨w2.heap.size, 0, none⟩) (Rec.lt_of_cell HQ2.out.1)).trans HQ2.out.1
    have y1 := (hb4.cell (p := ⟨w2.heap.size, 1, none⟩) (Rec.lt_of_cell HQ2.out.1)).trans HQ2.out.2
    have hly := Rec.lt_of_cell y0
    have z0 : (w4.alloc (.cells #[.bool q0, .string ⟨q1.toArray⟩] 57)).cell? ⟨w2.heap.size, 0, none⟩ = some (.bool p0) := by rw [World.cell?_alloc_past _ _ _ hly]; exact y0
    have z1 : (w4.alloc (.cells #[.bool q0, .string ⟨q1.toArray⟩] 57)).cell? ⟨w2.heap.size, 1, none⟩ = some (.string ⟨p1.toArray⟩) := by rw [World.cell?_alloc_past _ _ _ hly]; exact y1
    have HB7 := Lib.hid (HB6.out.alloc HB6.out.size (.cells #[.bool q0, .string ⟨q1.toArray⟩] 57))
    clear hb4 HQ2 HB5
    cases q2
    · go_wp2
      go_ret
      exact ⟨ret_b HE.out.symm, HB7.out⟩
    · go_wp2_with (fail)
      go_at_call 35
      refine (HSS.out _).mono ?_
      rintro e w5 ⟨rfl, hb5⟩
      have HB8 := Lib.hid (Base.then_below HB7.out hb5)
      clear hb5
      go_wp2
      go_ret
      exact ⟨ret_b (by rw [HE.out]; rfl), HB8.out⟩
end Go.Proofs.YtgclilgahalgaaaGreatDoor.Rgh

/-
  CONTRACT of the program's RangeHolds; nothing that was there before is changed.
-/
namespace Go.Proofs.YtgclilgahalgaaaGreatDoor.Rgh
open Go Go.RowKit
set_option linter.unusedVariables false
set_option maxRecDepth 1000000

set_option maxHeartbeats 4000000 in
theorem impl_rgh (me ho t : List UInt8) (u : Value) (l : List Flds.Fld) (c : Int) (v : Value) (m : List Flds.Fld) (b : List UInt8) (B : Nat) (w : World) (h : Flds.Holds w B u l) (h2 : Flds.Holds w B v m) (hB : B ≤ w.heap.size) (hl : Flds.total l ≤ 1048576) (hm : Flds.total m ≤ 1048576) (ht : Age.Tabs w) :
    Calls Tryz.prog 15 #[.agg #[.string ⟨me.toArray⟩, .string ⟨ho.toArray⟩, .string ⟨t.toArray⟩, u], .agg #[.int .i64 c, v, .string ⟨b.toArray⟩]] w (BoolEnd (rgh l m) w) := by
  have HK := Lib.hid (fun W => keep_x (w := w) (W := W) (o := .cells #[.string ⟨me.toArray⟩, .string ⟨ho.toArray⟩, .string ⟨t.toArray⟩, u] 38) (T := 29) (a := .int .i64 c) (b := v) (c := .string ⟨b.toArray⟩))
  have HG := Lib.hid (fun W (hb : Below w.heap.size w W) => Flds.impl_get u B l ifrN W (Flds.holds_below h (hb.mono hB)) (Nat.le_trans hB hb.size) hl)
  have HAT := Lib.hid (fun W (hb : Below w.heap.size w W) => impl_atag c v B m b W (Flds.holds_below h2 (hb.mono hB)) (Nat.le_trans hB hb.size) hm)
  have HCL := Lib.hid (fun W (hb : Below w.heap.size w W) => impl_cal c v B m b me ho t u l ifrN W (Flds.holds_below h2 (hb.mono hB)) (Flds.holds_below h (hb.mono hB)) (Nat.le_trans hB hb.size) hm hl (Age.tabs_below ht hb))
  have s1 := got_short (n := ifrN) (by decide) l
  have HP1 := Lib.hid (fun W => Tgs.impl_ptag (Flds.got ifrN l) W (by omega))
  have HE : Hid (rgh l m = if 0 < (Flds.vals ifrN l).length then (if (Tgs.ptag (Flds.got ifrN l)).2 = true then (atag m).2 && Tgs.samestrong (Tgs.ptag (Flds.got ifrN l)).1 (atag m).1 else (Age.din modN m).2 && (Age.din ifrN l).2 && ((Age.din modN m).1 == (Age.din ifrN l).1)) else true) := Lib.hid rfl
  have hj : Tx.join (Flds.vals ifrN l) = Flds.got ifrN l := rfl
  unfold Flds.GetEnd at HG
  rw [hj] at HG
  unfold Tgs.ParEnd at HP1
  unfold TagEnd at HAT
  unfold ThreeEnd at HCL
  unfold BoolEnd
  clear h h2 hl hm s1 hj ht
  generalize hvq : decide (0 < (Flds.vals ifrN l).length) = vq at HG
  generalize rgh l m = z at HE ⊢
  generalize Flds.got ifrN l = g1 at HG HP1 HE
  generalize Tgs.ptag g1 = p at HP1 HE
  generalize atag m = q at HAT HE
  generalize Age.din ifrN l = d1 at HCL HE
  generalize Age.din modN m = d3 at HCL HE
  obtain ⟨⟨p0, p1⟩, p2⟩ := p
  obtain ⟨⟨q0, q1⟩, q2⟩ := q
  obtain ⟨d1, k1⟩ := d1
  obtain ⟨d3, k3⟩ := d3
  simp only at HP1 HAT HCL HE
  have HSS := Lib.hid (fun W => Tgs.impl_strong p0 p1 q0 q1 W)
  generalize Tgs.samestrong (p0, p1) (q0, q1) = ss at HSS HE
  unfold ifrN at HG HCL
  have HKR := Lib.hid (fun W => keep_r (w := w) (W := W) (o := .cells #[.int .i64 c, v, .string ⟨b.toArray⟩] 29) (T := 38) (a := .string ⟨me.toArray⟩) (b := .string ⟨ho.toArray⟩) (c := .string ⟨t.toArray⟩) (d := u))
  have HB00 : Hid (Below ((w.alloc (.cells #[.string ⟨me.toArray⟩, .string ⟨ho.toArray⟩, .string ⟨t.toArray⟩, u] 38)).alloc (.cells #[.int .i64 c, v, .string ⟨b.toArray⟩] 29)).heap.size ((w.alloc (.cells #[.string ⟨me.toArray⟩, .string ⟨ho.toArray⟩, .string ⟨t.toArray⟩, u] 38)).alloc (.cells #[.int .i64 c, v, .string ⟨b.toArray⟩] 29)) ((w.alloc (.cells #[.string ⟨me.toArray⟩, .string ⟨ho.toArray⟩, .string ⟨t.toArray⟩, u] 38)).alloc (.cells #[.int .i64 c, v, .string ⟨b.toArray⟩] 29))) := Lib.hid (Below.refl _ _)
  by_cases hv : 0 < (Flds.vals ifrN l).length
  case neg =>
    rw [if_neg hv] at HE
    rw [decide_eq_false hv] at hvq
    subst hvq
    clear hv
    go_enter Tryz.func15, Tryz.ntmps15
    go_wp2_with (fail)
    go_at_call 36
    refine (HG.out _ (HK.out _ HB00.out).2).mono ?_
    rintro e w1 ⟨rfl, hb1⟩
    have HB1 := Lib.hid ((HK.out _ hb1).2)
    clear hb1
    go_wp2
    go_ret
    exact ⟨ret_b HE.out.symm, HB1.out⟩
  rw [if_pos hv] at HE
  rw [decide_eq_true hv] at hvq
  subst hvq
  clear hv
  cases p2
  all_goals
    simp only [Bool.false_eq_true, if_false, if_true] at HE
    go_enter Tryz.func15, Tryz.ntmps15
    go_wp2_with (fail)
    go_at_call 36
    refine (HG.out _ (HK.out _ HB00.out).2).mono ?_
    rintro e w1 ⟨rfl, hb1⟩
    have HB1 := Lib.hid hb1
    clear hb1 HB00
    go_wp2_with (fail)
    go_at_call 37
    refine (HP1.out _).mono ?_
    rintro e w2 ⟨rfl, hb2⟩
    have HB2 := Lib.hid (Base.then_below HB1.out hb2)
    clear hb2 HB1
  · have HB3 := Lib.hid (HB2.out.alloc HB2.out.size (.cells #[.bool p0, .string ⟨p1.toArray⟩] 57))
    obtain ⟨⟨x0, x1, x2⟩, hbw⟩ := HK.out _ HB3.out
    obtain ⟨r0, r1, r2, r3⟩ := HKR.out _ HB3.out
    have HBW := Lib.hid hbw
    clear hbw
    go_wp2_with (fail)
    go_at_call 40
    refine (HCL.out _ HBW.out).mono ?_
    rintro e w4 ⟨rfl, hb4⟩
    have HB6 := Lib.hid (Base.then_below HBW.out hb4)
    clear hb4 x0 x1 x2 r0 r1 r2 r3
    rcases he : (d3 == d1) with _ | _
    all_goals
      rw [he] at HE
      cases k1 <;> cases k3
    all_goals
      go_wp2
      go_ret
      exact ⟨ret_b HE.out.symm, HB6.out⟩
  · have HB3 := Lib.hid (HB2.out.alloc HB2.out.size (.cells #[.bool p0, .string ⟨p1.toArray⟩] 57))
    obtain ⟨⟨x0, x1, x2⟩, hbw⟩ := HK.out _ HB3.out
    have HBW := Lib.hid hbw
    have HQ1 : Hid ((w2.alloc (.cells #[.bool p0, .string ⟨p1.toArray⟩] 57)).cell? ⟨w2.heap.size, 0, none⟩ = some (.bool p0) ∧ (w2.alloc (.cells #[.bool p0, .string ⟨p1.toArray⟩] 57)).cell? ⟨w2.heap.size, 1, none⟩ = some (.string ⟨p1.toArray⟩)) := Lib.hid ⟨by rw [World.cell?_alloc_new]; rfl, by rw [World.cell?_alloc_new]; rfl⟩
    clear hbw
    go_wp2_with (fail)
    go_at_call 38
    refine (HAT.out _ HBW.out).mono ?_
    rintro e w4 ⟨rfl, hb4⟩
    have HB6 := Lib.hid (Base.then_below HBW.out hb4)
    have y0 := (hb4.cell (p := ⟨w2.heap.size, 0, none⟩) (Rec.lt_of_cell HQ1.out.1)).trans HQ1.out.1
    have y1 := (hb4.cell (p := ⟨w2.heap.size, 1, none⟩) (Rec.lt_of_cell HQ1.out.1)).trans HQ1.out.2
    have hly := Rec.lt_of_cell y0
    have z0 : (w4.alloc (.cells #[.bool q0, .string ⟨q1.toArray⟩] 57)).cell? ⟨w2.heap.size, 0, none⟩ = some (.bool p0) := by rw [World.cell?_alloc_past _ _ _ hly]; exact y0
    have z1 : (w4.alloc (.cells #[.bool q0, .string ⟨q1.toArray⟩] 57)).cell? ⟨w2.heap.size, 1, none⟩ = some (.string ⟨p1.toArray⟩) := by rw [World.cell?_alloc_past _ _ _ hly]; exact y1
    have HB7 := Lib.hid (HB6.out.alloc HB6.out.size (.cells #[.bool q0, .string ⟨q1.toArray⟩] 57))
    clear hb4 HQ1 x0 x1 x2
    cases q2
    · go_wp2
      go_ret
      exact ⟨ret_b HE.out.symm, HB7.out⟩
    · go_wp2_with (fail)
      go_at_call 39
      refine (HSS.out _).mono ?_
      rintro e w5 ⟨rfl, hb5⟩
      have HB8 := Lib.hid (Base.then_below HB7.out hb5)
      clear hb5
      go_wp2
      go_ret
      exact ⟨ret_b (by rw [HE.out]; rfl), HB8.out⟩
end Go.Proofs.YtgclilgahalgaaaGreatDoor.Rgh
