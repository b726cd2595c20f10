/-
  CONTRACTS AND PLAIN FACTS, several texts in one; each says in its own words what it proves.
-/
import Derived.Test.YtnnajefmmlnciaaDoorPartW
import Derived.Test.YtnnajefmmlnciaaDoorPartJ

/-
  CONTRACTS of both sides' TrueAge; nothing that was there before is changed.
-/
namespace Go.Proofs.YtnnajefmmlnciaaDoor.Age
open Go Go.RowKit
set_option linter.unusedVariables false
set_option maxRecDepth 1000000

/-- How old an answer is at the true time t. -/
noncomputable def trua (l : List Flds.Fld) (t : Int) : Int := if (din dateN l).2 = true then max 0 (wrap64 (t - (din dateN l).1)) else 0

set_option maxHeartbeats 2000000 in
theorem spec_trua (c : Int) (v : Value) (B : Nat) (l : List Flds.Fld) (b : List UInt8) (t : Int) (w : World) (h : Flds.Holds w B v l) (hB : B ≤ w.heap.size) (hl : Flds.total l ≤ 1048576) (wt : (Lit.int .i64 t).wf = true) :
    Calls Tryd.prog 5 #[.agg #[.int .i64 c, v, .string ⟨b.toArray⟩], .int .i64 t] w (NumEnd (trua l t) w) := by
  have HB0 : Hid (Below w.heap.size w (w.alloc (.cells #[.int .i64 c, v, .string ⟨b.toArray⟩] 29))) := Lib.hid ((Below.refl _ _).alloc (Nat.le_refl _) _)
  have HY := Lib.hid (fun W (hb : Below w.heap.size w W) => Flds.holds_below h (hb.mono hB))
  have hg := Flds.got_len dateN l
  have HG := Lib.hid (fun W (hb : Below w.heap.size w W) => Flds.spec_lget v B l dateN W (HY.out W hb) (by omega))
  have HP := Lib.hid (fun W => Dt.spec_pdate (Flds.got dateN l) W (by omega))
  have HE : Hid (trua l t = if (din dateN l).2 = true then max 0 (wrap64 (t - (din dateN l).1)) else 0) := Lib.hid rfl
  have hdd : Dt.pdate (Flds.got dateN l) = din dateN l := rfl
  rw [hdd] at HP
  have db := din_bd dateN l
  unfold Flds.GotEnd at HG
  unfold Dt.PdEnd at HP
  unfold NumEnd
  clear h hl hg hdd
  generalize trua l t = z at HE ⊢
  generalize din dateN l = p at HP HE db
  generalize Flds.got dateN l = g at HG HP
  obtain ⟨d, ok⟩ := p
  simp only at HE HP db
  obtain ⟨d1, d2⟩ := db
  unfold dateN at HG
  cases ok
  all_goals
    simp only [Bool.false_eq_true, if_false, if_true] at HE
    go_enter Tryd.func5, Tryd.ntmps5
    go_wp2_with (fail)
    go_at_call 11
    refine (HG.out _ HB0.out).mono ?_
    rintro e w2 ⟨rfl, hb2⟩
    have HB2 := Lib.hid (Base.then_below HB0.out hb2)
    clear hb2
    go_wp2_with (fail)
    go_at_call 10
    refine (HP.out _).mono ?_
    rintro e w3 ⟨rfl, hb3⟩
    have HB3 := Lib.hid (Base.then_below HB2.out hb3)
    clear hb3
  · go_wp2
    go_ret
    exact ⟨ret_n HE.out.symm, HB3.out⟩
  · go_wp2_with (fail)
    go_at_call 12
    refine (Mm.spec_max _ _ _).mono ?_
    rintro e wm ⟨rfl, rfl⟩
    go_wp2
    go_ret
    exact ⟨ret_n HE.out.symm, HB3.out⟩

set_option maxHeartbeats 2000000 in
theorem impl_trua (c : Int) (v : Value) (B : Nat) (l : List Flds.Fld) (b : List UInt8) (t : Int) (w : World) (h : Flds.Holds w B v l) (hB : B ≤ w.heap.size) (hl : Flds.total l ≤ 1048576) (wt : (Lit.int .i64 t).wf = true) (ht : Tabs w) :
    Calls Tryd.prog 7 #[.agg #[.int .i64 c, v, .string ⟨b.toArray⟩], .int .i64 t] w (NumEnd (trua l t) w) := by
  have HB0 : Hid (Below w.heap.size w (w.alloc (.cells #[.int .i64 c, v, .string ⟨b.toArray⟩] 29))) := Lib.hid ((Below.refl _ _).alloc (Nat.le_refl _) _)
  have HP := Lib.hid (fun W (hb : Below w.heap.size w W) => impl_din v B l dateN W (Flds.holds_below h (hb.mono hB)) (Nat.le_trans hB hb.size) hl (tabs_below ht hb))
  have HE : Hid (trua l t = if (din dateN l).2 = true then max 0 (wrap64 (t - (din dateN l).1)) else 0) := Lib.hid rfl
  have db := din_bd dateN l
  unfold PairEnd at HP
  unfold NumEnd
  clear h hl ht
  generalize trua l t = z at HE ⊢
  generalize din dateN l = p at HP HE db
  obtain ⟨d, ok⟩ := p
  simp only at HE HP db
  obtain ⟨d1, d2⟩ := db
  unfold dateN at HP
  cases ok
  all_goals
    simp only [Bool.false_eq_true, if_false, if_true] at HE
    go_enter Tryd.func7, Tryd.ntmps7
    go_wp2_with (fail)
    go_at_call 14
    refine (HP.out _ HB0.out).mono ?_
    rintro e w3 ⟨rfl, hb3⟩
    have HB3 := Lib.hid (Base.then_below HB0.out hb3)
    clear hb3
  · go_wp2
    go_ret
    exact ⟨ret_n HE.out.symm, HB3.out⟩
  · go_wp2_with (fail)
    go_at_call 15
    refine (Mm.impl_max _ _ _).mono ?_
    rintro e wm ⟨rfl, rfl⟩
    go_wp2
    go_ret
    exact ⟨ret_n HE.out.symm, HB3.out⟩
end Go.Proofs.YtnnajefmmlnciaaDoor.Age

/-
  FROM A ROW's LISTED VARIABLES to what the contracts ask of the world: the library's table of powers of ten, wherever it stands on the list.
-/
namespace Go.Proofs.YtnnajefmmlnciaaDoor.Laid
open Go
set_option linter.unusedVariables false
set_option maxRecDepth 1000000

theorem of_vars {P : Program} {w : World} : ∀ {l : List (String × DataW Unit)} {ps : List MemPlace}, DataW.LaidVars P w l ps → ∀ n d, (n, d) ∈ l →
    ∃ g t cs fuel p, P.globalNamed n = some g ∧ (P.globals[g]?).map (·.type) = some t ∧ w.var? P n = some cs ∧ DataW.trod (fun _ => ()) P w 0 (fun _ => true) false fuel t cs.toList = some (d, p)
  | [], _, _, _, _, hm => by cases hm
  | (n', d') :: r, ps, h, n, d, hm => by
    obtain ⟨g, t, cs, fuel, p, q, h1, h2, h3, h4, h5, _⟩ := h
    rcases List.mem_cons.1 hm with e | e
    · cases e
      exact ⟨g, t, cs, fuel, p, h1, h2, h3, h4⟩
    · exact of_vars h5 n d e
theorem tens_datum : (Rows.laid_internal_strconv_uint64pow10 : DataW Unit) = Lib.tabData .u64 Lib.pow10Tab := by kernel_rfl
theorem tens {l : List (String × DataW Unit)} {W : World} (h : laidMet Tryd.prog l W) (hm : ("internal/strconv.uint64pow10", Rows.laid_internal_strconv_uint64pow10) ∈ l) : Fmt.Tens W := by
  obtain ⟨ps, hv, _⟩ := h
  obtain ⟨g, t, cs, fuel, p, hg, ht, hvar, hd⟩ := of_vars hv _ _ hm
  obtain rfl := Option.some.inj ((show Tryd.prog.globalNamed "internal/strconv.uint64pow10" = some 4 by kernel_rfl).symm.trans hg)
  obtain rfl := Option.some.inj ((show (Tryd.prog.globals[4]?).map (·.type) = some 96 by kernel_rfl).symm.trans ht)
  rw [tens_datum] at hd
  unfold Fmt.Tens Lib.TabIs
  rw [hvar, ← Lib.cells_of_tab Tryd.underlying96 Tryd.underlying90 (by kernel_rfl) (by kernel_rfl) hd]
end Go.Proofs.YtnnajefmmlnciaaDoor.Laid
