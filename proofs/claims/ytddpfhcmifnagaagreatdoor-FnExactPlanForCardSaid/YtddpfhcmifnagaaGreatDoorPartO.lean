/-
  CONTRACTS AND PLAIN FACTS, several texts in one; each says in its own words what it proves.
-/
import Derived.Test.YtddpfhcmifnagaaGreatDoorPartL
import Derived.Test.YtddpfhcmifnagaaGreatDoorPartK
import Derived.Lib.LaidTab
import Derived.Test.YtddpfhcmifnagaaGreatDoorPartJ
import Derived.Test.YtddpfhcmifnagaaGreatDoorPartG
import Derived.Test.YtddpfhcmifnagaaGreatDoorPartC
import Derived.RegionTactic
import Derived.Deep.RegionWith
import Derived.IntWalk

/-
  FROM A ROW's LISTED VARIABLES to what the contracts ask of the world: the program's table of months, wherever it stands on the list.
-/
namespace Go.Proofs.YtddpfhcmifnagaaGreatDoor.Laid
open Go
set_option linter.unusedVariables false
set_option maxRecDepth 1000000

theorem of_vars' {P : Program} {w : World} : ∀ {l : List (String × DataW Unit)} {ps : List MemPlace}, DataW.LaidVars P w l ps → ∀ n d, (n, d) ∈ l →
    ∃ g t cs fuel p, P.globalNamed n = some g ∧ (P.globals[g]?).map (·.type) = some t ∧ w.var? P n = some cs ∧ DataW.trod (fun _ => ()) P w 0 (fun _ => true) false fuel t cs.toList = some (d, p)
  | [], _, _, _, _, hm => by cases hm
  | (n', d') :: r, ps, h, n, d, hm => by
    obtain ⟨g, t, cs, fuel, p, q, h1, h2, h3, h4, h5, _⟩ := h
    rcases List.mem_cons.1 hm with e | e
    · cases e
      exact ⟨g, t, cs, fuel, p, h1, h2, h3, h4⟩
    · exact of_vars' h5 n d e
theorem mds_datum : (Rows.laid_loop_example_g03012_impl_monthDays : DataW Unit) = Lib.tabData .i64 Dt.mdays := by kernel_rfl
theorem mds {l : List (String × DataW Unit)} {W : World} (h : laidMet Tryz.prog l W) (hm : ("loop.example/g03012/impl.monthDays", Rows.laid_loop_example_g03012_impl_monthDays) ∈ l) : Dt.Mds W := by
  obtain ⟨ps, hv, _⟩ := h
  obtain ⟨g, t, cs, fuel, p, hg, ht, hvar, hd⟩ := of_vars' hv _ _ hm
  obtain rfl := Option.some.inj ((show Tryz.prog.globalNamed "loop.example/g03012/impl.monthDays" = some 7 by kernel_rfl).symm.trans hg)
  obtain rfl := Option.some.inj ((show (Tryz.prog.globals[7]?).map (·.type) = some 171 by kernel_rfl).symm.trans ht)
  rw [mds_datum] at hd
  unfold Dt.Mds Lib.TabIs
  rw [hvar, ← Lib.cells_of_tab Tryz.underlying171 Tryz.underlying3 (by kernel_rfl) (by kernel_rfl) hd]
end Go.Proofs.YtddpfhcmifnagaaGreatDoor.Laid

/-
  FROM A ROW's LISTED VARIABLES to what the contracts ask of the world: the program's tables of names, wherever they stand on the list.
-/
namespace Go.Proofs.YtddpfhcmifnagaaGreatDoor.Dt
open Go Go.RowKit
set_option linter.unusedVariables false
set_option maxRecDepth 1000000

def txv (x : List UInt8) : Value := .string ⟨x.toArray⟩
def txData {H : Type} (xs : List (List UInt8)) : DataW H := .agg (xs.map fun x => .lit (.string x))
/-- An array of texts that reads as these texts holds them, cell for cell. -/
theorem cells_of_texts {P : Program} {w : World} {base : Nat} {sp : Nat → Bool} {held : Bool} {fuel : Nat} {t e : TypeId} {n : Nat} {cs : List Value} {zs : List (List UInt8)} {p : List MemPlace}
    (ht : P.underlying t = some (.array n e)) (he : P.underlying e = some .string) (hce : P.cellsOf e = 1) (hct : P.cellsOf t = n)
    (h : DataW.trod (fun _ => ()) P w base sp held fuel t cs = some (txData zs, p)) : cs = zs.map txv := by
  cases fuel with
  | zero => simp [DataW.trod] at h
  | succ fuel =>
    simp only [DataW.trod, ht, hce, hct, Nat.mul_one] at h
    split at h
    · rename_i hl
      obtain ⟨xs, hm, hx⟩ := Option.map_eq_some_iff.1 h
      have hxs : xs.map (·.1) = zs.map fun z => (DataW.lit (.string z) : DataW Unit) := by
        have := congrArg Prod.fst hx
        simpa [txData] using this
      have hxl : xs.length = n := by simpa using Lib.mapM_length hm
      have hzl : zs.length = n := by
        have := congrArg List.length hxs
        simp at this; omega
      apply List.ext_getElem?
      intro i
      by_cases hi : i < n
      · obtain ⟨b, hb, hf⟩ := Lib.mapM_at hm i i (by simp [hi])
        obtain ⟨s, hc, rfl, _⟩ := DataW.trod_string he hf
        have h1 : cs[i]? = some (.string s) := by
          have := congrArg (·[0]?) hc
          simpa [List.getElem?_take, List.getElem?_drop] using this
        have h2 : (xs.map (·.1))[i]? = some (DataW.lit (.string s.data.toList) : DataW Unit) := by simp [hb]
        rw [hxs] at h2
        simp only [List.getElem?_map, Option.map_eq_some_iff, DataW.lit.injEq, Lit.string.injEq] at h2
        obtain ⟨z', hz', e'⟩ := h2
        rw [h1, List.getElem?_map, hz']
        simp [txv, e']
      · rw [List.getElem?_eq_none (by omega), List.getElem?_eq_none (by simp; omega)]
    · cases h
def Names (w : World) : Prop := w.var? Tryz.prog "loop.example/g03012/impl.weekdayNames" = some (days7.map txv).toArray ∧ w.var? Tryz.prog "loop.example/g03012/impl.monthNames" = some (mons12.map txv).toArray
theorem names_below {W w1 : World} (h : Names W) (hb : Below W.heap.size W w1) : Names w1 := ⟨Base.var_below h.1 hb, Base.var_below h.2 hb⟩
theorem day_cell {w : World} (h : Names w) {k : Nat} (hk : k < 7) : w.cell? ⟨3, k, none⟩ = some (.string ⟨(dnm k).toArray⟩) := by
  rw [cell_of_var (name := "loop.example/g03012/impl.weekdayNames") (by kernel_rfl) h.1]
  have : ∀ k : Fin 7, ((days7.map txv).toArray)[k.1]? = some (.string ⟨(dnm k.1).toArray⟩) := by intro k; match k with | ⟨0, _⟩ => rfl | ⟨1, _⟩ => rfl | ⟨2, _⟩ => rfl | ⟨3, _⟩ => rfl | ⟨4, _⟩ => rfl | ⟨5, _⟩ => rfl | ⟨6, _⟩ => rfl
  exact this ⟨k, hk⟩
theorem mon_cell {w : World} (h : Names w) {k : Nat} (hk : k < 12) : w.cell? ⟨2, k, none⟩ = some (.string ⟨(mnm k).toArray⟩) := by
  rw [cell_of_var (name := "loop.example/g03012/impl.monthNames") (by kernel_rfl) h.2]
  have : ∀ k : Fin 12, ((mons12.map txv).toArray)[k.1]? = some (.string ⟨(mnm k.1).toArray⟩) := by intro k; match k with | ⟨0, _⟩ => rfl | ⟨1, _⟩ => rfl | ⟨2, _⟩ => rfl | ⟨3, _⟩ => rfl | ⟨4, _⟩ => rfl | ⟨5, _⟩ => rfl | ⟨6, _⟩ => rfl | ⟨7, _⟩ => rfl | ⟨8, _⟩ => rfl | ⟨9, _⟩ => rfl | ⟨10, _⟩ => rfl | ⟨11, _⟩ => rfl
  exact this ⟨k, hk⟩
theorem days_datum : (Rows.laid_loop_example_g03012_impl_weekdayNames : DataW Unit) = txData days7 := by kernel_rfl
theorem mons_datum : (Rows.laid_loop_example_g03012_impl_monthNames : DataW Unit) = txData mons12 := by kernel_rfl
theorem laid_names {l : List (String × DataW Unit)} {W : World} (h : laidMet Tryz.prog l W) (h1 : ("loop.example/g03012/impl.weekdayNames", Rows.laid_loop_example_g03012_impl_weekdayNames) ∈ l) (h2 : ("loop.example/g03012/impl.monthNames", Rows.laid_loop_example_g03012_impl_monthNames) ∈ l) : Names W := by
  obtain ⟨ps, hv, _⟩ := h
  constructor
  · obtain ⟨g, t, cs, fuel, p, hg, ht, hvar, hd⟩ := Laid.of_vars' hv _ _ h1
    obtain rfl := Option.some.inj ((show Tryz.prog.globalNamed "loop.example/g03012/impl.weekdayNames" = some 3 by kernel_rfl).symm.trans hg)
    obtain rfl := Option.some.inj ((show (Tryz.prog.globals[3]?).map (·.type) = some 163 by kernel_rfl).symm.trans ht)
    rw [days_datum] at hd
    rw [hvar, ← cells_of_texts Tryz.underlying163 Tryz.underlying9 (by kernel_rfl) (by kernel_rfl) hd]
  · obtain ⟨g, t, cs, fuel, p, hg, ht, hvar, hd⟩ := Laid.of_vars' hv _ _ h2
    obtain rfl := Option.some.inj ((show Tryz.prog.globalNamed "loop.example/g03012/impl.monthNames" = some 2 by kernel_rfl).symm.trans hg)
    obtain rfl := Option.some.inj ((show (Tryz.prog.globals[2]?).map (·.type) = some 162 by kernel_rfl).symm.trans ht)
    rw [mons_datum] at hd
    rw [hvar, ← cells_of_texts Tryz.underlying162 Tryz.underlying9 (by kernel_rfl) (by kernel_rfl) hd]
end Go.Proofs.YtddpfhcmifnagaaGreatDoor.Dt

/-
  CONTRACT of the program's WeekdayOf: at every integer of 64 bits it returns the weekday; the world stays as it was.
-/
namespace Go.Proofs.YtddpfhcmifnagaaGreatDoor.Dt
open Go Go.RowKit
set_option linter.unusedVariables false
set_option maxRecDepth 1000000

theorem impl_week (d : Int) (w : World) (wd : (Lit.int .i64 d).wf = true) :
    Calls Tryz.prog 171 #[.int .i64 d] w fun e w' => e = .returned (.int .i64 ((d % 7 + 4) % 7)) ∧ w = w' := by
  have c1 := mod_i d 7 w wd (by omega) (by omega)
  have h0 : 0 ≤ d % 7 := by omega
  have h1 : d % 7 ≤ 6 := by omega
  generalize d % 7 = a at *
  have c2 := mod_i (a + 4) 7 w (Go.WalkArith.wf_i64 ⟨by omega, by omega⟩) (by omega) (by omega)
  generalize (a + 4) % 7 = b at *
  go_enter Tryz.func171, Tryz.ntmps171
  go_wp2_with (fail)
  go_at_call 159
  refine c1.mono ?_
  rintro e w' ⟨rfl, rfl⟩
  go_wp2_with (fail)
  go_at_call 159
  refine c2.mono ?_
  rintro e w' ⟨rfl, rfl⟩
  go_wp2
  go_ret
  exact ⟨rfl, rfl⟩
end Go.Proofs.YtddpfhcmifnagaaGreatDoor.Dt

/-
  CONTRACT of the program's Digits: at every two integers of 64 bits, where the library's table of powers of ten reads as it is written, it returns the digits that are asked for; nothing that was there before is changed.
-/
namespace Go.Proofs.YtddpfhcmifnagaaGreatDoor.Dig
open Go Go.RowKit
set_option linter.unusedVariables false
set_option maxRecDepth 1000000

theorem ret_int {k : IntKind} {a b : Int} (h : a = b) : Ending.returned (.int k a) = .returned (.int k b) := by rw [h]
theorem impl_max0 (n : Int) (w : World) :
    Calls Tryz.prog 172 #[.int .i64 0, .int .i64 n] w fun e w' => e = .returned (.int .i64 (mx n)) ∧ w = w' := by
  go_enter Tryz.func172, Tryz.ntmps172
  go_wp2
  go_ret
  refine ⟨ret_int (b := mx n) (a := max 0 n) ?_, rfl⟩
  unfold mx; split <;> omega
theorem impl_min20 (n : Int) (w : World) :
    Calls Tryz.prog 107 #[.int .i64 n, .int .i64 20] w fun e w' => e = .returned (.int .i64 (mn n)) ∧ w = w' := by
  go_enter Tryz.func107, Tryz.ntmps107
  go_wp2
  go_ret
  refine ⟨ret_int (b := mn n) (a := min n 20) ?_, rfl⟩
  unfold mn; split <;> omega

set_option maxHeartbeats 400000 in
theorem impl_digits (n width : Int) (w : World) (h1 : n ≤ 9223372036854775807) (ht : Fmt.Tens w) :
    Calls Tryz.prog 158 #[.int .i64 n, .int .i64 width] w fun e w' => e = .returned (.string ⟨(digs n width).toArray⟩) ∧ Below w.heap.size w w' := by
  obtain ⟨b0, b1⟩ := mx_bd h1
  have hl := Fmt.itoa_len (n := mx n) (by omega) b1
  obtain ⟨hm1, hm2, hm3⟩ := mn_bd width
  have HL := Lib.hid hl.2
  have HM := Lib.hid hm3
  clear hl hm3
  go_enter Tryz.func158, Tryz.ntmps158
  go_wp2_with (first | (go_at_call 172; refine (impl_max0 n _).mono ?_; rintro e w' ⟨rfl, rfl⟩) | (go_at_call 107; refine (impl_min20 width _).mono ?_; rintro e w' ⟨rfl, rfl⟩) | (go_at_call 160; refine (Fmt.impl_fmt (mx n) (by omega) b1 _ ht).mono ?_; rintro e w1 ⟨rfl, hb1⟩))
  go_loop [5] (fun s => ∃ l : List UInt8, s = .string ⟨l.toArray⟩ ∧ l.length ≤ 20 ∧ zpad l (mn width).toNat = digs n width) (fun s => 20 - strLen s)
  case atStart => exact ⟨_, rfl, HL.out, rfl⟩
  case round =>
    obtain ⟨l, rfl, hll, hz⟩ := hrel
    have HZ := Lib.hid hz
    clear hz
    have hadd := Fmt.addone 48 l (by omega)
    by_cases ha : (l.length : Int) < mn width
    · have HS := Lib.hid ((zpad_step (l := l) (k := (mn width).toNat) (by omega)).trans HZ.out)
      go_wp2
      go_round
      case rel => exact ⟨48 :: l, rfl, by simp; omega, HS.out⟩
      case measure => simp [strLen, ByteArray.size]; omega
    · have HE := Lib.hid ((zpad_done (l := l) (k := (mn width).toNat) (by omega)).symm.trans HZ.out)
      go_wp2
      go_ret
      exact ⟨Fmt.ret_str HE.out, hb1⟩
end Go.Proofs.YtddpfhcmifnagaaGreatDoor.Dig

/-
  CONTRACT of the program's partsOf: the parts of a time as the forms write them; nothing that was there before is changed.
-/
namespace Go.Proofs.YtddpfhcmifnagaaGreatDoor.Dt
open Go Go.RowKit
set_option linter.unusedVariables false
set_option maxRecDepth 1000000

def pv (t y m d : Int) : Value := .agg #[.string ⟨(dnm (wkd (t / 86400))).toArray⟩, .int .i64 d, .string ⟨(mnm (m - 1).toNat).toArray⟩, .int .i64 y, .string ⟨(clk (t % 86400)).toArray⟩]
def Parts (t : Int) (w : World) (e : Ending) (w' : World) : Prop := ∃ y m d : Int, CV (t / 86400) y m d ∧ e = .returned (pv t y m d) ∧ Below w.heap.size w w'
theorem kept5 {w w1 : World} {T : TypeId} {a b c d e : Value} (hb : Below (w.alloc (.cells #[a, b, c, d, e] T)).heap.size (w.alloc (.cells #[a, b, c, d, e] T)) w1) :
    (w1.cell? ⟨w.heap.size, 0, none⟩ = some a ∧ w1.cell? ⟨w.heap.size, 1, none⟩ = some b ∧ w1.cell? ⟨w.heap.size, 2, none⟩ = some c ∧ w1.cell? ⟨w.heap.size, 3, none⟩ = some d ∧ w1.cell? ⟨w.heap.size, 4, none⟩ = some e) ∧ ∀ j, w1.frozen? ⟨w.heap.size, j, none⟩ = false := by
  refine ⟨⟨?_, ?_, ?_, ?_, ?_⟩, fun j => ?_⟩
  · rw [hb.cell (p := ⟨w.heap.size, 0, none⟩) (by simp), World.cell?_alloc_new]; rfl
  · rw [hb.cell (p := ⟨w.heap.size, 1, none⟩) (by simp), World.cell?_alloc_new]; rfl
  · rw [hb.cell (p := ⟨w.heap.size, 2, none⟩) (by simp), World.cell?_alloc_new]; rfl
  · rw [hb.cell (p := ⟨w.heap.size, 3, none⟩) (by simp), World.cell?_alloc_new]; rfl
  · rw [hb.cell (p := ⟨w.heap.size, 4, none⟩) (by simp), World.cell?_alloc_new]; rfl
  · rw [hb.frozen (p := ⟨w.heap.size, j, none⟩) (by simp)]; simp [go_sem]

set_option maxRecDepth 1000000 in
set_option maxHeartbeats 4000000 in
theorem impl_parts (t : Int) (w : World) (h0 : 0 ≤ t) (h1 : t ≤ 4102444799) (ht : Mds w) (hn : Names w) (hten : Fmt.Tens w) :
    Calls Tryz.prog 157 #[.int .i64 t] w (Parts t w) := by
  have hd0 : 0 ≤ t / 86400 := by omega
  have hd1 : t / 86400 ≤ 47481 := by omega
  have hs0 : 0 ≤ t % 86400 := by omega
  have hs1 : t % 86400 ≤ 86399 := by omega
  have HZ : Hid (Below w.heap.size w (w.alloc (.cells #[.string ⟨#[]⟩, .int .i64 0, .string ⟨#[]⟩, .int .i64 0, .string ⟨#[]⟩] 155))) := Lib.hid ((Below.refl _ _).alloc (Nat.le_refl _) _)
  have HCV := Lib.hid (fun W (h : Mds W) => impl_civ (t / 86400) W hd0 hd1 h)
  have HM := Lib.hid ht
  have HN := Lib.hid hn
  have HT := Lib.hid hten
  have HWK := Lib.hid (fun W => impl_week (t / 86400) W (Go.WalkArith.wf_i64 ⟨by omega, by omega⟩))
  have HWC := Lib.hid (wkd_cast (t / 86400))
  have HWL := Lib.hid (wkd_lt (t / 86400))
  unfold Parts pv
  have hq1 : (t % 86400) / 3600 ≤ 23 := by omega
  have hq2 : t % 86400 % 3600 / 60 ≤ 59 := by omega
  have hq3 : t % 86400 % 60 ≤ 59 := by omega
  have HG := Lib.hid (fun (n : Int) (h : n ≤ 9223372036854775807) W (h' : Fmt.Tens W) => Dig.impl_digits n 2 W h h')
  have HCK : Hid (clk (t % 86400) = Dig.digs (t % 86400 / 3600) 2 ++ [58] ++ Dig.digs (t % 3600 / 60) 2 ++ [58] ++ Dig.digs (t % 60) 2) := Lib.hid (by unfold clk; rw [show t % 86400 % 3600 / 60 = t % 3600 / 60 by omega, show t % 86400 % 60 = t % 60 by omega])
  have l1 := dg2 (n := t % 86400 / 3600) (by omega) 2
  have l2 := dg2 (n := t % 3600 / 60) (by omega) 2
  have l3 := dg2 (n := t % 60) (by omega) 2
  rw [HCK.out]
  clear ht hn hten
  have HG1 := Lib.hid (HG.out (t % 86400 / 3600) (by omega))
  have HG2 := Lib.hid (HG.out (t % 3600 / 60) (by omega))
  have HG3 := Lib.hid (HG.out (t % 60) (by omega))
  generalize Dig.digs (t % 86400 / 3600) 2 = x1 at HG1 l1 ⊢
  generalize Dig.digs (t % 3600 / 60) 2 = x2 at HG2 l2 ⊢
  generalize Dig.digs (t % 60) 2 = x3 at HG3 l3 ⊢
  have a1 := Tx.addtwo x1 [58] (by simp only [List.length_cons, List.length_nil]; omega)
  have a2 := Tx.addtwo (x1 ++ [58]) x2 (by simp only [List.length_append, List.length_cons, List.length_nil]; omega)
  have a3 := Tx.addtwo (x1 ++ [58] ++ x2) [58] (by simp only [List.length_append, List.length_cons, List.length_nil]; omega)
  have a4 := Tx.addtwo (x1 ++ [58] ++ x2 ++ [58]) x3 (by simp only [List.length_append, List.length_cons, List.length_nil]; omega)
  generalize x1 ++ [58] = y1 at a1 a2 a3 a4 ⊢
  generalize y1 ++ x2 = y2 at a2 a3 a4 ⊢
  generalize y2 ++ [58] = y3 at a3 a4 ⊢
  generalize y3 ++ x3 = y4 at a4 ⊢
  clear l1 l2 l3 HCK HG
  generalize wkd (t / 86400) = k at HWC HWL ⊢
  go_enter Tryz.func157, Tryz.ntmps157
  go_wp2_with (fail)
  go_at_call 170
  refine (HCV.out _ (mds_below HM.out HZ.out)).mono ?_
  rintro e w1 ⟨y, m, d, hcv, rfl, hb1⟩
  have HB := Lib.hid hb1
  have HT1 := Lib.hid (Fmt.tens_below HT.out (HZ.out.trans (hb1.mono (by simp))))
  have HCVV := Lib.hid hcv
  clear hb1 hcv
  go_wp2_with (fail)
  go_at_call 158
  refine (HG1.out _ HT1.out).mono ?_
  rintro e w2 ⟨rfl, hb2⟩
  have HB := Lib.hid (HB.out.trans (hb2.mono HB.out.size))
  have HT2 := Lib.hid (Fmt.tens_below HT1.out hb2)
  clear hb2
  go_wp2_with (fail)
  go_at_call 158
  refine (HG2.out _ HT2.out).mono ?_
  rintro e w3 ⟨rfl, hb3⟩
  have HB := Lib.hid (HB.out.trans (hb3.mono HB.out.size))
  have HT3 := Lib.hid (Fmt.tens_below HT2.out hb3)
  clear hb3
  go_wp2_with (fail)
  go_at_call 158
  refine (HG3.out _ HT3.out).mono ?_
  rintro e w4 ⟨rfl, hb4⟩
  have HB := Lib.hid (HB.out.trans (hb4.mono HB.out.size))
  clear hb4
  have HBW := Lib.hid (HZ.out.trans (HB.out.mono (by simp)))
  have HNN := Lib.hid (names_below HN.out HBW.out)
  obtain ⟨⟨q0, q1, q2, q3, q4⟩, qf⟩ := kept5 HB.out
  have f0 := qf 0
  have f1 := qf 1
  have f2 := qf 2
  have f3 := qf 3
  have f4 := qf 4
  have hmm : 1 ≤ m ∧ m ≤ 12 := ⟨HCVV.out.2.2.1, HCVV.out.2.2.2.1⟩
  obtain ⟨hm1, hm2⟩ := hmm
  obtain ⟨j, rfl⟩ : ∃ j : Nat, m = (j : Int) + 1 := ⟨(m - 1).toNat, by omega⟩
  have hj : (j : Int) < 12 := by omega
  have hw1 : IntKind.i64.wrap (j : Int) = (j : Int) := IntWalk.i64_in _ (by omega)
  have n0 : w4.drew.cell? ⟨3, k, none⟩ = some (.string ⟨(dnm k).toArray⟩) := day_cell HNN.out HWL.out
  have n1 : w4.drew.cell? ⟨2, j, none⟩ = some (.string ⟨(mnm j).toArray⟩) := mon_cell HNN.out (by omega)
  have hk0 : (k : Int) < 7 := by have := HWL.out; omega
  have hkt : ((t / 86400) % 7 + 4) % 7 = (k : Int) := HWC.out.symm
  have HWK2 := Lib.hid HWK.out
  rw [hkt] at HWK2
  clear hkt qf
  generalize hdn : dnm k = dn at n0
  have HDN := Lib.hid hdn
  clear hdn
  generalize hmn : mnm j = mn at n1
  have HMN := Lib.hid hmn
  clear hmn
  go_wp2
  go_region_with (go_at_call 171; refine (HWK2.out _).mono ?_; rintro e w5 ⟨rfl, rfl⟩)
  all_goals go_wp2
  all_goals refine bodyPost_ret (v := .agg #[.string ⟨dn.toArray⟩, .int .i64 d, .string ⟨mn.toArray⟩, .int .i64 y, .string ⟨y4.toArray⟩]) (by simp [results, Tryz.results157, go_sem, q0, q1, q2, q3, q4]) rfl ?_
  all_goals refine ⟨y, (j : Int) + 1, d, HCVV.out, ?_, Rec.below_drew (((((HBW.out.setCell (Nat.le_refl _) _).setCell (Nat.le_refl _) _).setCell (Nat.le_refl _) _).setCell (Nat.le_refl _) _).setCell (Nat.le_refl _) _)⟩
  all_goals rw [HDN.out, show ((j : Int) + 1 - 1).toNat = j by omega, HMN.out]
end Go.Proofs.YtddpfhcmifnagaaGreatDoor.Dt
