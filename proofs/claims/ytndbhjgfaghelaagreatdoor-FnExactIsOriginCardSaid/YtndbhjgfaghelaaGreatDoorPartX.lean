/-
  CONTRACTS AND PLAIN FACTS, several texts in one; each says in its own words what it proves.
-/
import Derived.Test.YtndbhjgfaghelaaGreatDoorPartW
import Derived.Test.YtndbhjgfaghelaaGreatDoorPartU
import Derived.Test.YtndbhjgfaghelaaGreatDoorPartO
import Derived.Test.YtndbhjgfaghelaaGreatDoorPartF
import Derived.Test.YtndbhjgfaghelaaGreatDoorPartR
import Derived.Deep.DeepCutAuto
import Derived.RegionTactic
import Derived.Test.YtndbhjgfaghelaaGreatDoorPartG
import Derived.Stop.LaidErr
set_option linter.unusedSimpArgs false
set_option linter.unusedVariables false

/-
  CONTRACTS of the program's tests of a page's versions, of a page and of an origin (areVersions, isGood, IsOrigin); nothing that was there before is changed.
-/
namespace Go.Proofs.YtndbhjgfaghelaaGreatDoor.Orc
open Go Go.RowKit
set_option linter.unusedVariables false
set_option maxRecDepth 1000000
set_option maxRecDepth 1000000

set_option maxHeartbeats 8000000 in
theorem impl_vers (v : Value) (B : Nat) (vs : List Ver.T) (w : World) (hv : Ver.Holds w B v vs) (hB : B ≤ w.heap.size) (hvl : vs.length ≤ 1048576) :
    Calls Tryz.prog 127 #[v] w fun e w' => e = .returned (.bool (versOk vs && decide (1 ≤ vs.length ∧ vs.length ≤ 8))) ∧ Below w.heap.size w w' := by
  obtain ⟨av, cv, rfl, hav⟩ := shape_r hv
  have HAV := Lib.hid hav
  obtain ⟨res, hres⟩ : ∃ r, r = (versOk vs && decide (1 ≤ vs.length ∧ vs.length ≤ 8)) := ⟨_, rfl⟩
  have HRES := Lib.hid hres
  rw [← hres]
  clear hv hav hres
  go_enter Tryz.func127, Tryz.ntmps127
  go_wp2
  go_loopw [3, 7] (fun _ i wr => ∃ n : Nat, n ≤ vs.length ∧ i = .int .i64 (n : Int) ∧ Hid ((List.range n).all (verAt vs) = true) ∧ Hid (Below w.heap.size w wr)) (fun _ i _ => vs.length - (intOf i).toNat)
  case atStart => exact ⟨0, Nat.zero_le _, rfl, Lib.hid rfl, Lib.hid (Below.refl _ _)⟩
  case round =>
    obtain ⟨n, hn, rfl, HL, HB⟩ := hrel
    by_cases hlt : n < vs.length
    · obtain ⟨bv, ov, rfl, hbv, hvt⟩ := HAV.out (by omega)
      have hat := Ver.at_below hvt HB.out (by omega)
      obtain ⟨c0, c1, c2⟩ := Ver.at_cells hat hlt
      have HBAD := Lib.hid (fun h => show res = false by rw [HRES.out, ver_bad (vs := vs) hlt h]; rfl)
      have HLATE := Lib.hid (fun h0 h => show res = false by rw [HRES.out, ver_late (vs := vs) hlt h0 h]; rfl)
      have HSTP := Lib.hid (fun hf h => ver_step (vs := vs) HL.out hf h)
      have HPV : Hid (∀ j, n = j + 1 → wr.cell? ⟨bv, ov + j * 3, none⟩ = some (.int .i64 (vs.getD j Ver.nov).1)) := Lib.hid (fun j hj => (Ver.at_cells hat (j := j) (by omega)).1)
      generalize vs.getD n Ver.nov = f at c0 c1 c2 HBAD HLATE HSTP
      obtain ⟨a, tx, gn⟩ := f
      dsimp only at c0 c1 c2 HLATE HSTP
      have hni : (n : Int) < (vs.length : Int) := by omega
      have HBX : Hid (Below w.heap.size w (wr.alloc (.cells #[.int .i64 a, .string ⟨tx.toArray⟩, .bool gn] 148))) := Lib.hid (HB.out.alloc HB.out.size _)
      have hba : Below wr.heap.size wr (wr.alloc (.cells #[.int .i64 a, .string ⟨tx.toArray⟩, .bool gn] 148)) := (Below.refl _ _).alloc (Nat.le_refl _) _
      have HBA := Lib.hid hba
      have HSD : Hid (GrowS w (wr.alloc (.cells #[.int .i64 a, .string ⟨tx.toArray⟩, .bool gn] 148)) (wr.alloc (.cells #[.int .i64 a, .string ⟨tx.toArray⟩, .bool gn] 148)).drew) := Lib.hid ⟨Rec.below_drew (Below.refl _ _), Rec.below_drew HBX.out⟩
      have n0 : (wr.alloc (.cells #[.int .i64 a, .string ⟨tx.toArray⟩, .bool gn] 148)).cell? ⟨wr.heap.size, 0, none⟩ = some (.int .i64 a) := by rw [World.cell?_alloc_new]; rfl
      have n1 : (wr.alloc (.cells #[.int .i64 a, .string ⟨tx.toArray⟩, .bool gn] 148)).cell? ⟨wr.heap.size, 1, none⟩ = some (.string ⟨tx.toArray⟩) := by rw [World.cell?_alloc_new]; rfl
      have e0 : ∀ u : RegS.In (GrowS w (wr.alloc (.cells #[.int .i64 a, .string ⟨tx.toArray⟩, .bool gn] 148))), u.w.cell? ⟨wr.heap.size, 0, none⟩ = some (.int .i64 a) := fun u => grow_old u.h n0
      have e1 : ∀ u : RegS.In (GrowS w (wr.alloc (.cells #[.int .i64 a, .string ⟨tx.toArray⟩, .bool gn] 148))), u.w.cell? ⟨wr.heap.size, 1, none⟩ = some (.string ⟨tx.toArray⟩) := fun u => grow_old u.h n1
      clear n0 n1 hba hat hvt
      by_cases hn0' : a < 0
      · have HZ := Lib.hid (HBAD.out (by unfold verForm; rw [decide_eq_false (show ¬ (0 ≤ (a, tx, gn).1 ∧ (a, tx, gn).1 ≤ 4102444799) from fun h => by have := h.1; dsimp only at this; omega)]; rfl))
        clear HBAD HLATE HSTP HPV
        go_wp2
        refine RegS.region (GrowS w (wr.alloc (.cells #[.int .i64 a, .string ⟨tx.toArray⟩, .bool gn] 148))) (by kernel_rfl) (by kernel_rfl) HSD.out ?_
        haveI : Nonempty (RegS.In (GrowS w (wr.alloc (.cells #[.int .i64 a, .string ⟨tx.toArray⟩, .bool gn] 148)))) := ⟨⟨_, HSD.out⟩⟩
        repeat (first | go_big_quiet_step (fail) | quiet_step (fail))
        refine wpQuiet_nil ?_
        intro wz hw'
        obtain ⟨⟨wy, hSq⟩, hw''⟩ := hw'
        have hS : GrowS w (wr.alloc (.cells #[.int .i64 a, .string ⟨tx.toArray⟩, .bool gn] 148)) wz := by rw [hw'']; exact hSq
        have HS := Lib.hid (Base.then_below HBX.out hS.1)
        clear hw'' hSq hS e0 e1
        go_wp2
        go_ret
        exact ⟨ret_bb HZ.out.symm, HS.out⟩
      by_cases hmx' : 4102444799 < a
      · have HZ := Lib.hid (HBAD.out (by unfold verForm; rw [decide_eq_false (show ¬ (0 ≤ (a, tx, gn).1 ∧ (a, tx, gn).1 ≤ 4102444799) from fun h => by have := h.2; dsimp only at this; omega)]; rfl))
        clear HBAD HLATE HSTP HPV
        go_wp2
        refine RegS.region (GrowS w (wr.alloc (.cells #[.int .i64 a, .string ⟨tx.toArray⟩, .bool gn] 148))) (by kernel_rfl) (by kernel_rfl) HSD.out ?_
        haveI : Nonempty (RegS.In (GrowS w (wr.alloc (.cells #[.int .i64 a, .string ⟨tx.toArray⟩, .bool gn] 148)))) := ⟨⟨_, HSD.out⟩⟩
        repeat (first | go_big_quiet_step (fail) | quiet_step (fail))
        refine wpQuiet_nil ?_
        intro wz hw'
        obtain ⟨⟨wy, hSq⟩, hw''⟩ := hw'
        have hS : GrowS w (wr.alloc (.cells #[.int .i64 a, .string ⟨tx.toArray⟩, .bool gn] 148)) wz := by rw [hw'']; exact hSq
        have HS := Lib.hid (Base.then_below HBX.out hS.1)
        clear hw'' hSq hS e0 e1
        go_wp2
        go_ret
        exact ⟨ret_bb HZ.out.symm, HS.out⟩
      have hin : 0 ≤ a ∧ a ≤ 4102444799 := by omega
      by_cases h4 : tx.length ≤ 400
      · have h4i : ¬ (400 : Int) < (tx.length : Int) := by omega
        have hf : verForm (a, tx, gn) = true := by unfold verForm; rw [decide_eq_true hin, decide_eq_true (show (a, tx, gn).2.1.length ≤ 400 from h4)]; rfl
        by_cases hn0 : n = 0
        · subst hn0
          simp only [Nat.zero_mul, Nat.add_zero, Nat.zero_add] at c0 c1 c2
          have HZ := Lib.hid (HSTP.out hf (Or.inl rfl))
          clear HBAD HLATE HSTP HPV hf hin
          go_wp2
          refine RegS.region (GrowS w (wr.alloc (.cells #[.int .i64 a, .string ⟨tx.toArray⟩, .bool gn] 148))) (by kernel_rfl) (by kernel_rfl) HSD.out ?_
          haveI : Nonempty (RegS.In (GrowS w (wr.alloc (.cells #[.int .i64 a, .string ⟨tx.toArray⟩, .bool gn] 148)))) := ⟨⟨_, HSD.out⟩⟩
          repeat (first | go_big_quiet_step (fail) | quiet_step (fail))
          refine wpQuiet_nil ?_
          intro wz hw'
          obtain ⟨⟨wy, hSq⟩, hw''⟩ := hw'
          have hS : GrowS w (wr.alloc (.cells #[.int .i64 a, .string ⟨tx.toArray⟩, .bool gn] 148)) wz := by rw [hw'']; exact hSq
          have HS := Lib.hid (Base.then_below HBX.out hS.1)
          clear hw'' hSq hS e0 e1
          go_wp2
          go_roundw
          case rel => exact ⟨0 + 1, by omega, by go_num, HZ, HS⟩
          case measure => simp [intOf]; omega
        · obtain ⟨j, rfl⟩ : ∃ j, n = j + 1 := ⟨n - 1, by omega⟩
          have hpc := HPV.out j rfl
          rw [show j + 1 - 1 = j from rfl] at HLATE HSTP
          generalize (vs.getD j Ver.nov).1 = pa at hpc HLATE HSTP
          have ep : ∀ u : RegS.In (GrowS w (wr.alloc (.cells #[.int .i64 a, .string ⟨tx.toArray⟩, .bool gn] 148))), u.w.cell? ⟨bv, ov + j * 3, none⟩ = some (.int .i64 pa) := fun u => grow_old (wr := wr) (w := w) ⟨Base.then_below HBA.out u.h.1, u.h.2⟩ hpc
          have hpos : (0 : Int) < ((j + 1 : Nat) : Int) := by omega
          have hjl : (j : Int) < (vs.length : Int) := by omega
          by_cases hlt2 : pa < a
          · have hge : ¬ a ≤ pa := by omega
            have HZ := Lib.hid (HSTP.out hf (Or.inr hlt2))
            clear HBAD HLATE HSTP HPV hf hin hpc
            go_wp2
            refine RegS.region (GrowS w (wr.alloc (.cells #[.int .i64 a, .string ⟨tx.toArray⟩, .bool gn] 148))) (by kernel_rfl) (by kernel_rfl) HSD.out ?_
            haveI : Nonempty (RegS.In (GrowS w (wr.alloc (.cells #[.int .i64 a, .string ⟨tx.toArray⟩, .bool gn] 148)))) := ⟨⟨_, HSD.out⟩⟩
            repeat (first | go_big_quiet_step (fail) | quiet_step (fail))
            refine wpQuiet_nil ?_
            intro wz hw'
            obtain ⟨⟨wy, hSq⟩, hw''⟩ := hw'
            have hS : GrowS w (wr.alloc (.cells #[.int .i64 a, .string ⟨tx.toArray⟩, .bool gn] 148)) wz := by rw [hw'']; exact hSq
            have HS := Lib.hid (Base.then_below HBX.out hS.1)
            clear hw'' hSq hS e0 e1
            clear ep
            go_wp2
            go_roundw
            case rel => exact ⟨j + 1 + 1, by omega, by go_num, HZ, HS⟩
            case measure => simp [intOf]; omega
          · have hge : a ≤ pa := by omega
            have HZ := Lib.hid (HLATE.out (by omega) hlt2)
            clear HBAD HLATE HSTP HPV hf hin hpc
            go_wp2
            refine RegS.region (GrowS w (wr.alloc (.cells #[.int .i64 a, .string ⟨tx.toArray⟩, .bool gn] 148))) (by kernel_rfl) (by kernel_rfl) HSD.out ?_
            haveI : Nonempty (RegS.In (GrowS w (wr.alloc (.cells #[.int .i64 a, .string ⟨tx.toArray⟩, .bool gn] 148)))) := ⟨⟨_, HSD.out⟩⟩
            repeat (first | go_big_quiet_step (fail) | quiet_step (fail))
            refine wpQuiet_nil ?_
            intro wz hw'
            obtain ⟨⟨wy, hSq⟩, hw''⟩ := hw'
            have hS : GrowS w (wr.alloc (.cells #[.int .i64 a, .string ⟨tx.toArray⟩, .bool gn] 148)) wz := by rw [hw'']; exact hSq
            have HS := Lib.hid (Base.then_below HBX.out hS.1)
            clear hw'' hSq hS e0 e1
            clear ep
            go_wp2
            go_ret
            exact ⟨ret_bb HZ.out.symm, HS.out⟩
      · have h4i : (400 : Int) < (tx.length : Int) := by omega
        have HZ := Lib.hid (HBAD.out (by unfold verForm; rw [decide_eq_false (show ¬ (a, tx, gn).2.1.length ≤ 400 from h4)]; simp))
        clear HBAD HLATE HSTP HPV hin
        go_wp2
        refine RegS.region (GrowS w (wr.alloc (.cells #[.int .i64 a, .string ⟨tx.toArray⟩, .bool gn] 148))) (by kernel_rfl) (by kernel_rfl) HSD.out ?_
        haveI : Nonempty (RegS.In (GrowS w (wr.alloc (.cells #[.int .i64 a, .string ⟨tx.toArray⟩, .bool gn] 148)))) := ⟨⟨_, HSD.out⟩⟩
        repeat (first | go_big_quiet_step (fail) | quiet_step (fail))
        refine wpQuiet_nil ?_
        intro wz hw'
        obtain ⟨⟨wy, hSq⟩, hw''⟩ := hw'
        have hS : GrowS w (wr.alloc (.cells #[.int .i64 a, .string ⟨tx.toArray⟩, .bool gn] 148)) wz := by rw [hw'']; exact hSq
        have HS := Lib.hid (Base.then_below HBX.out hS.1)
        clear hw'' hSq hS e0 e1
        go_wp2
        go_ret
        exact ⟨ret_bb HZ.out.symm, HS.out⟩
    · have hni : ¬ (n : Int) < (vs.length : Int) := by omega
      obtain rfl : n = vs.length := by omega
      have HV1 : Hid (res = decide (1 ≤ vs.length ∧ vs.length ≤ 8)) := Lib.hid (by rw [HRES.out, show versOk vs = true from HL.out]; rfl)
      clear HRES HL HAV
      by_cases h1 : 1 ≤ vs.length
      · have h1i : (1 : Int) ≤ (vs.length : Int) := by omega
        by_cases h8 : vs.length ≤ 8
        · have h8i : (vs.length : Int) ≤ 8 := by omega
          have HZ : Hid (res = true) := Lib.hid (by rw [HV1.out]; exact decide_eq_true ⟨h1, h8⟩)
          go_wp2
          go_ret
          exact ⟨ret_bb HZ.out.symm, HB.out⟩
        · have h8i : ¬ (vs.length : Int) ≤ 8 := by omega
          have HZ : Hid (res = false) := Lib.hid (by rw [HV1.out]; exact decide_eq_false (fun h => h8 h.2))
          go_wp2
          go_ret
          exact ⟨ret_bb HZ.out.symm, HB.out⟩
      · have h1i : ¬ (1 : Int) ≤ (vs.length : Int) := by omega
        have HZ : Hid (res = false) := Lib.hid (by rw [HV1.out]; exact decide_eq_false (fun h => h1 h.1))
        go_wp2
        go_ret
        exact ⟨ret_bb HZ.out.symm, HB.out⟩

/-- A page behind a pointer. -/
def PgAt (w : World) (b o : Nat) (e : Rsl.T) (uu uv : Value) : Prop := w.cell? ⟨b, o, none⟩ = some (.string ⟨e.et.toArray⟩) ∧ w.cell? ⟨b, o + 1, none⟩ = some (.string ⟨e.ec.toArray⟩) ∧ w.cell? ⟨b, o + 2, none⟩ = some (.string ⟨e.ek.toArray⟩) ∧ w.cell? ⟨b, o + 4, none⟩ = some uu ∧ w.cell? ⟨b, o + 5, none⟩ = some uv
theorem pg_below {w w' : World} {b o : Nat} {e : Rsl.T} {uu uv : Value} (h : PgAt w b o e uu uv) (hb : Below w.heap.size w w') : PgAt w' b o e uu uv :=
  have k : ∀ (o : Nat) (x : Value), w.cell? ⟨b, o, none⟩ = some x → w'.cell? ⟨b, o, none⟩ = some x := fun o x hc => (hb.cell (p := ⟨b, o, none⟩) (Rec.lt_of_cell hc)).trans hc
  ⟨k _ _ h.1, k _ _ h.2.1, k _ _ h.2.2.1, k _ _ h.2.2.2.1, k _ _ h.2.2.2.2⟩

set_option maxHeartbeats 8000000 in
theorem impl_good (b o : Nat) (e : Rsl.T) (uu uv : Value) (B : Nat) (w : World) (hc : PgAt w b o e uu uv) (huu : Strs.Holds w B uu e.egs) (huv : Ver.Holds w B uv e.evs) (hB : B ≤ w.heap.size) (hs : Sm1 e) (her : Par.Errs w) (hmx : Sh.MxL w) :
    Calls Tryz.prog 74 #[.pointer (some ⟨b, o, none⟩)] w fun x w' => x = .returned (.bool (pageOk e)) ∧ Below w.heap.size w w' := by
  rw [page_prog]
  unfold pageP
  obtain ⟨et, ec, ek, ep, egs, evs⟩ := e
  obtain ⟨s1, s2, s3, s4, s5, s6⟩ := hs
  dsimp only at s1 s2 s3 s4 s5 s6 hc huu huv ⊢
  have HPG := Lib.hid hc
  have C1 := Lib.hid (fun W (hb : Below w.heap.size w W) => Nt.impl_isnt et W (by omega) (Par.errs_below her hb) (Sh.mxl_below hmx hb))
  have C2 := Lib.hid (fun W => Tx.impl_val ec W (by omega))
  have C3 := Lib.hid (fun W (hb : Below w.heap.size w W) => impl_keys ek W (by omega) (Sh.mxl_below hmx hb))
  have C4 := Lib.hid (fun W (hb : Below w.heap.size w W) => impl_langs uu B egs W (Strs.holds_below huu (hb.mono hB)) (Nat.le_trans hB hb.size) s4 s5)
  have C5 := Lib.hid (fun W (hb : Below w.heap.size w W) => impl_vers uv B evs W (Ver.holds_below huv (hb.mono hB)) (Nat.le_trans hB hb.size) s6)
  generalize hr4 : (decide (egs.length ≤ 4) && (decide (onceN egs = egs.length) && egs.all langForm)) = q4 at C4 ⊢
  generalize hr5 : (versOk evs && decide (1 ≤ evs.length ∧ evs.length ≤ 8)) = q5 at C5 ⊢
  generalize Nt.isnt et = q1 at C1 ⊢
  generalize Tx.valOk ec = q2 at C2 ⊢
  generalize keysOk ek = q3 at C3 ⊢
  generalize hd1 : decide (et.length ≤ 100) = d1
  generalize hd2 : decide (ec.length ≤ 150) = d2
  generalize hres : (d1 && (q1 && (d2 && (q2 && (q3 && (q4 && q5)))))) = res
  have HR := Lib.hid hres.symm
  have HD1 := Lib.hid hd1
  have HD2 := Lib.hid hd2
  have HPX := Lib.hid (fun W (hb : Below w.heap.size w W) => pg_below HPG.out hb)
  obtain ⟨p0, p1, p2, p4, p5⟩ := hc
  clear huu huv her hmx s3 s4 s5 s6 hr4 hr5 hd1 hd2 hres
  have HBB : Hid (Below w.heap.size w w) := Lib.hid (Below.refl _ _)
  by_cases h1 : et.length ≤ 100
  case neg =>
    have h1i : ¬ (et.length : Int) ≤ 100 := by omega
    have E1 : Hid (d1 = false) := Lib.hid (by rw [← HD1.out]; exact decide_eq_false h1)
    go_enter Tryz.func74, Tryz.ntmps74
    go_wp2
    go_ret
    exact ⟨ret_bb (by rw [HR.out, E1.out]; rfl), HBB.out⟩
  have h1i : (et.length : Int) ≤ 100 := by omega
  have E1 : Hid (d1 = true) := Lib.hid (by rw [← HD1.out]; exact decide_eq_true h1)
  go_enter Tryz.func74, Tryz.ntmps74
  go_wp2_with (fail)
  go_at_call 123
  refine (C1.out _ HBB.out).mono ?_
  rintro x w1 ⟨rfl, b1⟩
  have HBB := Lib.hid (Base.then_below HBB.out b1)
  clear b1
  cases q1 with
  | false =>
    clear p0 p1 p2 p4 p5
    obtain ⟨p0, p1, p2, p4, p5⟩ := HPX.out _ HBB.out
    go_wp2
    go_ret
    exact ⟨ret_bb (by rw [HR.out]; first | simp | (rw [E1.out]; simp) | (rw [E1.out, E2.out]; simp)), HBB.out⟩
  | true =>
    clear p0 p1 p2 p4 p5
    obtain ⟨p0, p1, p2, p4, p5⟩ := HPX.out _ HBB.out
    by_cases h2 : ec.length ≤ 150
    case neg =>
      have h2i : ¬ (ec.length : Int) ≤ 150 := by omega
      have E2 : Hid (d2 = false) := Lib.hid (by rw [← HD2.out]; exact decide_eq_false h2)
      go_wp2
      go_ret
      exact ⟨ret_bb (by rw [HR.out, E1.out, E2.out]; simp), HBB.out⟩
    have h2i : (ec.length : Int) ≤ 150 := by omega
    have E2 : Hid (d2 = true) := Lib.hid (by rw [← HD2.out]; exact decide_eq_true h2)
    clear p0 p1 p2 p4 p5
    obtain ⟨p0, p1, p2, p4, p5⟩ := HPX.out _ HBB.out
    go_wp2_with (fail)
    go_at_call 124
    refine (C2.out _).mono ?_
    rintro x w2 ⟨rfl, b2⟩
    have HBB := Lib.hid (Base.then_below HBB.out b2)
    clear b2
    cases q2 with
    | false =>
      clear p0 p1 p2 p4 p5
      obtain ⟨p0, p1, p2, p4, p5⟩ := HPX.out _ HBB.out
      go_wp2
      go_ret
      exact ⟨ret_bb (by rw [HR.out]; first | simp | (rw [E1.out]; simp) | (rw [E1.out, E2.out]; simp)), HBB.out⟩
    | true =>
      clear p0 p1 p2 p4 p5
      obtain ⟨p0, p1, p2, p4, p5⟩ := HPX.out _ HBB.out
      go_wp2_with (fail)
      go_at_call 125
      refine (C3.out _ HBB.out).mono ?_
      rintro x w3 ⟨rfl, b3⟩
      have HBB := Lib.hid (Base.then_below HBB.out b3)
      clear b3
      cases q3 with
      | false =>
        clear p0 p1 p2 p4 p5
        obtain ⟨p0, p1, p2, p4, p5⟩ := HPX.out _ HBB.out
        go_wp2
        go_ret
        exact ⟨ret_bb (by rw [HR.out]; first | simp | (rw [E1.out]; simp) | (rw [E1.out, E2.out]; simp)), HBB.out⟩
      | true =>
        clear p0 p1 p2 p4 p5
        obtain ⟨p0, p1, p2, p4, p5⟩ := HPX.out _ HBB.out
        go_wp2_with (fail)
        go_at_call 126
        refine (C4.out _ HBB.out).mono ?_
        rintro x w4 ⟨rfl, b4⟩
        have HBB := Lib.hid (Base.then_below HBB.out b4)
        clear b4
        cases q4 with
        | false =>
          clear p0 p1 p2 p4 p5
          obtain ⟨p0, p1, p2, p4, p5⟩ := HPX.out _ HBB.out
          go_wp2
          go_ret
          exact ⟨ret_bb (by rw [HR.out]; first | simp | (rw [E1.out]; simp) | (rw [E1.out, E2.out]; simp)), HBB.out⟩
        | true =>
          clear p0 p1 p2 p4 p5
          obtain ⟨p0, p1, p2, p4, p5⟩ := HPX.out _ HBB.out
          go_wp2_with (fail)
          go_at_call 127
          refine (C5.out _ HBB.out).mono ?_
          rintro x w5 ⟨rfl, b5⟩
          have HBB := Lib.hid (Base.then_below HBB.out b5)
          clear b5
          cases q5 with
          | false =>
            clear p0 p1 p2 p4 p5
            obtain ⟨p0, p1, p2, p4, p5⟩ := HPX.out _ HBB.out
            go_wp2
            go_ret
            exact ⟨ret_bb (by rw [HR.out]; first | simp | (rw [E1.out]; simp) | (rw [E1.out, E2.out]; simp)), HBB.out⟩
          | true =>
            clear p0 p1 p2 p4 p5
            obtain ⟨p0, p1, p2, p4, p5⟩ := HPX.out _ HBB.out
            go_wp2
            go_ret
            exact ⟨ret_bb (by rw [HR.out, E1.out, E2.out]; rfl), HBB.out⟩

theorem all_take {l : List Rsl.T} {k : Nat} (h : k < l.length) (ha : (l.take k).all pageOk = true) (hc : pageOk (l.getD k Rsl.nov) = true) : (l.take (k + 1)).all pageOk = true := by
  rw [List.take_succ_eq_append_getElem h, List.all_append, ha, Bool.true_and]
  rw [show l.getD k Rsl.nov = l[k] by simp [List.getD, h]] at hc
  simp [hc]
theorem all_bad {l : List Rsl.T} {k : Nat} (h : k < l.length) (hc : pageOk (l.getD k Rsl.nov) = false) : l.all pageOk = false := by
  rw [List.all_eq_false]
  exact ⟨_, mem_page h, by rw [hc]; decide⟩

set_option maxHeartbeats 8000000 in
theorem impl_org (h : List UInt8) (u : Value) (B : Nat) (l : List Rsl.T) (w : World) (hu : Rsl.Holds w B u l) (hB : B ≤ w.heap.size) (hh : h.length ≤ 1048576) (hl : l.length ≤ 1048576) (hx : ∀ f ∈ l, Sm1 f) (her : Par.Errs w) (hmx : Sh.MxL w) :
    Calls Tryz.prog 35 #[.agg #[.string ⟨h.toArray⟩, u]] w fun e w' => e = .returned (.bool (orgOk h l)) ∧ Below w.heap.size w w' := by
  obtain ⟨au, cu, rfl, hau⟩ : ∃ a cap, u = .slice a l.length cap ∧ (0 < l.length → ∃ b off, a = some ⟨b, off, none⟩ ∧ b < B ∧ ∃ rows : List (Nst.Row 6), rows.length = l.length ∧ Rec.At 6 Nst.cs (Nst.nov 6) w b off rows ∧ ∀ j, j < l.length → Rsl.RD w B (rows.getD j (Nst.nov 6)).l (l.getD j Rsl.nov)) := by
    rcases Nst.holds_cases hu with ⟨rfl, a, cap, rfl⟩ | ⟨hp, b, off, cap, rfl, hbB, _, rows, h1, h2, h4⟩
    · exact ⟨a, cap, rfl, fun h => by simp at h⟩
    · exact ⟨_, cap, rfl, fun _ => ⟨b, off, rfl, hbB, rows, h1, h2, h4⟩⟩
  have HAU := Lib.hid hau
  have HXX := Lib.hid hx
  have HER := Lib.hid her
  have HMX := Lib.hid hmx
  have HPROG := Lib.hid (org_prog h l)
  obtain ⟨res, hres⟩ : ∃ r, r = orgOk h l := ⟨_, rfl⟩
  rw [← hres] at HPROG ⊢
  obtain ⟨V, hV⟩ : ∃ V, V = ((w.alloc (.cells #[.string ⟨h.toArray⟩, .slice au l.length cu] 63)).alloc (.cells #[.string ⟨#[71, 69, 84]⟩, .string ⟨h.toArray⟩, .string ⟨#[47]⟩, .slice none 0 0] 48)) := ⟨_, rfl⟩
  have hsz : (w.alloc (.cells #[.string ⟨h.toArray⟩, .slice au l.length cu] 63)).heap.size = w.heap.size + 1 := by simp
  have HB0 : Hid (Below w.heap.size w V) := Lib.hid (by rw [hV]; exact ((Below.refl _ _).alloc (Nat.le_refl _) _).alloc (by simp) _)
  have x0 : V.cell? ⟨w.heap.size, 0, none⟩ = some (.string ⟨h.toArray⟩) := by rw [hV, World.cell?_alloc_lt _ _ _ (by simp), World.cell?_alloc_new]; rfl
  have x1 : V.cell? ⟨w.heap.size, 1, none⟩ = some (.slice au l.length cu) := by rw [hV, World.cell?_alloc_lt _ _ _ (by simp), World.cell?_alloc_new]; rfl
  have HX := Lib.hid (And.intro x0 x1)
  have y0 : V.cell? ⟨w.heap.size + 1, 0, none⟩ = some (.string ⟨#[71, 69, 84]⟩) := by rw [hV, ← hsz, World.cell?_alloc_new]; rfl
  have y1 : V.cell? ⟨w.heap.size + 1, 1, none⟩ = some (.string ⟨h.toArray⟩) := by rw [hV, ← hsz, World.cell?_alloc_new]; rfl
  have y2 : V.cell? ⟨w.heap.size + 1, 2, none⟩ = some (.string ⟨#[47]⟩) := by rw [hV, ← hsz, World.cell?_alloc_new]; rfl
  have y3 : V.cell? ⟨w.heap.size + 1, 3, none⟩ = some (.slice none 0 0) := by rw [hV, ← hsz, World.cell?_alloc_new]; rfl
  have HVV := Lib.hid hV
  have HQ := Lib.hid (fun W : World => Msg.impl_valid_req [71, 69, 84] h [47] (.slice none 0 0) W.heap.size [] W (Or.inl ⟨rfl, _, _, rfl⟩) (Nat.le_refl _) (by decide) (by decide) hh (by decide))
  unfold Msg.BoolEnd at HQ
  have HFT : Hid (frontOk h = Msg.reqOk [71, 69, 84] h [47] []) := Lib.hid rfl
  generalize frontOk h = ft at HFT HPROG
  rw [← HFT.out] at HQ
  clear hV hu hau hx her hmx hres HFT
  by_cases h12 : l.length ≤ 12
  case neg =>
    have h12i : (12 : Int) < (l.length : Int) := by omega
    have HZ : Hid (res = false) := Lib.hid (by rw [HPROG.out, decide_eq_false h12]; rfl)
    go_enter Tryz.func35, Tryz.ntmps35
    go_wp2
    go_ret
    exact ⟨ret_bb HZ.out.symm, by have := HB0.out; rw [HVV.out] at this; exact this⟩
  have h12i : ¬ (12 : Int) < (l.length : Int) := by omega
  rw [decide_eq_true h12, Bool.true_and] at HPROG
  go_enter Tryz.func35, Tryz.ntmps35
  go_wp2_with (fail)
  go_at_call 73
  refine (HQ.out _).mono ?_
  rintro e w1 ⟨rfl, b1⟩
  rw [← HVV.out] at b1
  have HG1 : Hid (GrowS w V w1) := Lib.hid ⟨b1, Base.then_below HB0.out b1⟩
  clear b1 y0 y1 y2 y3 HVV HQ
  cases ft with
  | false =>
    have HZ : Hid (res = false) := Lib.hid (by rw [HPROG.out]; rfl)
    go_wp2
    go_ret
    exact ⟨ret_bb HZ.out.symm, HG1.out.2⟩
  | true =>
    rw [Bool.true_and] at HPROG
    obtain ⟨i0, hi, hz0, hz1, hz2⟩ := info_parts Strs.info_str
    have z1 := grow_old HG1.out HX.out.2
    have HL0 := Lib.hid (Strs.own_lit_nil w1)
    have HG2 : Hid (GrowS w V (w1.alloc (.cells #[] 9))) := Lib.hid ⟨HG1.out.1.alloc HG1.out.1.size _, HG1.out.2.alloc HG1.out.2.size _⟩
    have z2 := grow_old HG2.out HX.out.2
    have HO0 : Hid (Strs.Own (w1.alloc (.cells #[] 9)) V.heap.size (.slice (some ⟨w1.heap.size, 0, none⟩) 0 0) []) := Lib.hid (Rec.own_mono HL0.out HG1.out.1.size)
    clear HL0
    go_wp2
    go_loopw [4, 5, 6, 23] (fun ts _ _ i wr => ∃ n : Nat, n ≤ l.length ∧ i = .int .i64 (n : Int) ∧ Hid (Strs.Own wr V.heap.size ts ((l.take n).map (fun e => e.et))) ∧ Hid ((l.take n).all pageOk = true) ∧ Hid (GrowS w V wr)) (fun _ _ _ i _ => l.length - (intOf i).toNat)
    case atStart => exact ⟨0, Nat.zero_le _, rfl, HO0, Lib.hid rfl, HG2⟩
    case round =>
      clear HG1 HG2 HO0 z1 z2
      obtain ⟨n, hn, rfl, HO, HL, HG⟩ := hrel
      have x1 := grow_old HG.out HX.out.2
      by_cases hlt : n < l.length
      · obtain ⟨b, off, rfl, hbl, rows, h1, h2, h4⟩ := HAU.out (by omega)
        have HSM := Lib.hid (HXX.out _ (mem_page hlt))
        have HBAD := Lib.hid (fun h => show res = false by rw [HPROG.out, all_bad hlt h]; rfl)
        have HSTP := Lib.hid (fun h => all_take hlt HL.out h)
        have HMORE : Hid ((l.take (n + 1)).map (fun e => e.et) = (l.take n).map (fun e => e.et) ++ [(l.getD n Rsl.nov).et]) := Lib.hid (by rw [List.take_succ_eq_append_getElem hlt, List.map_append, show l.getD n Rsl.nov = l[n] by simp [List.getD, hlt]]; rfl)
        have hr := h4 n hlt
        generalize hf : l.getD n Rsl.nov = f at HSM HBAD HSTP HMORE hr
        clear hf
        obtain ⟨et, ec, ek, ep, egs, evs⟩ := f
        obtain ⟨uu, uv, hcs, huu, huv⟩ := hr
        dsimp only at hcs huu huv HMORE
        have k : ∀ (o : Nat) (x : Value), w.cell? ⟨b, o, none⟩ = some x → wr.cell? ⟨b, o, none⟩ = some x := fun o x hc => (HG.out.2.cell (p := ⟨b, o, none⟩) (Rec.lt_of_cell hc)).trans hc
        have HPG : Hid (PgAt wr b (off + n * 6) ⟨et, ec, ek, ep, egs, evs⟩ uu uv) := Lib.hid ⟨k _ _ (Nst.at_cell (i := 0) h2 (by rw [h1]; exact hlt) hcs rfl), k _ _ (Nst.at_cell (i := 1) h2 (by rw [h1]; exact hlt) hcs rfl), k _ _ (Nst.at_cell (i := 2) h2 (by rw [h1]; exact hlt) hcs rfl), k _ _ (Nst.at_cell (i := 4) h2 (by rw [h1]; exact hlt) hcs rfl), k _ _ (Nst.at_cell (i := 5) h2 (by rw [h1]; exact hlt) hcs rfl)⟩
        have HGD := Lib.hid (impl_good b (off + n * 6) ⟨et, ec, ek, ep, egs, evs⟩ uu uv B wr HPG.out (Strs.holds_below huu (HG.out.2.mono hB)) (Ver.holds_below huv (HG.out.2.mono hB)) (Nat.le_trans hB HG.out.2.size) HSM.out (Par.errs_below HER.out HG.out.2) (Sh.mxl_below HMX.out HG.out.2))
        have hni : (n : Int) < (l.length : Int) := by omega
        have hlen : ((l.take n).map (fun e : Rsl.T => e.et)).length ≤ 1048576 := by rw [List.length_map, List.length_take]; omega
        generalize pageOk ⟨et, ec, ek, ep, egs, evs⟩ = q at HGD HBAD HSTP
        generalize (l.take n).map (fun e : Rsl.T => e.et) = xs at HO HMORE hlen
        have HLE := Lib.hid hlen
        clear k h1 h2 h4 hcs huu huv hlen
        cases q with
        | false =>
          have HZ := Lib.hid (HBAD.out rfl)
          clear HBAD HSTP
          go_wp2_with (fail)
          go_at_call 74
          refine HGD.out.mono ?_
          rintro e w2 ⟨rfl, b2⟩
          have HG2 := Lib.hid (grow_call HG.out b2)
          clear b2
          go_wp2
          go_ret
          exact ⟨ret_bb HZ.out.symm, HG2.out.2⟩
        | true =>
          have HZ := Lib.hid (HSTP.out rfl)
          clear HBAD HSTP
          go_wp2_with (fail)
          go_at_call 74
          refine HGD.out.mono ?_
          rintro e w2 ⟨rfl, b2⟩
          have HG2 := Lib.hid (grow_call HG.out b2)
          have HO2 : Hid (Strs.Own w2 V.heap.size u4 xs) := Lib.hid (Rec.row_below HO.out b2)
          have p0 := (pg_below HPG.out b2).1
          dsimp only at p0
          have hxl := Strs.svs_len xs
          have hvs := HG2.out.1.size
          clear b2 x1 HO
          go_wp2_with (at_builtin; refine wpList_append_own _ rfl (.tmp 33) (.tmp 38) 72 rfl V.heap.size 9 i0 (.string ⟨#[]⟩) 1 16 Tryz.underlying72 hi hz0 hz1 hz2 rfl (by decide) _ _ _ rfl (HO2.out.alloc _) ⟨w2.heap.size, 0, none⟩ 1 1 [.string ⟨et.toArray⟩] rfl rfl (Strs.news_one _ _ _) (Strs.sv_one et) (by have := HLE.out; unfold maxLen; omega) (by have := HLE.out; omega) (by simp; omega) ?_; intro v1 w3 hown1 hg1 _; have HP := Lib.hid (Strs.push_own (a := V) (x := et) HO2.out HG2.out.1 (Nat.le_refl _) hown1 hg1); have HBW := Lib.hid ((HG2.out.2.alloc HG2.out.2.size _).grown hg1 (by have := HG2.out.2.size; simp; omega) (fun k e => Nat.le_trans HB0.out.size (HO2.out.lt k e).1)); clear hown1 hg1)
          go_roundw
          case rel => exact ⟨n + 1, by omega, by go_num, by rw [HMORE.out]; exact Lib.hid HP.out.1, HZ, Lib.hid ⟨HP.out.2, HBW.out⟩⟩
          case measure => simp [intOf]; omega
      · have hni : ¬ (n : Int) < (l.length : Int) := by omega
        obtain rfl : n = l.length := by omega
        rw [List.take_length] at HO HL
        have HZ : Hid (res = decide (onceN (l.map (fun e => e.et)) = l.length)) := Lib.hid (by rw [HPROG.out, HL.out]; rfl)
        have HXL : Hid (∀ x ∈ l.map (fun e => e.et), x.length ≤ 4194304) := Lib.hid (fun x hx => by
          obtain ⟨f, hf, rfl⟩ := List.mem_map.1 hx
          have := (HXX.out f hf).1
          omega)
        have HDS := Lib.hid (impl_dist u4 wr.heap.size (l.map (fun e => e.et)) wr (Strs.own_holds HO.out) (Nat.le_refl _) (by rw [List.length_map]; omega) HXL.out)
        clear HL HAU HXX HXL HO
        go_wp2_with (fail)
        go_at_call 75
        refine HDS.out.mono ?_
        rintro e w2 ⟨rfl, b2⟩
        have HG2 := Lib.hid (grow_call HG.out b2)
        clear b2
        go_wp2
        go_ret
        exact ⟨ret_bb HZ.out.symm, HG2.out.2⟩
end Go.Proofs.YtndbhjgfaghelaaGreatDoor.Orc

/-
  CONTRACT of the laws' toOrigin (written by stk.py): a copy whose lists are the call's own. Nothing that was there before is changed.
-/
namespace Go.Proofs.YtndbhjgfaghelaaGreatDoor.Org
open Go Go.RowKit
set_option linter.unusedVariables false
set_option maxRecDepth 1000000
set_option maxRecDepth 1000000

def Copied (h : List UInt8) (l : List Rsl.T) (w : World) (e : Ending) (w' : World) : Prop := ∃ u, e = .returned (.agg #[.string ⟨h.toArray⟩, u]) ∧ Rsl.Own w' w.heap.size u l ∧ Below w.heap.size w w'

set_option maxHeartbeats 8000000 in
theorem copy_org (h : List UInt8) (u : Value) (l : List Rsl.T) (B : Nat) (w : World) (hu : Rsl.Holds w B u l) (hB : B ≤ w.heap.size) (qu : (l.length ≤ 1048576 ∧ ∀ f ∈ l, f.egs.length ≤ 1048576 ∧ f.evs.length ≤ 1048576)) :
    Calls Tryz.prog 34 #[.agg #[.string ⟨h.toArray⟩, u]] w (Copied h l w) := by
  have HB0 := Lib.hid ((((Below.refl w.heap.size w).alloc (Nat.le_refl _) (.cells #[.string ⟨h.toArray⟩, u] 58)).alloc (by simp) (.cells #[.string ⟨#[]⟩, .slice none 0 0] 63)).alloc (by simp; omega) (.cells #[.string ⟨h.toArray⟩, .slice none 0 0] 63))
  have HS0 := Lib.hid (fun W (hb : Below w.heap.size w W) => Rsl.copy u B l W (Rsl.holds_below hu (hb.mono hB)) (Nat.le_trans hB hb.size) qu.1 qu.2)
  unfold Rsl.Copied at HS0
  have HX := Lib.hid (((Kept.Box.new (w := w) (T := 58) (a := #[.string ⟨h.toArray⟩, u])).alloc (.cells #[.string ⟨#[]⟩, .slice none 0 0] 63)).alloc (.cells #[.string ⟨h.toArray⟩, .slice none 0 0] 63))
  have HY := Lib.hid ((Kept.Box.new (w := (w.alloc (.cells #[.string ⟨h.toArray⟩, u] 58))) (T := 63) (a := #[.string ⟨#[]⟩, .slice none 0 0])).alloc (.cells #[.string ⟨h.toArray⟩, .slice none 0 0] 63))
  have HZ := Lib.hid (Kept.Box.new (w := ((w.alloc (.cells #[.string ⟨h.toArray⟩, u] 58)).alloc (.cells #[.string ⟨#[]⟩, .slice none 0 0] 63))) (T := 63) (a := #[.string ⟨h.toArray⟩, .slice none 0 0]))
  rw [show (w.alloc (.cells #[.string ⟨h.toArray⟩, u] 58)).heap.size = w.heap.size + 1 by simp] at HY
  rw [show ((w.alloc (.cells #[.string ⟨h.toArray⟩, u] 58)).alloc (.cells #[.string ⟨#[]⟩, .slice none 0 0] 63)).heap.size = w.heap.size + 1 + 1 by simp] at HZ
  have hz3 : (((w.alloc (.cells #[.string ⟨h.toArray⟩, u] 58)).alloc (.cells #[.string ⟨#[]⟩, .slice none 0 0] 63)).alloc (.cells #[.string ⟨h.toArray⟩, .slice none 0 0] 63)).heap.size = w.heap.size + 1 + 1 + 1 := by simp
  unfold Copied
  clear hu
  go_enter Tryz.func34, Tryz.ntmps34
  go_wp2_with (fail)
  go_at_call 72
  refine (HS0.out _ HB0.out).mono ?_
  rintro e w1 ⟨v1, rfl, o1, hb1⟩
  obtain ⟨a1, c1, rfl, _⟩ := Rsl.own_shape o1
  have hZ1 := HZ.out.below hb1
  have hX1 := HX.out.below hb1
  have hY1 := HY.out.below hb1
  have HB1 := Lib.hid (HB0.out.trans (hb1.mono HB0.out.size))
  have hs1 := hb1.size
  rw [hz3] at hs1 o1
  clear hz3
  have HO1 : Hid (Rsl.Own w1 (w.heap.size + 1 + 1 + 1) (.slice a1 (l.length) c1) l) := Lib.hid (Rsl.own_mono o1 (by omega))
  clear o1 hb1
  have z0 := hZ1.cell 0 _ rfl
  have z1 := hZ1.cell 1 _ rfl
  have zf1 := hZ1.frz 1
  have HZE := Lib.hid (hZ1.same (k := 1) (by simp) (.slice a1 (l.length) c1))
  have HYE := Lib.hid (hY1.other (g' := w.heap.size + 1 + 1) (k := 1) (by omega) (.slice a1 (l.length) c1))
  have HBZ := Lib.hid (HB1.out.setCell (p := ⟨w.heap.size + 1 + 1, 1, none⟩) (by show w.heap.size ≤ w.heap.size + 1 + 1; omega) (.slice a1 (l.length) c1))
  have HW1 : Hid (Rsl.Own (w1.setCell ⟨w.heap.size + 1 + 1, 1, none⟩ (.slice a1 (l.length) c1)) (w.heap.size + 1 + 1 + 1) (.slice a1 (l.length) c1) l) := Lib.hid (Rsl.own_set HO1.out (by omega) 1 _)
  clear hZ1 hX1 hY1 HO1  HB1 HZ HX HY
  go_upto_region 4 with fail
  generalize (w1.setCell ⟨w.heap.size + 1 + 1, 1, none⟩ (.slice a1 (l.length) c1)) = wz at HZE HYE HBZ HW1 ⊢
  clear z0 z1 zf1
  have hZ := HZE.out
  have hY := HYE.out
  have z0 := hZ.cell 0 _ rfl
  have y0 := hY.cell 0 _ rfl
  have yf0 := hY.frz 0
  have z1 := hZ.cell 1 _ rfl
  have y1 := hY.cell 1 _ rfl
  have yf1 := hY.frz 1
  clear hZ hY
  go_wp2
  refine bodyPost_ret (v := .agg #[.string ⟨h.toArray⟩, (.slice a1 (l.length) c1)]) (by simp [results, Tryz.results34, go_sem, y0, y1]) rfl ⟨_, rfl, ?_, ?_⟩
  · refine Rsl.own_mono (B := w.heap.size + 1 + 1 + 1) ?_ (by omega)
    repeat (refine Rsl.own_set ?_ (by omega) _ _)
    exact HW1.out
  · repeat (refine Below.setCell (p := ⟨w.heap.size + 1, _, none⟩) ?_ (by show w.heap.size ≤ w.heap.size + 1; omega) _)
    exact HBZ.out
end Go.Proofs.YtndbhjgfaghelaaGreatDoor.Org

/-
  FROM A ROW's LISTED VARIABLES to what the contracts ask of the world: the library's table of powers of ten, wherever it stands on the list.
-/
namespace Go.Proofs.YtndbhjgfaghelaaGreatDoor.Laid
open Go
set_option linter.unusedVariables false
set_option maxRecDepth 1000000

theorem of_vars {P : Program} {w : World} : ∀ {l : List (String × DataW Unit)} {ps : List MemPlace}, DataW.LaidVars P w l ps → ∀ n d, (n, d) ∈ l →
    ∃ g t cs fuel p, P.globalNamed n = some g ∧ (P.globals[g]?).map (·.type) = some t ∧ w.var? P n = some cs ∧ DataW.trod (fun _ => ()) P w 0 (fun _ => true) false fuel t cs.toList = some (d, p)
  | [], _, _, _, _, hm => by cases hm
  | (n', d') :: r, ps, h, n, d, hm => by
    obtain ⟨g, t, cs, fuel, p, q, h1, h2, h3, h4, h5, _⟩ := h
    rcases List.mem_cons.1 hm with e | e
    · cases e
      exact ⟨g, t, cs, fuel, p, h1, h2, h3, h4⟩
    · exact of_vars h5 n d e
theorem tens_datum : (Rows.laid_internal_strconv_uint64pow10 : DataW Unit) = Lib.tabData .u64 Lib.pow10Tab := by kernel_rfl
theorem tens {l : List (String × DataW Unit)} {W : World} (h : laidMet Tryz.prog l W) (hm : ("internal/strconv.uint64pow10", Rows.laid_internal_strconv_uint64pow10) ∈ l) : Fmt.Tens W := by
  obtain ⟨ps, hv, _⟩ := h
  obtain ⟨g, t, cs, fuel, p, hg, ht, hvar, hd⟩ := of_vars hv _ _ hm
  obtain rfl := Option.some.inj ((show Tryz.prog.globalNamed "internal/strconv.uint64pow10" = some 7 by kernel_rfl).symm.trans hg)
  obtain rfl := Option.some.inj ((show (Tryz.prog.globals[7]?).map (·.type) = some 245 by kernel_rfl).symm.trans ht)
  rw [tens_datum] at hd
  unfold Fmt.Tens Lib.TabIs
  rw [hvar, ← Lib.cells_of_tab Tryz.underlying245 Tryz.underlying207 (by kernel_rfl) (by kernel_rfl) hd]
end Go.Proofs.YtndbhjgfaghelaaGreatDoor.Laid

/-
  FROM A ROW's LISTED VARIABLES to what the contracts ask of the world: the two errors of the library's number reader, wherever they stand on the list.
-/
namespace Go.Proofs.YtndbhjgfaghelaaGreatDoor.Laid
open Go
set_option linter.unusedVariables false
set_option maxRecDepth 1000000

theorem at_head {P : Program} {w : World} {n : String} {d : DataW Unit} : ∀ {l : List (String × DataW Unit)}, laidMet P l w → (n, d) ∈ l → ∃ r, laidMet P ((n, d) :: r) w
  | [], _, hm => by cases hm
  | x :: r, h, hm => by
    rcases List.mem_cons.1 hm with e | e
    · cases e; exact ⟨r, h⟩
    · exact at_head h.tail e
theorem errs {l : List (String × DataW Unit)} {W : World} (h : laidMet Tryz.prog l W) (h1 : ("strconv.ErrSyntax", Rows.laid_strconv_ErrSyntax) ∈ l) (h2 : ("strconv.ErrRange", Rows.laid_strconv_ErrRange) ∈ l) : Par.Errs W := by
  obtain ⟨r1, k1⟩ := at_head h h1
  obtain ⟨r2, k2⟩ := at_head h h2
  have row : ∀ u, Tryz.prog.typeName? 3 u = some "*errors.errorString" → u = 261 :=
    fun u hu => typeName_ptr_named (nm := "errors.errorString") (by kernel_rfl) (by kernel_rfl) (by decide) u hu
  obtain ⟨a1, s1, v1, _⟩ := laid_sentinel k1 (show Tryz.prog.globalNamed "strconv.ErrSyntax" = some 5 by kernel_rfl) (show (Tryz.prog.globals[5]?).map (·.type) = some 98 by kernel_rfl) Tryz.underlying98 row Tryz.underlying261 Tryz.underlying263 rfl rfl Tryz.underlying9 (by kernel_rfl) (by kernel_rfl)
  obtain ⟨a2, s2, v2, _⟩ := laid_sentinel k2 (show Tryz.prog.globalNamed "strconv.ErrRange" = some 6 by kernel_rfl) (show (Tryz.prog.globals[6]?).map (·.type) = some 98 by kernel_rfl) Tryz.underlying98 row Tryz.underlying261 Tryz.underlying263 rfl rfl Tryz.underlying9 (by kernel_rfl) (by kernel_rfl)
  exact ⟨⟨_, _, v1⟩, ⟨_, _, v2⟩⟩
end Go.Proofs.YtndbhjgfaghelaaGreatDoor.Laid
