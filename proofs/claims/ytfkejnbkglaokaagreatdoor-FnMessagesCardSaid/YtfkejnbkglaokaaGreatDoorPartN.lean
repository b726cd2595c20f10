/-
  CONTRACTS AND PLAIN FACTS, several texts in one; each says in its own words what it proves.
-/
import Derived.Test.YtfkejnbkglaokaaGreatDoorPartJ
import Derived.Test.YtfkejnbkglaokaaGreatDoorPartM
import Derived.Test.YtfkejnbkglaokaaGreatDoorPartH
import Derived.LoopTactic
import Derived.Outline
set_option linter.unusedSimpArgs false
set_option linter.unusedVariables false

/-
  CONTRACT of the program's ParseFields: the fields of the lines, in memory of their own, and whether all is well; nothing that was there before is changed.
-/
namespace Go.Proofs.YtfkejnbkglaokaaGreatDoor.Flds
open Go Go.RowKit
set_option linter.unusedVariables false
set_option maxRecDepth 1000000

def PfrEnd (l : List UInt8) (w : World) (e : Ending) (w' : World) : Prop := ∃ v, e = .returned (.tuple #[v, .bool (pfr l).2]) ∧ Own w' w.heap.size v (pfr l).1 ∧ Below w.heap.size w w'
theorem pfr_ret {l : List UInt8} {m : List Fld} {b : Bool} {w w' : World} {v : Value} (h : pfr l = (m, b)) (ho : Own w' w.heap.size v m) (hb : Below w.heap.size w w') : PfrEnd l w (.returned (.tuple #[v, .bool b])) w' := by
  unfold PfrEnd; rw [h]; exact ⟨v, rfl, ho, hb⟩
theorem fnil_late {w w1 : World} (hb : Below w.heap.size w w1) : Own (w1.alloc (.cells #[] 48)) w.heap.size (.slice (some ⟨w1.heap.size, 0, none⟩) 0 0) [] := own_mono (own_lit_nil w1) hb.size
theorem cut_two (r : List UInt8) (W : World) (hl : r.length ≤ 1048576) (hm : Sh.MxL W) : Calls Tryz.prog 28 #[.string ⟨r.toArray⟩, .string ⟨#[13, 10]⟩] W fun e w' => e = .returned (.tuple #[.string ⟨(ln r).1.toArray⟩, .string ⟨(ln r).2.1.toArray⟩, .bool (ln r).2.2]) ∧ Below W.heap.size W w' := by
  obtain ⟨_, m, hc⟩ := hm
  refine (Tryz.strings_Cut ⟨r.toArray⟩ ⟨#[13, 10]⟩ m W (by simp [ByteArray.size]; omega) hc).mono ?_
  rintro e w' ⟨rfl, n, rfl⟩
  exact ⟨rfl, Tx.below_drewN' (Below.refl _ _) _⟩
theorem cut_col (r : List UInt8) (W : World) (hl : r.length ≤ 1048576) : Calls Tryz.prog 28 #[.string ⟨r.toArray⟩, .string ⟨#[58]⟩] W fun e w' => e = .returned (.tuple #[.string ⟨(Tx.cutAt 58 r).1.toArray⟩, .string ⟨(Tx.cutAt 58 r).2.1.toArray⟩, .bool (Tx.cutAt 58 r).2.2]) ∧ Below W.heap.size W w' := Tx.cut_any ⟨r.toArray⟩ 58 W (by simp [ByteArray.size]; omega)
theorem low_f (a : List UInt8) (hl : a.length ≤ 1048576) (W : World) : Calls Tryz.prog 76 #[.string ⟨a.toArray⟩] W fun e w' => e = .returned (.string ⟨(Tx.lower a).toArray⟩) ∧ Below W.heap.size W w' := Tx.impl_lower ⟨a.toArray⟩ W (by simp [ByteArray.size]; omega)
theorem trim_f (a : List UInt8) (hl : a.length ≤ 1048576) (W : World) : Calls Tryz.prog 77 #[.string ⟨a.toArray⟩] W fun e w' => e = .returned (.string ⟨(Tx.trim a).toArray⟩) ∧ Below W.heap.size W w' := Tx.impl_trim ⟨a.toArray⟩ W (by simp [ByteArray.size]; omega)

set_option maxRecDepth 1000000 in
set_option maxHeartbeats 8000000 in
theorem impl_pfr (l : List UInt8) (w : World) (hl : l.length ≤ 1048576) (hm : Sh.MxL w) :
    Calls Tryz.prog 51 #[.string ⟨l.toArray⟩] w (PfrEnd l w) := by
  obtain ⟨i0, hi, hz0, hz1, hz2⟩ := info_parts info_fld
  have HMX := Lib.hid (fun W (hb : Below w.heap.size w W) => Sh.mxl_below hm hb)
  have HO1 := Lib.hid (own_lit_nil w)
  have HST := Lib.hid (kp_start l)
  have HL := Lib.hid hl
  clear hm hl
  go_enter Tryz.func51, Tryz.ntmps51
  go_wp2
  go_loopw [0, 4, 5, 6, 7, 8, 9, 10] (fun s u _ _ _ _ _ _ wr => ∃ (r : List UInt8) (m : List Fld), s = .string ⟨r.toArray⟩ ∧ wr.ownsRow w.heap.size 48 2 u m.length (fcs m) ∧ Hid (Kp l m r) ∧ Below w.heap.size w wr) (fun s _ _ _ _ _ _ _ _ => (match s with | .string b => b.size | _ => 0))
  case atStart => exact ⟨l, [], rfl, HO1.out, HST, (Below.refl _ _).alloc (Nat.le_refl _) _⟩
  case round =>
    clear HO1 HST
    obtain ⟨r, m, rfl, hown, HK, hb⟩ := hrel
    have HB := Lib.hid hb
    have hbs := hb.size
    have HO := Lib.hid hown
    clear hown hb
    rcases r with _ | ⟨y, t⟩
    · have HPE := Lib.hid (kp_end HK.out)
      have HT : Hid (total m ≤ 1048576) := Lib.hid (by have h1 := HK.out.2; have h2 := HL.out; omega)
      have HH := Lib.hid (own_holds HO.out)
      have HR := Lib.hid (impl_are u4 _ m wr HH.out (Nat.le_refl _) HT.out)
      unfold AreEnd at HR
      obtain ⟨b, hbb⟩ : ∃ b, fldsOk m = b := ⟨_, rfl⟩
      have HBB := Lib.hid hbb
      rw [hbb] at HR
      clear hbb HK
      go_wp2_with (fail)
      go_at_call 78
      refine HR.out.mono ?_
      rintro e w1 ⟨rfl, hb1⟩
      have HO1 := Lib.hid (own_below HO.out hb1)
      have HB1 := Lib.hid (Base.then_below HB.out hb1)
      clear hb1 HR HO HB HH
      cases b with
      | true =>
        have HE := Lib.hid (pfr_yes HPE.out HBB.out)
        go_wp2
        go_ret2
        exact pfr_ret HE.out HO1.out HB1.out
      | false =>
        have HE := Lib.hid (pfr_no HPE.out HBB.out)
        have HN := Lib.hid (fnil_late HB1.out)
        have HB2 := Lib.hid (HB1.out.alloc HB1.out.size (.cells #[] 48))
        go_wp2
        go_ret2
        exact pfr_ret HE.out HN.out HB2.out
    · have HRL : Hid ((y :: t).length ≤ 1048576) := Lib.hid (by have h1 := HK.out.2; have h2 := HL.out; omega)
      have HC := Lib.hid (cut_two (y :: t) wr HRL.out (HMX.out _ HB.out))
      have HLN := Lib.hid (fun h => ln_len (s := y :: t) h)
      have HBAD := Lib.hid (fun h => pfr_bad (kp_bad HK.out (by simp) h))
      have HMORE := Lib.hid (fun f h => kp_more (f := f) HK.out (by simp) h)
      have HF1 : Hid (fld1 (y :: t) = _) := Lib.hid (show fld1 (y :: t) = _ by unfold fld1; rfl)
      have HL1 : Hid ((ln (y :: t)).1.length ≤ 1048576) := Lib.hid (by
        by_cases h : (ln (y :: t)).2.2 = true
        · have h1 := ln_len h; have h2 := HRL.out; omega
        · have e : (ln (y :: t)).1 = y :: t := by
            unfold ln Lib.cut at h ⊢
            split at h
            · exact absurd rfl h
            · rename_i h0; rw [if_neg h0]
          rw [e]; exact HRL.out)
      generalize ln (y :: t) = x at HC HLN HMORE HF1 HL1
      obtain ⟨x1, x2, en⟩ := x
      dsimp only at HC HLN HMORE HF1 HL1
      have HC2 := Lib.hid (fun W => cut_col x1 W HL1.out)
      have HLA := Lib.hid (cut_le 58 x1)
      generalize Tx.cutAt 58 x1 = z at HC2 HF1 HLA
      obtain ⟨z1, z2, fo⟩ := z
      dsimp only at HC2 HF1 HLA
      have HLW := Lib.hid (fun W => low_f z1 (by have h1 := HL1.out; have h2 := HLA.out; omega) W)
      have HTR := Lib.hid (fun W => trim_f z2 (by have h1 := HL1.out; have h2 := HLA.out; omega) W)
      have HML : Hid (m.length ≤ 1048576) := Lib.hid (by have h1 := HK.out.2; have h2 := HL.out; unfold total at h1; omega)
      clear HK
      go_wp2_with (fail)
      go_at_call 28
      refine HC.out.mono ?_
      rintro e w1 ⟨rfl, hb1⟩
      have HO1 := Lib.hid (own_below HO.out hb1)
      have HB1 := Lib.hid (Base.then_below HB.out hb1)
      clear hb1 HC HO HB
      go_wp2_with (fail)
      go_at_call 28
      refine (HC2.out _).mono ?_
      rintro e w2 ⟨rfl, hb1⟩
      have HO2 := Lib.hid (own_below HO1.out hb1)
      have HB2 := Lib.hid (Base.then_below HB1.out hb1)
      clear hb1 HC2 HO1 HB1
      cases en with
      | false =>
        have HE := Lib.hid (HBAD.out (by rw [HF1.out]; simp))
        have HN := Lib.hid (fnil_late HB2.out)
        have HB3 := Lib.hid (HB2.out.alloc HB2.out.size (.cells #[] 48))
        go_wp2
        go_ret2
        exact pfr_ret HE.out HN.out HB3.out
      | true =>
        cases fo with
        | false =>
          have HE := Lib.hid (HBAD.out (by rw [HF1.out]; simp))
          have HN := Lib.hid (fnil_late HB2.out)
          have HB3 := Lib.hid (HB2.out.alloc HB2.out.size (.cells #[] 48))
          go_wp2
          go_ret2
          exact pfr_ret HE.out HN.out HB3.out
        | true =>
          have HKN := Lib.hid (HMORE.out (Tx.lower z1, Tx.trim z2) (by rw [HF1.out]; simp))
          have HMS : Hid (x2.length < (y :: t).length) := Lib.hid (by have h1 := HLN.out rfl; omega)
          have hfl := fcs_len m
          generalize Tx.lower z1 = a1 at HLW HKN
          generalize Tx.trim z2 = a2 at HTR HKN
          clear HF1 HBAD HMORE HLN HLA
          go_wp2_with (fail)
          go_at_call 76
          refine (HLW.out _).mono ?_
          rintro e w3 ⟨rfl, hb1⟩
          have HO3 := Lib.hid (own_below HO2.out hb1)
          have HB3 := Lib.hid (Base.then_below HB2.out hb1)
          clear hb1 HLW HO2 HB2
          go_wp2_with (fail)
          go_at_call 77
          refine (HTR.out _).mono ?_
          rintro e w4 ⟨rfl, hb1⟩
          have HO4 := Lib.hid (own_below HO3.out hb1)
          have HB4 := Lib.hid (Base.then_below HB3.out hb1)
          have hbs4 := HB4.out.size
          have hown : w4.ownsRow w.heap.size 48 2 u4 m.length (fcs m) := HO4.out
          clear hb1 HTR HO3 HB3
          go_wp2_with (at_builtin; go_loud (refine wpList_append_own _ rfl (.tmp 33) (.tmp 39) 22 rfl w.heap.size 48 i0 (.agg #[.string ⟨#[]⟩, .string ⟨#[]⟩]) 2 32 Tryz.underlying22 hi hz0 hz1 hz2 rfl (by decide) _ _ _ rfl (hown.alloc _) ⟨w4.heap.size, 0, none⟩ 1 1 [sv a1, sv a2] rfl rfl (news_two _ _ _ _) (two_one (a1, a2)) (by have := HML.out; unfold maxLen; omega) (by have := HML.out; omega) (by simp; omega) ?_; intro v1 w5 hown1 hg1 _))
          have R := Lib.hid (push_own (f := (a1, a2)) HO4.out HB4.out (Nat.le_refl _) hown1 hg1)
          clear hown1 hg1 hown
          go_wp2
          go_roundw
          case rel => exact ⟨x2, m ++ [(a1, a2)], rfl, R.out.1, HKN, R.out.2⟩
          case measure => simpa [ByteArray.size] using HMS.out
end Go.Proofs.YtfkejnbkglaokaaGreatDoor.Flds
