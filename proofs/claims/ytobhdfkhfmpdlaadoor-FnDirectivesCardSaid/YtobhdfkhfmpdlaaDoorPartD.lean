/-
  CONTRACTS AND PLAIN FACTS, several texts in one; each says in its own words what it proves.
-/
import Derived.Test.YtobhdfkhfmpdlaaDoorPartB
import Derived.Test.YtobhdfkhfmpdlaaDoorPartC
import Derived.Test.YtobhdfkhfmpdlaaDoorPartA
import Derived.Lib.SlTrimSet
import Derived.Lib.IndexMore
import Derived.Lib.Join
set_option linter.unusedSimpArgs false
set_option linter.unusedVariables false

/-
  CONTRACT of the model's draw l1Bent, as a function of the bytes of the draw, of where the cursor stood and of the text that is given.
-/
namespace Go.Proofs.YtobhdfkhfmpdlaaDoor.Cf
open Go Go.RowKit Cur
set_option linter.unusedVariables false
set_option maxRecDepth 1000000

def byteOf (x : Int) : UInt8 := UInt8.ofNat x.toNat
theorem byteOf_eq {x : Int} (h0 : 0 ≤ x) (h1 : x ≤ 255) : ((byteOf x).toNat : Int) = x := by unfold byteOf; simp [UInt8.toNat_ofNat']; omega
def tails : List Int := [0, 32, 44, 34, 255]
/-- What l1Bent answers, and where it leaves the cursor. -/
def bentF (κ : Src) (s : List UInt8) (st : Int × Int) : List UInt8 × (Int × Int) :=
  if (belowF κ 7 st).1 = 0 then
    (if 0 < s.length then (s.set (belowF κ s.length (belowF κ 7 st).2).1.toNat (byteOf (belowF κ 256 (belowF κ s.length (belowF κ 7 st).2).2).1), (belowF κ 256 (belowF κ s.length (belowF κ 7 st).2).2).2) else (s, (belowF κ 7 st).2))
  else if (belowF κ 7 st).1 = 1 then (s.take (belowF κ ((s.length : Int) + 1) (belowF κ 7 st).2).1.toNat, (belowF κ ((s.length : Int) + 1) (belowF κ 7 st).2).2)
  else if (belowF κ 7 st).1 = 2 then (s ++ [byteOf (intF κ tails (belowF κ 7 st).2).1], (intF κ tails (belowF κ 7 st).2).2)
  else if (belowF κ 7 st).1 = 3 then
    (if 0 < s.length then (s.take (belowF κ s.length (belowF κ 7 st).2).1.toNat ++ s.drop ((belowF κ s.length (belowF κ 7 st).2).1.toNat + 1), (belowF κ s.length (belowF κ 7 st).2).2) else (s, (belowF κ 7 st).2))
  else (s, (belowF κ 7 st).2)
theorem bentF_len (κ : Src) (s : List UInt8) (st : Int × Int) : (bentF κ s st).1.length ≤ s.length + 1 := by
  unfold bentF
  split
  · split
    · simp
    · simp
  · split
    · simp; omega
    · split
      · simp
      · split
        · split
          · simp; omega
          · simp
        · simp

set_option maxHeartbeats 4000000 in
theorem bent_fn (c B : Nat) (bv : Value) (κ : Src) (st : Int × Int) (s : List UInt8) (w : World) (hcur : CurS w c bv st) (hby : BytesS w B bv κ) (hB : B ≤ c) (hs : s.length ≤ 1000000) :
    Calls Tryd.prog 28 #[.pointer (some ⟨c, 0, none⟩), .string ⟨s.toArray⟩] w (DrawnT (bentF κ s st) c bv w) := by
  generalize hP : bentF κ s st = P
  have HP := Lib.hid hP
  clear hP
  obtain ⟨i0, hi, hz0, hz1, hz2⟩ := info_parts Bys.info_byte
  obtain ⟨cap, w1, hcv, hr, hb1⟩ := to_room ⟨s.toArray⟩ w
  have hcl := curS_lt hcur
  rw [show (⟨s.toArray⟩ : ByteArray).size = s.length by simp [ByteArray.size]] at hcv
  have hc1 := curS_same hcur (hb1.block c hcl)
  have hy1 := bytesS_below hby (hb1.mono (by omega : B ≤ w.heap.size))
  have hg1 : w.grownBy w1 (some c) := gb_below (World.grownBy.refl _ _) hb1
  have HR1 : Hid (Room w1 w.heap.size cap s) := Lib.hid hr
  have HB1 := Lib.hid hb1
  clear hr hcur hby hb1
  go_enter Tryd.func28, Tryd.ntmps28
  go_wp2_with (fail)
  go_at_call 66
  have hn := belowF_under κ 7 st
  have k1 := below_fn c B bv κ st 7 _ hc1 hy1 hB (by omega)
  rcases hq1 : belowF κ 7 st with ⟨n, st1⟩
  rw [hq1] at hn k1
  have HQ1 := Lib.hid hq1
  clear hq1
  refine k1.mono ?_
  rintro e w2 ⟨rfl, hc2, hg2⟩
  have hy2 := bytesS_kept hy1 hg2 hB
  have HR2 := Lib.hid (room_gb HR1.out hg2 (by omega))
  have HG2 := Lib.hid (gb_trans hg1 hg2)
  have hn0 : 0 ≤ n := hn.1
  have hn1 := hn.2
  clear hn
  have hn7 : n < 7 := by have h : n < 7 ∨ _ := hn1; omega
  clear hn1 hc1 hy1 hg1 hg2 hcv HR1 k1
  have hbk0 := Bys.back w2 w.heap.size cap s HR2.out.1
  by_cases e0 : n = 0
  · subst e0
    by_cases h0 : 0 < s.length
    · have hsi : (0 : Int) < (s.length : Int) := by omega
      clear hbk0
      go_wp2_with (fail)
      go_at_call 66
      have hx := belowF_under κ (s.length : Int) st1
      have k2 := below_fn c B bv κ st1 (s.length : Int) _ hc2 hy2 hB (by omega)
      rcases hq2 : belowF κ (s.length : Int) st1 with ⟨x, st2⟩
      rw [hq2] at hx k2
      have hx0 : (0 : Int) ≤ x := hx.1
      have hx1 : x < (s.length : Int) ∨ _ := hx.2
      obtain ⟨j, rfl, hj⟩ : ∃ j : Nat, x = (j : Int) ∧ j < s.length := ⟨x.toNat, by omega, by omega⟩
      have HQ2 := Lib.hid hq2
      clear hq2 hx0 hx1
      refine k2.mono ?_
      rintro e w3 ⟨rfl, hc3, hg3⟩
      clear k2
      have hy3 := bytesS_kept hy2 hg3 hB
      clear hx
      go_wp2_with (fail)
      go_at_call 66
      have hy := belowF_under κ 256 st2
      have k3 := below_fn c B bv κ st2 256 _ hc3 hy3 hB (by omega)
      rcases hq3 : belowF κ 256 st2 with ⟨y, st3⟩
      rw [hq3] at hy k3
      have hyl : (0 : Int) ≤ y := hy.1
      have hyh : y < 256 ∨ _ := hy.2
      have hyu := byteOf_eq hyl (by omega)
      have hPe : P = (s.set j (byteOf y), st3) := by
        have h1 := HQ1.out; have h2 := HQ2.out
        rw [← HP.out]; unfold bentF
        simp only [h1, h2, hq3, if_pos, h0, Int.toNat_natCast]
      generalize byteOf y = u at hyu hPe
      subst hyu
      subst hPe
      clear hyl hyh hq3 HP
      refine k3.mono ?_
      rintro e w4 ⟨rfl, hc4, hg4⟩
      clear k3
      have hu0 : (0 : Int) ≤ (u.toNat : Int) := by omega
      have hu1 : (u.toNat : Int) ≤ 255 := by have := u.toNat_lt; omega
      have hg24 := gb_trans hg3 hg4
      have hR4 := room_gb HR2.out hg24 (by omega)
      have hcell := (hR4.1.2 j hj).1
      have hfz := (hR4.1.2 j hj).2
      have hji : (j : Int) < (s.length : Int) := by omega
      have hbk := Bys.back (w4.setCell ⟨w.heap.size, j, none⟩ (Bys.bvl u)) w.heap.size cap (s.set j u) (set_room u hR4 hj)
      rw [List.length_set] at hbk
      have HE := Lib.hid (And.intro True.intro (And.intro (curS_same (w' := w4.setCell ⟨w.heap.size, j, none⟩ (Bys.bvl u)) hc4 (Below.heap_setCell _ _ _ _ (by show c ≠ w.heap.size; omega))) (gb_below (gb_trans HG2.out hg24) (show Below w.heap.size w4 (w4.setCell ⟨w.heap.size, j, none⟩ (Bys.bvl u)) from Bys.below_set _ (Below.refl _ _) (Nat.le_refl _)))))
      unfold Bys.bvl at hbk hcell HE
      clear hy hc2 hc3 hc4 hy2 hy3 hg3 hg4 hg24 hR4
      go_wp2
      go_ret
      exact ⟨rfl, HE.out.2.1, HE.out.2.2⟩
    · have hsi : ¬ (0 : Int) < (s.length : Int) := by omega
      have hPe : P = (s, st1) := by
        have h1 := HQ1.out
        rw [← HP.out]; unfold bentF
        simp [h1, h0]
      subst hPe
      have HC := Lib.hid hc2
      clear hc2 hy2
      go_wp2
      go_ret
      exact ⟨rfl, HC.out, HG2.out⟩
  by_cases e1 : n = 1
  · subst e1
    clear hbk0
    go_wp2_with (fail)
    go_at_call 66
    have hx := belowF_under κ ((s.length : Int) + 1) st1
    have k2 := below_fn c B bv κ st1 ((s.length : Int) + 1) _ hc2 hy2 hB (by omega)
    rcases hq2 : belowF κ ((s.length : Int) + 1) st1 with ⟨x, st2⟩
    rw [hq2] at hx k2
    have hx0 : (0 : Int) ≤ x := hx.1
    have hx1 : x < (s.length : Int) + 1 ∨ _ := hx.2
    obtain ⟨j, rfl, hj⟩ : ∃ j : Nat, x = (j : Int) ∧ j ≤ s.length := ⟨x.toNat, by omega, by omega⟩
    have hPe : P = (s.take j, st2) := by
      have h1 := HQ1.out
      rw [← HP.out]; unfold bentF
      simp [h1, hq2]
    subst hPe
    clear hx0 hx1 hq2 HP
    refine k2.mono ?_
    rintro e w3 ⟨rfl, hc3, hg3⟩
    clear k2
    have hR3 := room_gb HR2.out hg3 (by omega)
    have hjc : j ≤ cap := Nat.le_trans hj hR3.2.1
    have hjci : (j : Int) ≤ (cap : Int) := by omega
    have hj0 : (0 : Int) ≤ (j : Int) := by omega
    have hbk := Bys.back w3 w.heap.size cap (s.take j) (bat_take j hR3.1)
    rw [List.length_take, Nat.min_eq_left hj] at hbk
    have HE := Lib.hid (And.intro True.intro (And.intro hc3 (gb_trans HG2.out hg3)))
    clear hx hc2 hc3 hy2 hg3 hR3
    go_wp2
    go_ret
    exact ⟨rfl, HE.out.2.1, HE.out.2.2⟩
  by_cases e2 : n = 2
  · subst e2
    clear hbk0
    have H := int_new c B bv κ st1 tails 5 rfl w2 hc2 hy2 hB (by decide) (by decide) 3
    have hy := intF_mem κ tails st1 (by decide)
    rcases hq2 : intF κ tails st1 with ⟨y, st2⟩
    rw [hq2] at H hy
    have hyb : 0 ≤ y ∧ y ≤ 255 := by
      have hy' : y ∈ tails := hy
      unfold tails at hy'; simp at hy'; omega
    have hyu := byteOf_eq hyb.1 hyb.2
    have hPe : P = (s ++ [byteOf y], st2) := by
      have h1 := HQ1.out
      rw [← HP.out]; unfold bentF
      simp [h1, hq2]
    generalize byteOf y = u at hyu hPe
    subst hyu
    clear hq2 HP
    go_wp2_with (fail)
    go_at_call 67
    refine H.mono ?_
    rintro e w3 ⟨rfl, hc3, hg3⟩
    have hu0 : (0 : Int) ≤ (u.toNat : Int) := by omega
    have hu1 : (u.toNat : Int) ≤ 255 := hyb.2
    have hR3 := room_gb HR2.out hg3 (by omega)
    obtain ⟨g', cap', w5, hap, hat, hbl⟩ := push_room u hR3 (by omega)
    have hbk := Bys.back w5 g' cap' (s ++ [u]) hat
    rw [List.length_append, show [u].length = 1 from rfl] at hbk
    have hb5 := hbl w.heap.size w3 (Below.refl _ _) (Nat.le_refl _) (gb_trans HG2.out hg3).size
    have hb6 := hbl (w.heap.size) w3 (Below.refl _ _) (Nat.le_refl _) (gb_trans HG2.out hg3).size
    have HE := Lib.hid (And.intro (curS_same hc3 (hb6.block c hcl)) (gb_below (gb_trans HG2.out hg3) hb5))
    unfold Bys.bvl at hap
    have HPe := Lib.hid hPe
    clear hPe
    generalize s ++ [u] = r at hbk HPe
    clear H hy hyb hc2 hc3 hy2 hg3 hR3 hat hbl hb5 hb6
    go_wp2_with (at_builtin; refine append_run rfl (.tmp 36) (.tmp 41) _ rfl rfl rfl hap ?_)
    go_ret
    obtain rfl := HPe.out
    exact ⟨rfl, HE.out.1, HE.out.2⟩
  by_cases e3 : n = 3
  · subst e3
    by_cases h0 : 0 < s.length
    · have hsi : (0 : Int) < (s.length : Int) := by omega
      clear hbk0
      go_wp2_with (fail)
      go_at_call 66
      have hx := belowF_under κ (s.length : Int) st1
      have k2 := below_fn c B bv κ st1 (s.length : Int) _ hc2 hy2 hB (by omega)
      rcases hq2 : belowF κ (s.length : Int) st1 with ⟨x, st2⟩
      rw [hq2] at hx k2
      have hx0 : (0 : Int) ≤ x := hx.1
      have hx1 : x < (s.length : Int) ∨ _ := hx.2
      obtain ⟨j, rfl, hj⟩ : ∃ j : Nat, x = (j : Int) ∧ j < s.length := ⟨x.toNat, by omega, by omega⟩
      have HQ2 := Lib.hid hq2
      clear hq2 hx0 hx1
      refine k2.mono ?_
      rintro e w3 ⟨rfl, hc3, hg3⟩
      clear k2
      have hPe : P = ([] ++ s.take j ++ s.drop (j + 1), st2) := by
        have h1 := HQ1.out; have h2 := HQ2.out
        rw [← HP.out]; unfold bentF
        simp [h1, h2, h0]
      have HPe := Lib.hid hPe
      clear hPe
      have hR3 := room_gb HR2.out hg3 (by omega)
      have hjc : j ≤ cap := Nat.le_trans (Nat.le_of_lt hj) hR3.2.1
      have hjc1 : j + 1 ≤ cap := Nat.le_trans hj hR3.2.1
      have HPRE : Hid (∀ u, Below w3.heap.size w3 u → Rec.Holds 1 ucs 0 u w3.heap.size (.slice (some ⟨w.heap.size, 0, none⟩) j cap) (s.take j)) := Lib.hid (fun u hu => Rec.holds_below (u_pre hR3 (Nat.le_of_lt hj)) hu)
      have HSUF : Hid (∀ u, Below w3.heap.size w3 u → Rec.Holds 1 ucs 0 u w3.heap.size (.slice (if cap = j + 1 then some ⟨w.heap.size, 0, none⟩ else some ⟨w.heap.size, j + 1, none⟩) (s.length - (j + 1)) (cap - (j + 1))) (s.drop (j + 1))) := Lib.hid (fun u hu => Rec.holds_below (u_suf hR3 hj) hu)
      have HBD : Hid (Below w3.heap.size w3 w3.drew) := Lib.hid (Below.refl _ _).drew
      have HSD : Hid (Hid (Below w3.heap.size w3 w3.drew)) := Lib.hid HBD
      have SA : Hid (∀ (u : World) (o : Obj), Hid (Below w3.heap.size w3 u) → Hid (Below w3.heap.size w3 (u.alloc o))) := Lib.hid (fun u o hb => Lib.hid (u_ba hb.out o))
      have HBA : Hid (Below w3.heap.size w3 (w3.alloc (.cells #[] 5)).drew) := Lib.hid (u_ba (Below.refl _ _) _).drew
      have HO3 : Hid ((w3.alloc (.cells #[] 5)).drew.ownsRow w3.heap.size 5 1 (.slice (some ⟨w3.heap.size, 0, none⟩) 0 0) ([] : List UInt8).length (Rec.flat ucs [])) := Lib.hid (u_nil (w := w3) (Nat.le_refl _) rfl)
      have HC3 := Lib.hid hc3
      have HG3 := Lib.hid (gb_trans HG2.out hg3)
      have hj0 : (0 : Int) ≤ (j : Int) := by omega
      have hjt : ((j : Int)).toNat = j := by omega
      have hji : (j : Int) < (s.length : Int) := by omega
      have hjci : (j : Int) ≤ (cap : Int) := by omega
      have hjs : (j : Int) + 1 ≤ (s.length : Int) := by omega
      have hj10 : (0 : Int) ≤ (j : Int) + 1 := by omega
      have hj11 : ((j : Int) + 1).toNat = j + 1 := by omega
      have hj12 : ¬ (j : Int) + 1 < 0 := by omega
      have hj13 : ¬ (s.length : Int) < (j : Int) + 1 := by omega
      have hw : IntKind.i64.wrap ((j : Int) + 1) = (j : Int) + 1 := IntWalk.i64_in _ (by omega)
      have hjc2 : (j : Int) + 1 ≤ (cap : Int) := by omega
      have hslc : s.length ≤ cap := HR2.out.2.1
      have hslci : (s.length : Int) ≤ (cap : Int) := by omega
      clear hx hc2 hc3 hy2 hg3 hR3
      go_wp2
      go_region_held_law (fun u => Hid (Below w3.heap.size w3 u))
        (first | exact HSD.out | exact Lib.hid (u_ba HBD.out _) | exact HB5 | exact HB3 | go_keep)
        (first
          | (refine Rec.step_holds ucs_len ucs_one (by rfl) (.tmp 52) (.tmp 55) 22 5 (by rfl) Tryd.underlying22 hi hz0 hz1 hz2 (by rfl) (by decide) (by rfl) (by rfl) HO3.out (HPRE.out _ HBA.out) (by simp only [List.length_take, List.length_nil, List.length_append, List.length_cons, List.length_drop]; unfold maxLen; omega) (by simp only [List.length_take, List.length_nil, List.length_append, List.length_cons, List.length_drop]; omega) HBA.out.size ?_; intro v1 w4 hown1 hgrow1; have HB3 : Hid (Below w3.heap.size w3 w4) := Lib.hid (u_bg HBA.out HO3.out (Nat.le_refl _) hgrow1))
          | (refine Rec.step_holds ucs_len ucs_one (by rfl) (.tmp 56) (.tmp 60) 22 5 (by rfl) Tryd.underlying22 hi hz0 hz1 hz2 (by rfl) (by decide) (by rfl) (by rfl) hown1 (HSUF.out _ HB3.out) (by simp only [List.length_take, List.length_nil, List.length_append, List.length_cons, List.length_drop]; unfold maxLen; omega) (by simp only [List.length_take, List.length_nil, List.length_append, List.length_cons, List.length_drop]; omega) HB3.out.size ?_; intro v2 w5 hown2 hgrow2; have HB5 : Hid (Below w3.heap.size w3 w5) := Lib.hid (u_bg HB3.out hown1 (Nat.le_refl _) hgrow2))
          | fail)
      all_goals (
        rw [flat_ucs] at hown2
        have hbk := Bys.own_str hown2
        have HE := Lib.hid (And.intro (curS_same HC3.out (HB5.out.block c (curS_lt HC3.out))) (gb_below HG3.out (HB5.out.mono HG3.out.size)))
        generalize [] ++ s.take j ++ s.drop (j + 1) = r at hbk HPe
        clear hown1 hgrow1 HB3 hown2 hgrow2 HB5 HPRE HSUF
        go_wp2
        all_goals go_ret
        all_goals (obtain rfl := HPe.out; exact ⟨rfl, HE.out.1, HE.out.2⟩))
    · have hsi : ¬ (0 : Int) < (s.length : Int) := by omega
      have hPe : P = (s, st1) := by
        have h1 := HQ1.out
        rw [← HP.out]; unfold bentF
        simp [h1, h0]
      subst hPe
      have HC := Lib.hid hc2
      clear hc2 hy2
      go_wp2
      go_ret
      exact ⟨rfl, HC.out, HG2.out⟩
  · have hPe : P = (s, st1) := by
      have h1 := HQ1.out
      rw [← HP.out]; unfold bentF
      simp [h1, e0, e1, e2, e3]
    subst hPe
    have HC := Lib.hid hc2
    clear hc2 hy2
    go_wp2
    go_ret
    exact ⟨rfl, HC.out, HG2.out⟩
end Go.Proofs.YtobhdfkhfmpdlaaDoor.Cf

/-
  CONTRACT of the model's l1New, as a function: the cursor that it makes stands at the first byte, with a number that the bytes tell.
-/
namespace Go.Proofs.YtobhdfkhfmpdlaaDoor.Cf
open Go Go.RowKit Cur
set_option linter.unusedVariables false
set_option maxRecDepth 1000000

def foldH (κ : Src) : Nat → Int
  | 0 => 271091 + (κ.1 : Int)
  | k + 1 => bits .and .i64 (wrap64 (wrap64 (wrap64 (foldH κ k * 139) + κ.2 k) + 11)) 1073741823
def newH (κ : Src) : Int := foldH κ (min κ.1 4000)
def MadeF (κ : Src) (bv : Value) (w : World) (e : Ending) (w' : World) : Prop := e = .returned (.pointer (some ⟨w.heap.size, 0, none⟩)) ∧ w' = w.alloc (.cells #[bv, .int .i64 0, .int .i64 (newH κ)] 89)

theorem new_fn (B : Nat) (bv : Value) (κ : Src) (w : World) (hby : BytesS w B bv κ) :
    Calls Tryd.prog 27 #[bv] w (MadeF κ bv w) := by
  obtain ⟨len, f⟩ := κ
  obtain ⟨a, cap, rfl, ha⟩ := hby
  have HF : Hid (0 < len → ∃ b off, a = some ⟨b, off, none⟩ ∧ len ≤ 140737488355328 ∧ ∀ j, j < len → 0 ≤ f j ∧ f j ≤ 255 ∧ w.cell? ⟨b, off + j, none⟩ = some (.int .u8 (f j))) := Lib.hid (fun h => by
    obtain ⟨b, off, h1, _, _, h4, h5⟩ := ha h; exact ⟨b, off, h1, h4, h5⟩)
  clear ha
  by_cases h0 : 0 < len
  · obtain ⟨b, off, rfl, hl, hf⟩ := HF.out h0
    have HF := Lib.hid hf
    clear hf
    show Calls _ _ #[.slice (some ⟨b, off, none⟩) len cap] w (MadeF (len, f) (.slice (some ⟨b, off, none⟩) len cap) w)
    have HS : Hid (271091 + (len : Int) = foldH (len, f) 0) := Lib.hid rfl
    go_enter Tryd.func27, Tryd.ntmps27
    go_wp2
    go_loop [3, 4] (fun h i => ∃ (k : Nat), k ≤ len ∧ k ≤ 4000 ∧ i = .int .i64 k ∧ h = .int .i64 (foldH (len, f) k)) (fun _ i => len - (intOf i).toNat)
    case atStart => exact ⟨0, Nat.zero_le _, by omega, rfl, by rw [← HS.out]⟩
    case round =>
      obtain ⟨k, hk, hk4, rfl, rfl⟩ := hrel
      have HX : Hid (bits .and .i64 (wrap64 (wrap64 (wrap64 (foldH (len, f) k * 139) + f k) + 11)) 1073741823 = foldH (len, f) (k + 1)) := Lib.hid rfl
      have HE : Hid (k = min len 4000 → foldH (len, f) k = newH (len, f)) := Lib.hid (fun h => by unfold newH; rw [h])
      generalize foldH (len, f) k = x at HX HE ⊢
      by_cases hlt : k < len
      · by_cases h4 : (k : Int) < 4000
        · obtain ⟨z0, z1, hc⟩ := HF.out k hlt
          generalize f k = z at z0 z1 hc HX
          go_wp2
          go_round
          case rel => exact ⟨k + 1, by omega, by omega, by go_num, by rw [← HX.out]⟩
          case measure => simp [intOf]; omega
        · have hq := HE.out (by omega)
          go_wp2
          go_ret
          exact ⟨rfl, by rw [← hq]⟩
      · have hq := HE.out (by omega)
        go_wp2
        go_ret
        exact ⟨rfl, by rw [← hq]⟩
  · obtain rfl : len = 0 := by omega
    have HN : Hid (271091 = newH (0, f)) := Lib.hid (by unfold newH; rfl)
    clear HF
    show Calls _ _ #[.slice a 0 cap] w (MadeF (0, f) (.slice a 0 cap) w)
    go_enter Tryd.func27, Tryd.ntmps27
    go_wp2
    go_loop [3, 4] (fun h i => i = .int .i64 0 ∧ h = .int .i64 271091) (fun _ i => 0)
    case atStart => exact ⟨rfl, rfl⟩
    case round =>
      obtain ⟨rfl, rfl⟩ := hrel
      go_wp2
      go_ret
      exact ⟨rfl, by rw [← HN.out]⟩
theorem made_curS (bv : Value) (h : Int) (w : World) : CurS (w.alloc (.cells #[bv, .int .i64 0, .int .i64 h] 89)) w.heap.size bv (0, h) :=
  ⟨Int.le_refl _, by show (w.heap.push _)[w.heap.size]? = _; simp⟩
end Go.Proofs.YtobhdfkhfmpdlaaDoor.Cf

/-
  PLAIN FACTS on texts as lists of bytes: tokens, lower case, blanks at both ends, quoted strings, pairs, lists at commas.
-/
namespace Go.Proofs.YtobhdfkhfmpdlaaDoor.Tx
open Go
set_option linter.unusedVariables false
set_option maxRecDepth 1000000

/-! tokens -/
def marks : List UInt8 := [33, 35, 36, 37, 38, 39, 42, 43, 45, 46, 94, 95, 124, 126, 96]
def letc (c : UInt8) : Bool := decide (97 ≤ c.toNat ∧ c.toNat ≤ 122) || decide (65 ≤ c.toNat ∧ c.toNat ≤ 90) || decide (48 ≤ c.toNat ∧ c.toNat ≤ 57)
def tokc (c : UInt8) : Bool := marks.contains c || letc c
def token (l : List UInt8) : Bool := l.all tokc && decide (1 ≤ l.length ∧ l.length ≤ 40)

/-! lower case -/
def upc (c : UInt8) : Bool := decide (65 ≤ c.toNat ∧ c.toNat ≤ 90)
def lowc (c : UInt8) : UInt8 := if upc c then c + 32 else c
def lower (l : List UInt8) : List UInt8 := l.map lowc
theorem lowc_up {c : UInt8} (h : upc c = true) : ((lowc c).toNat : Int) = c.toNat + 32 := by
  unfold lowc; rw [if_pos h]
  unfold upc at h; simp at h
  have : (c + 32).toNat = (c.toNat + 32) % 256 := UInt8.toNat_add c 32
  rw [this]; omega
theorem lowc_no {c : UInt8} (h : upc c = false) : lowc c = c := by unfold lowc; simp [h]
theorem upc_low (c : UInt8) : upc (lowc c) = false := by
  by_cases h : upc c = true
  · have e := lowc_up h
    unfold upc at h ⊢; simp at h ⊢; omega
  · rw [lowc_no (by simpa using h)]; simpa using h
theorem lower_lower (l : List UInt8) : lower (lower l) = lower l := by
  unfold lower; rw [List.map_map]
  apply List.map_congr_left; intro c _
  exact lowc_no (upc_low c)

/-! blanks -/
def blk (c : UInt8) : Bool := c == 32 || c == 9
def triml (l : List UInt8) : List UInt8 := l.dropWhile blk
def trimr (l : List UInt8) : List UInt8 := (l.reverse.dropWhile blk).reverse
def trim (l : List UInt8) : List UInt8 := triml (trimr l)
theorem blk_set : (fun b : UInt8 => [32, 9].contains b) = blk := by
  funext b
  unfold blk
  simp only [List.contains, List.elem]
  cases (b == 32) <;> cases (b == 9) <;> rfl
theorem trim_set (l : List UInt8) : Lib.trimS l [32, 9] = trim l := by
  unfold Lib.trimS Lib.trimLeftS Lib.trimRightS trim triml trimr
  rw [show (fun x : UInt8 => [32, 9].contains x) = blk from blk_set]
theorem triml_cons_blk {c : UInt8} {l : List UInt8} (h : blk c = true) : triml (c :: l) = triml l := by unfold triml; rw [List.dropWhile_cons_of_pos h]
theorem triml_cons_no {c : UInt8} {l : List UInt8} (h : blk c = false) : triml (c :: l) = c :: l := by unfold triml; rw [List.dropWhile_cons_of_neg (by simp [h])]
theorem triml_nil : triml [] = [] := rfl
theorem trimr_nil : trimr [] = [] := rfl
theorem trimr_snoc_blk {c : UInt8} {l : List UInt8} (h : blk c = true) : trimr (l ++ [c]) = trimr l := by
  unfold trimr; rw [List.reverse_append]; simp [List.dropWhile_cons_of_pos h]
theorem trimr_snoc_no {c : UInt8} {l : List UInt8} (h : blk c = false) : trimr (l ++ [c]) = l ++ [c] := by
  unfold trimr; rw [List.reverse_append]; simp [List.dropWhile_cons_of_neg (show ¬ blk c = true by simp [h])]
/-- Nothing to trim in front; behind. -/
def Lok (l : List UInt8) : Prop := ∀ c t, l = c :: t → blk c = false
def Rok (l : List UInt8) : Prop := ∀ c t, l = t ++ [c] → blk c = false
theorem triml_lok (l : List UInt8) : Lok (triml l) := by
  induction l with
  | nil => intro c t h; simp [triml] at h
  | cons a r ih =>
    by_cases h : blk a = true
    · rw [triml_cons_blk h]; exact ih
    · rw [triml_cons_no (by simpa using h)]
      intro c t e; injection e with e1 e2; subst e1; simpa using h
theorem triml_of_lok {l : List UInt8} (h : Lok l) : triml l = l := by
  cases l with
  | nil => rfl
  | cons a r => exact triml_cons_no (h a r rfl)
theorem snoc_cases (l : List UInt8) : l = [] ∨ ∃ t c, l = t ++ [c] := by
  rcases List.eq_nil_or_concat l with h | ⟨t, c, h⟩
  · exact Or.inl h
  · exact Or.inr ⟨t, c, by simpa using h⟩
theorem trimr_of_rok {l : List UInt8} (h : Rok l) : trimr l = l := by
  rcases snoc_cases l with rfl | ⟨t, c, rfl⟩
  · rfl
  · exact trimr_snoc_no (h c t rfl)
theorem trimr_rok (l : List UInt8) : Rok (trimr l) := by
  have key : ∀ n (l : List UInt8), l.length = n → Rok (trimr l) := by
    intro n
    induction n with
    | zero => intro l hl; rw [List.length_eq_zero_iff.1 hl]; intro c t e; simp [trimr] at e
    | succ n ih =>
      intro l hl
      rcases snoc_cases l with rfl | ⟨t, c, rfl⟩
      · simp at hl
      · by_cases h : blk c = true
        · rw [trimr_snoc_blk h]; exact ih t (by simp at hl; omega)
        · rw [trimr_snoc_no (by simpa using h)]
          intro c' t' e
          have := List.append_inj_right' e rfl
          simp at this; subst this; simpa using h
  exact key _ l rfl
/-- Taking blanks away in front leaves the end, unless nothing is left. -/
theorem triml_suffix (l : List UInt8) : ∃ p, l = p ++ triml l ∧ ∀ c ∈ p, blk c = true := by
  induction l with
  | nil => exact ⟨[], rfl, by simp⟩
  | cons a r ih =>
    by_cases h : blk a = true
    · rw [triml_cons_blk h]
      obtain ⟨p, e, hp⟩ := ih
      exact ⟨a :: p, by rw [List.cons_append, ← e], by intro c hc; rcases List.mem_cons.1 hc with rfl | hc; exact h; exact hp c hc⟩
    · rw [triml_cons_no (by simpa using h)]; exact ⟨[], rfl, by simp⟩
theorem trimr_prefix (l : List UInt8) : ∃ q, l = trimr l ++ q ∧ ∀ c ∈ q, blk c = true := by
  obtain ⟨p, e, hp⟩ := triml_suffix l.reverse
  refine ⟨p.reverse, ?_, fun c hc => hp c (by simpa using hc)⟩
  have : trimr l = (triml l.reverse).reverse := rfl
  rw [this, ← List.reverse_append, ← e, List.reverse_reverse]
theorem rok_triml {l : List UInt8} (h : Rok l) : Rok (triml l) := by
  intro c t e
  obtain ⟨p, e', _⟩ := triml_suffix l
  rw [e] at e'
  exact h c (p ++ t) (by rw [e', List.append_assoc])
theorem trim_lok (l : List UInt8) : Lok (trim l) := triml_lok _
theorem trim_rok (l : List UInt8) : Rok (trim l) := rok_triml (trimr_rok l)
theorem trim_of_ok {l : List UInt8} (h1 : Lok l) (h2 : Rok l) : trim l = l := by unfold trim; rw [trimr_of_rok h2, triml_of_lok h1]
theorem trim_trim (l : List UInt8) : trim (trim l) = trim l := trim_of_ok (trim_lok l) (trim_rok l)
theorem dw_nil (l : List UInt8) (h : l.dropWhile blk = []) : ∀ c ∈ l, blk c = true := by
  induction l with
  | nil => intro c hc; cases hc
  | cons a r ih =>
    by_cases ha : blk a = true
    · rw [List.dropWhile_cons_of_pos ha] at h
      intro c hc
      rcases List.mem_cons.1 hc with rfl | hc
      · exact ha
      · exact ih h c hc
    · rw [List.dropWhile_cons_of_neg ha] at h; cases h
/-- Both orders give the same. -/
theorem trimr_triml (l : List UInt8) : trimr (triml l) = trim l := by
  have key : ∀ n (l : List UInt8), l.length = n → trimr (triml l) = triml (trimr l) := by
    intro n
    induction n with
    | zero => intro l hl; rw [List.length_eq_zero_iff.1 hl]; rfl
    | succ n ih =>
      intro l hl
      cases l with
      | nil => simp at hl
      | cons a r =>
        by_cases ha : blk a = true
        · rw [triml_cons_blk ha, ih r (by simpa using hl)]
          by_cases hr : ∀ c ∈ r, blk c = true
          · have all_nil : ∀ m : List UInt8, (∀ c ∈ m, blk c = true) → triml m = [] := by
              intro m hm
              induction m with
              | nil => rfl
              | cons x y ih2 => rw [triml_cons_blk (hm x (by simp))]; exact ih2 (fun c hc => hm c (by simp [hc]))
            have t1 : triml (trimr r) = [] := all_nil _ (fun c hc => hr c (by
              obtain ⟨q, e, _⟩ := trimr_prefix r
              rw [e]; exact List.mem_append_left _ hc))
            have t2 : triml (trimr (a :: r)) = [] := all_nil _ (fun c hc => by
              obtain ⟨q, e, _⟩ := trimr_prefix (a :: r)
              have : c ∈ a :: r := by rw [e]; exact List.mem_append_left _ hc
              rcases List.mem_cons.1 this with rfl | h
              · exact ha
              · exact hr c h)
            rw [t1, t2]
          · have e : trimr (a :: r) = a :: trimr r := by
              unfold trimr
              rw [List.reverse_cons]
              have hne : (r.reverse.dropWhile blk) ≠ [] := by
                intro hnil
                apply hr
                intro c hc
                exact dw_nil _ hnil c (by simpa using hc)
              have : (r.reverse ++ [a]).dropWhile blk = r.reverse.dropWhile blk ++ [a] := by
                rw [List.dropWhile_append]
                simp [hne]
              rw [this, List.reverse_append]; rfl
            rw [e, triml_cons_blk ha]
        · have ha' : blk a = false := by simpa using ha
          rw [triml_cons_no ha']
          have e : triml (trimr (a :: r)) = trimr (a :: r) := by
            apply triml_of_lok
            intro c t e
            obtain ⟨q, e', hq⟩ := trimr_prefix (a :: r)
            rw [e] at e'; injection e' with e1 _; subst e1; exact ha'
          rw [e]
  exact key _ l rfl

/-! quoted strings -/
def qot (c : UInt8) : List UInt8 := if c == 34 || c == 92 then [92, c] else [c]
def quo (l : List UInt8) : List UInt8 := 34 :: (l.flatMap qot ++ [34])
/-- What is read behind the first byte; and what stands behind the closing sign. -/
def unq : List UInt8 → List UInt8 × Option (List UInt8)
  | [] => ([], none)
  | [c] => if c == 34 then ([], some []) else ([c], none)
  | c :: d :: r => if c == 34 then ([], some (d :: r)) else if c == 92 then (d :: (unq r).1, (unq r).2) else (c :: (unq (d :: r)).1, (unq (d :: r)).2)
def unqText (l : List UInt8) : List UInt8 := (unq (l.drop 1)).1
def unqOk (l : List UInt8) : Bool := (l.head? == some 34) && ((unq (l.drop 1)).2 == some [])
theorem unq_quote (l r : List UInt8) : unq (l.flatMap qot ++ 34 :: r) = (l, some r) := by
  induction l with
  | nil => cases r <;> simp [unq]
  | cons c t ih =>
    rw [List.flatMap_cons, List.append_assoc]
    by_cases h : c == 34 || c == 92
    · have : qot c = [92, c] := by unfold qot; rw [if_pos h]
      rw [this, List.cons_append, List.cons_append, List.nil_append, unq, if_neg (by decide), if_pos (by decide), ih]
    · have hq : qot c = [c] := by unfold qot; rw [if_neg h]
      rw [hq, List.cons_append, List.nil_append]
      have h34 : ¬ (c == 34) = true := by intro hc; exact h (by simp [hc])
      have h92 : ¬ (c == 92) = true := by intro hc; exact h (by simp [hc])
      cases hx : (t.flatMap qot ++ 34 :: r) with
      | nil => simp at hx
      | cons d u =>
        rw [unq, if_neg h34, if_neg h92, ← hx, ih]
theorem unq_of_quo (l : List UInt8) : unqText (quo l) = l ∧ unqOk (quo l) = true := by
  unfold unqText unqOk quo
  simp [unq_quote l []]

/-! pairs -/
def idx (c : UInt8) : List UInt8 → Nat
  | [] => 0
  | a :: r => if a == c then 0 else idx c r + 1
theorem idx_le (c : UInt8) (l : List UInt8) : idx c l ≤ l.length := by
  induction l with
  | nil => simp [idx]
  | cons a r ih => unfold idx; split <;> simp <;> omega
theorem index_idx (c : UInt8) (l : List UInt8) : Lib.index l [c] = if idx c l < l.length then (idx c l : Int) else -1 := by
  induction l with
  | nil => simp [Lib.index, idx]
  | cons a r ih =>
    unfold Lib.index idx
    by_cases h : a == c
    · have : a = c := by simpa using h
      subst this
      simp [List.isPrefixOf]
    · have hp : List.isPrefixOf [c] (a :: r) = false := by
        have : (c == a) = false := by
          rw [Bool.eq_false_iff]; intro hc; apply h
          have : c = a := by simpa using hc
          subst this; simp
        simp [List.isPrefixOf, this]
      rw [if_neg (by simp [hp]), if_neg h, ih]
      by_cases hl : idx c r < r.length
      · have hn : ((idx c r : Int) == -1) = false := by rw [beq_eq_false_iff_ne]; omega
        rw [if_pos hl, hn, if_neg (by simp), if_pos (by simp; omega)]; omega
      · rw [if_neg hl, if_pos (by decide), if_neg (by simp; omega)]
def cutAt (c : UInt8) (l : List UInt8) : List UInt8 × List UInt8 × Bool :=
  if idx c l < l.length then (l.take (idx c l), l.drop (idx c l + 1), true) else (l, [], false)
theorem cut_at (c : UInt8) (l : List UInt8) : Lib.cut l [c] = cutAt c l := by
  unfold Lib.cut cutAt
  rw [index_idx]
  by_cases h : idx c l < l.length
  · rw [if_pos h, if_pos h, if_pos (by omega)]; simp
  · rw [if_neg h, if_neg h, if_neg (by omega)]
theorem idx_at (c : UInt8) (l : List UInt8) (h : idx c l < l.length) : l[idx c l] = c := by
  induction l with
  | nil => simp at h
  | cons a r ih =>
    unfold idx at h ⊢
    by_cases hc : a == c
    · simp [hc]; simpa using hc
    · simp [hc] at h ⊢; exact ih (by simpa [hc] using h)
theorem idx_before (c : UInt8) (l : List UInt8) (j : Nat) (h : j < idx c l) : ∀ hj : j < l.length, l[j] ≠ c := by
  induction l generalizing j with
  | nil => intro hj; simp at hj
  | cons a r ih =>
    intro hj
    unfold idx at h
    by_cases hc : a == c
    · simp [hc] at h
    · simp [hc] at h
      cases j with
      | zero => simp; simpa using hc
      | succ j => simp; exact ih j (by omega) _
theorem idx_eq {c : UInt8} {l : List UInt8} {k : Nat} (hk : k ≤ l.length) (h1 : ∀ j (hj : j < l.length), j < k → l[j] ≠ c) (h2 : ∀ h : k < l.length, l[k] = c) : idx c l = k := by
  rcases Nat.lt_trichotomy (idx c l) k with h | h | h
  · exact absurd (idx_at c l (by omega)) (h1 _ (by omega) h)
  · exact h
  · have hkl : k < l.length := by have := idx_le c l; omega
    exact absurd (h2 hkl) (idx_before c l k h hkl)
end Go.Proofs.YtobhdfkhfmpdlaaDoor.Tx
