/-
  CONTRACTS AND PLAIN FACTS, several texts in one; each says in its own words what it proves.
-/
import Derived.Test.YtobhdfkhfmpdlaaGreatDoorPartI
import Derived.Test.YtobhdfkhfmpdlaaGreatDoorPartN
import Derived.Test.YtobhdfkhfmpdlaaGreatDoorPartM
import Derived.Test.YtobhdfkhfmpdlaaGreatDoorPartG
set_option linter.unusedSimpArgs false
set_option linter.unusedVariables false

/-
  THE WALK of the law of chapter 8.
-/
namespace Go.Proofs.YtobhdfkhfmpdlaaGreatDoor.fnRanges
open Go Go.RowKit
set_option linter.unusedVariables false
set_option maxRecDepth 1000000

def GrowS (w wr w' : World) : Prop := Below wr.heap.size wr w' ∧ Below w.heap.size w w'
theorem grow_old {w wr u : World} (h : GrowS w wr u) {b o : Nat} {x : Value} (hc : wr.cell? ⟨b, o, none⟩ = some x) : u.cell? ⟨b, o, none⟩ = some x := (h.1.cell (p := ⟨b, o, none⟩) (Rec.lt_of_cell hc)).trans hc
theorem spn_shape {w : World} {B : Nat} {v : Value} {l : List Spn.T} (h : Spn.Holds w B v l) : ∃ a cap, v = .slice a l.length cap ∧ (0 < l.length → ∃ b off, a = some ⟨b, off, none⟩ ∧ b < B ∧ Spn.At w b off l) := by
  rcases Spn.holds_iff h with ⟨rfl, a, cap, rfl⟩ | ⟨h0, b, off, cap, rfl, hb, _, hc⟩
  · exact ⟨a, cap, rfl, fun h => by simp at h⟩
  · exact ⟨_, cap, rfl, fun _ => ⟨b, off, rfl, hb, hc⟩⟩
theorem frng_len6 {l : List Asks.T} (hl : l.length ≤ 6) (hok : ∀ a ∈ l, Asks.Ok a) : (Rng.frng l).length ≤ 300 := by
  have key : ∀ m : List Asks.T, (∀ a ∈ m, Asks.Ok a) → ((Rng.fal m).map (·.length)).sum ≤ 41 * m.length := by
    intro m hm
    induction m with
    | nil => simp [Rng.fal]
    | cons a r ih =>
      have h1 := ih (fun b hb => hm b (by simp [hb]))
      have h2 := hm a (by simp)
      have h3 := Rng.fa_len (p := a.1) (q := a.2) h2.1 h2.2
      unfold Rng.fal at h1 ⊢
      simp only [List.map_cons, List.sum_cons, List.length_cons]
      omega
  have h1 := key l hok
  have h2 := Rng.fal_len l
  have h3 := Tx.join_len (Rng.fal l) (Rng.fal l).length (Nat.le_refl _)
  rw [List.take_length] at h3
  have h4 := Tx.pre_le (Rng.fal l) (Rng.fal l).length
  unfold Rng.frng
  simp only [List.length_append, List.length_cons, List.length_nil]
  omega

set_option maxHeartbeats 16000000 in
theorem walk (b0 : Option Addr) (l0 c0 : Nat) (w0 : l0 ≤ maxLen) (w : World) (y0 : l0 ≤ 1048576 → Cur.Bytes w w.heap.size (.slice b0 l0 c0)) (ht : Fmt.Tens w) (her : Par.Errs w) (hnb : ∃ ea, Rng.NoB w ea) :
    Calls Tryz.prog 3 #[.slice b0 l0 c0] w fun e w' => e = .returned (.bool true) ∧ Below w.heap.size w w' := by
  clear w0
  obtain ⟨ea, hnb⟩ := hnb
  have HT := Lib.hid ht
  have HE := Lib.hid her
  have HNB := Lib.hid hnb
  clear ht her hnb
  by_cases hbig : 1048576 < (l0 : Int)
  · go_enter Tryz.func3, Tryz.ntmps3
    go_wp2_with (go_at_call 4; refine (Cur.big_yes _ _ _ _ hbig).mono ?_; rintro e w' ⟨rfl, rfl⟩)
    go_ret
    exact ⟨rfl, Below.refl _ _⟩
  obtain ⟨κ, hκ⟩ := Cf.bytes_some (y0 (by omega))
  have HBY := Lib.hid hκ
  have HD := Lib.hid (fun (W : World) (hy : Cf.BytesS W w.heap.size (.slice b0 l0 c0) κ) (hB : w.heap.size ≤ W.heap.size) => Cf.draw8_fn w.heap.size (.slice b0 l0 c0) κ W hy hB)
  have HDR := Lib.hid (fun (W : World) (hy : Cf.BytesS W w.heap.size (.slice b0 l0 c0) κ) (hB : w.heap.size ≤ W.heap.size) => Cf.draw_rv w.heap.size (.slice b0 l0 c0) κ W hy hB)
  have hsl := Cf.draw8F_len κ
  generalize Cf.draw8F κ = s at HD hsl
  clear y0 hκ
  have HP1 := Lib.hid (fun W (ht : Fmt.Tens W) (he : Par.Errs W) => Rng.impl_prs s W (by omega) ht he)
  have HP2 := Lib.hid (fun W => Rng.spec_prs s W (by omega))
  have HBK := Lib.hid (Rlw.prs_back s)
  have hok := Rlw.prs_ok s
  have hl6 := Rng.prs_len s
  unfold Rng.PrsEnd at HP1 HP2
  obtain ⟨l, ok, hp⟩ : ∃ l ok, Rng.prs s = (l, ok) := ⟨_, _, rfl⟩
  rw [hp] at HP1 HP2 HBK hok hl6
  dsimp only at HP1 HP2 HBK hok hl6
  have htl := frng_len6 hl6 hok
  have HF := Lib.hid (fun (W : World) (v : Value) (h : Asks.Holds W W.heap.size v l) (ht : Fmt.Tens W) => Rng.impl_frng v W.heap.size l W h (Nat.le_refl _) (by omega) hok ht)
  unfold Crf.TxtEnd at HF
  generalize Rng.frng l = t at HF HBK htl
  have HP3 := Lib.hid (fun W (ht : Fmt.Tens W) (he : Par.Errs W) => Rng.impl_prs t W (by omega) ht he)
  unfold Rng.PrsEnd at HP3
  rw [HBK.out] at HP3
  dsimp only at HP3
  clear HBK htl hsl hp hok
  go_enter Tryz.func3, Tryz.ntmps3
  go_wp2_with (fail)
  go_at_call 4
  refine (Cur.big_no _ _ _ _ (by omega)).mono ?_
  rintro e w' ⟨rfl, rfl⟩
  go_wp2_with (fail)
  go_at_call 6
  refine (HD.out _ HBY.out (Nat.le_refl _)).mono ?_
  rintro e w1 ⟨rfl, b1⟩
  have B1 := Lib.hid b1
  clear b1
  go_wp2_with (fail)
  go_at_call 5
  refine (HP1.out _ (Fmt.tens_below HT.out B1.out) (Par.errs_below HE.out B1.out)).mono ?_
  rintro e w2 ⟨v, rfl, ho, b2⟩
  have B2 := Lib.hid (Base.then_below B1.out b2)
  obtain ⟨a, cap, rfl, ha⟩ := Rng.shape (Asks.own_holds ho)
  have HH2 : Hid (Asks.Holds w2 w2.heap.size (.slice a l.length cap) l) := Lib.hid (Asks.own_holds ho)
  clear b2 ho ha HP1 B1
  go_wp2_with (fail)
  go_at_call 6
  refine (HD.out _ (Cf.bytesS_below HBY.out B2.out) B2.out.size).mono ?_
  rintro e w3 ⟨rfl, b3⟩
  have B3 := Lib.hid b3
  clear b3 HD
  go_wp2_with (fail)
  go_at_call 7
  refine (HP2.out _).mono ?_
  rintro e w4 ⟨v', rfl, ho', b4⟩
  have B4 := Lib.hid (Base.then_below B3.out b4)
  have HH4 : Hid (Asks.Holds w4 w4.heap.size (.slice a l.length cap) l) := Lib.hid (Asks.holds_more (Asks.holds_below HH2.out B4.out) B4.out.size)
  have HW4 := Lib.hid (B2.out.trans (B4.out.mono B2.out.size))
  clear b4 ho' HP2 B3
  have hnn : (!ok == ok) = false := by cases ok <;> rfl
  cases ok with
  | true =>
    go_wp2_with (fail)
    go_at_call 8
    refine (HF.out _ _ HH4.out (Fmt.tens_below HT.out HW4.out)).mono ?_
    rintro e w5 ⟨rfl, b5⟩
    have B5 := Lib.hid (Base.then_below B4.out b5)
    have HW5 := Lib.hid (B2.out.trans (B5.out.mono B2.out.size))
    clear b5 HF HH4 B4
    go_wp2_with (fail)
    go_at_call 5
    refine (HP3.out _ (Fmt.tens_below HT.out HW5.out) (Par.errs_below HE.out HW5.out)).mono ?_
    rintro e w7 ⟨v2, rfl, ho2, b7⟩
    have B7 := Lib.hid (Base.then_below B5.out b7)
    have HW7 := Lib.hid (B2.out.trans (B7.out.mono B2.out.size))
    have HH7 : Hid (Asks.Holds w7 w7.heap.size (.slice a l.length cap) l) := Lib.hid (Asks.holds_more (Asks.holds_below HH2.out B7.out) B7.out.size)
    obtain ⟨a2, cap2, rfl, ha2⟩ := Rng.shape (Asks.own_holds ho2)
    obtain ⟨a3, cap3, he3, ha3⟩ := Rng.shape HH7.out
    cases he3
    have HA2 := Lib.hid ha2
    have HA1 := Lib.hid ha3
    clear b7 ho2 ha2 ha3 HP3 B5 HH2 HH7 B7 B2 HW4 HW5 hnn
    go_wp2
    go_loopw [9] (fun i wr => ∃ k : Nat, k ≤ l.length ∧ i = .int .i64 (k : Int) ∧ Hid (Below w7.heap.size w7 wr)) (fun i _ => l.length - (intOf i).toNat)
    case atStart => exact ⟨0, Nat.zero_le _, rfl, Lib.hid (Below.refl _ _)⟩
    case round =>
      obtain ⟨k, hk, rfl, HG⟩ := hrel
      have HWR := Lib.hid (HW7.out.trans (HG.out.mono HW7.out.size))
      by_cases hlt : k < l.length
      · obtain ⟨b, off, rfl, hbl, hcp, hat⟩ := HA1.out (by omega)
        obtain ⟨b', off', rfl, hbl', hcp', hat'⟩ := HA2.out (by omega)
        obtain ⟨c0, c1⟩ := Asks.at_cells (Asks.at_below hat HG.out hbl) hlt
        obtain ⟨d0, d1⟩ := Asks.at_cells (Asks.at_below hat' HG.out hbl') hlt
        generalize l.getD k Asks.nov = d at c0 c1 d0 d1
        obtain ⟨x, y⟩ := d
        dsimp only at c0 c1 d0 d1
        have HSD : Hid (GrowS w wr wr.drew) := Lib.hid ⟨Rec.below_drew (Below.refl _ _), Rec.below_drew HWR.out⟩
        have e0 : ∀ u : RegS.In (GrowS w wr), u.w.cell? ⟨b, off + k * 2, none⟩ = some (.int .i64 x) := fun u => grow_old u.h c0
        have e1 : ∀ u : RegS.In (GrowS w wr), u.w.cell? ⟨b, off + k * 2 + 1, none⟩ = some (.int .i64 y) := fun u => grow_old u.h c1
        have f0 : ∀ u : RegS.In (GrowS w wr), u.w.cell? ⟨b', off' + k * 2, none⟩ = some (.int .i64 x) := fun u => grow_old u.h d0
        have f1 : ∀ u : RegS.In (GrowS w wr), u.w.cell? ⟨b', off' + k * 2 + 1, none⟩ = some (.int .i64 y) := fun u => grow_old u.h d1
        have hki : (k : Int) < (l.length : Int) := by omega
        clear c0 c1 d0 d1 hat hat'
        go_wp2
        refine RegS.region (GrowS w wr) (by kernel_rfl) (by kernel_rfl) HSD.out ?_
        haveI : Nonempty (RegS.In (GrowS w wr)) := ⟨⟨_, HSD.out⟩⟩
        repeat (first | go_big_quiet_step (fail) | quiet_step (fail))
        refine wpQuiet_nil ?_
        intro wz hw'
        obtain ⟨⟨wq, hSq⟩, hw''⟩ := hw'
        have hS : GrowS w wr wz := by rw [hw'']; exact hSq
        have HG8 := Lib.hid (Base.then_below HG.out hS.1)
        clear hw'' hSq hS e0 e1 f0 f1
        go_wp2
        go_roundw
        case rel => exact ⟨k + 1, by omega, by go_num, HG8⟩
        case measure => simp [intOf]; omega
      · have hki : ¬ (k : Int) < (l.length : Int) := by omega
        clear HA1 HA2 HG HW7
        go_wp2_with (fail)
        go_at_call 9
        refine (HDR.out _ (Cf.bytesS_below HBY.out HWR.out) HWR.out.size).mono ?_
        rintro e w9 ⟨va, asks, n, rfl, hal, hao, hn0, hn1, hoa, b9⟩
        have HW9 := Lib.hid (Base.then_below HWR.out b9)
        have hrl := Rng.rsv_len asks n
        have HIN := Lib.hid (Rlw.rsv_in (l := asks) (n := n) hao ⟨hn0, by omega⟩)
        have k9 := Rng.impl_rsv va w9.heap.size asks n ea w9 (Asks.own_holds hoa) (Nat.le_refl _) (by omega) (Rng.nob_below HNB.out HW9.out)
        unfold Rng.RsvEnd at k9
        generalize Rng.rsv asks n = sp at hrl HIN k9
        obtain ⟨aa, ca, rfl, haa⟩ := Rng.shape (Asks.own_holds hoa)
        clear b9 hao hoa haa HWR hki
        go_wp2_with (fail)
        go_at_call 10
        refine k9.mono ?_
        rintro e w10 ⟨vs, rfl, hos, b10⟩
        have HW10 := Lib.hid (Base.then_below HW9.out b10)
        obtain ⟨aas, cas, rfl, has⟩ := spn_shape (Spn.own_holds hos)
        have HAS := Lib.hid has
        clear b10 hos has k9 HW9
        go_wp2
        go_loopw [13] (fun i wr => ∃ k : Nat, k ≤ sp.length ∧ i = .int .i64 (k : Int) ∧ Hid (Below w10.heap.size w10 wr)) (fun i _ => sp.length - (intOf i).toNat)
        case atStart => exact ⟨0, Nat.zero_le _, rfl, Lib.hid (Below.refl _ _)⟩
        case round =>
          obtain ⟨k2, hk2, rfl, HG2⟩ := hrel
          have HWR2 := Lib.hid (HW10.out.trans (HG2.out.mono HW10.out.size))
          by_cases hlt2 : k2 < sp.length
          · obtain ⟨b2, o2, rfl, hbl2, hat2⟩ := HAS.out (by omega)
            obtain ⟨c0, c1⟩ := Spn.at_cells (Spn.at_below hat2 HG2.out hbl2) hlt2
            have hq := HIN.out _ (Rec.getD_mem (z := Spn.nov) hlt2)
            generalize sp.getD k2 Spn.nov = f at c0 c1 hq
            obtain ⟨p, q⟩ := f
            dsimp only at c0 c1 hq
            obtain ⟨hp0, hpq, hqn⟩ := hq
            have hp1 : ¬ p < 0 := by omega
            have hq1 : ¬ q ≤ p := by omega
            have hn2 : ¬ n < q := by omega
            have HSD : Hid (GrowS w wr wr.drew) := Lib.hid ⟨Rec.below_drew (Below.refl _ _), Rec.below_drew HWR2.out⟩
            have e0 : ∀ u : RegS.In (GrowS w wr), u.w.cell? ⟨b2, o2 + k2 * 2, none⟩ = some (.int .i64 p) := fun u => grow_old u.h c0
            have e1 : ∀ u : RegS.In (GrowS w wr), u.w.cell? ⟨b2, o2 + k2 * 2 + 1, none⟩ = some (.int .i64 q) := fun u => grow_old u.h c1
            have hki : (k2 : Int) < (sp.length : Int) := by omega
            have hP : Crf.In64 p := ⟨by omega, by omega⟩
            have hQ : Crf.In64 q := ⟨by omega, by omega⟩
            have hN : Crf.In64 n := ⟨by omega, by omega⟩
            have HCF := Lib.hid (fun W (ht : Fmt.Tens W) => Crf.impl_crf p q n W hP hQ hN ht)
            have hcl : (Crf.crf p q n).length ≤ 100 := by
              rw [Crf.crf_yes hpq]
              have h1 := Crf.il hP
              have h2 := Crf.il (n := q - 1) ⟨by omega, by omega⟩
              have h3 := Crf.il hN
              simp only [List.length_append, List.length_cons, List.length_nil]; omega
            have hpb := Rlw.pcr_back hp0 hpq hqn (by omega)
            unfold Crf.TxtEnd at HCF
            generalize Crf.crf p q n = t2 at HCF hcl hpb
            have HPC := Lib.hid (fun W (ht : Fmt.Tens W) (he : Par.Errs W) => Rng.impl_pcr t2 W (by omega) ht he)
            unfold Rng.PcrEnd at HPC
            rw [hpb] at HPC
            dsimp only at HPC
            have HC0 := Lib.hid c0
            have HC1 := Lib.hid c1
            clear c0 c1 hat2 hpb hcl hP hQ hN
            go_wp2
            refine RegS.region (GrowS w wr) (by kernel_rfl) (by kernel_rfl) HSD.out ?_
            haveI : Nonempty (RegS.In (GrowS w wr)) := ⟨⟨_, HSD.out⟩⟩
            repeat (first | go_big_quiet_step (fail) | quiet_step (fail))
            refine wpQuiet_nil ?_
            intro wz hw'
            obtain ⟨⟨wq, hSq⟩, hw''⟩ := hw'
            have hS : GrowS w wr wz := by rw [hw'']; exact hSq
            have z0 : wz.cell? ⟨b2, o2 + k2 * 2, none⟩ = some (.int .i64 p) := grow_old hS HC0.out
            have z1 : wz.cell? ⟨b2, o2 + k2 * 2 + 1, none⟩ = some (.int .i64 q) := grow_old hS HC1.out
            have HZ0 := Lib.hid z0
            have HZ1 := Lib.hid z1
            have HS := Lib.hid hS
            have HGz := Lib.hid (Base.then_below HG2.out hS.1)
            clear hw'' hSq hS e0 e1 HSD HC0 HC1
            go_wp2_with (fail)
            go_at_call 12
            refine (HCF.out _ (Fmt.tens_below HT.out HS.out.2)).mono ?_
            rintro e w11 ⟨rfl, b11⟩
            have HB11 := Lib.hid b11
            have HW11 := Lib.hid (Base.then_below HS.out.2 b11)
            clear z0 z1 b11 HCF
            go_wp2_with (fail)
            go_at_call 11
            refine (HPC.out _ (Fmt.tens_below HT.out HW11.out) (Par.errs_below HE.out HW11.out)).mono ?_
            rintro e w12 ⟨rfl, b12⟩
            have hbz := Base.then_below HB11.out b12
            have y0 : w12.cell? ⟨b2, o2 + k2 * 2, none⟩ = some (.int .i64 p) := (hbz.cell (p := ⟨b2, _, none⟩) (Rec.lt_of_cell HZ0.out)).trans HZ0.out
            have y1 : w12.cell? ⟨b2, o2 + k2 * 2 + 1, none⟩ = some (.int .i64 q) := (hbz.cell (p := ⟨b2, _, none⟩) (Rec.lt_of_cell HZ1.out)).trans HZ1.out
            have hba : Below w12.heap.size w12 (w12.alloc (.cells #[.int .i64 p, .int .i64 q] 35)) := (Below.refl _ _).alloc (Nat.le_refl _) _
            have HWV := Lib.hid ((Base.then_below HW11.out b12).alloc (Base.then_below HW11.out b12).size (.cells #[.int .i64 p, .int .i64 q] 35))
            have HGV := Lib.hid (Base.then_below (Base.then_below HGz.out hbz) hba)
            have v0 : (w12.alloc (.cells #[.int .i64 p, .int .i64 q] 35)).cell? ⟨b2, o2 + k2 * 2, none⟩ = some (.int .i64 p) := (hba.cell (p := ⟨b2, _, none⟩) (Rec.lt_of_cell y0)).trans y0
            have v1 : (w12.alloc (.cells #[.int .i64 p, .int .i64 q] 35)).cell? ⟨b2, o2 + k2 * 2 + 1, none⟩ = some (.int .i64 q) := (hba.cell (p := ⟨b2, _, none⟩) (Rec.lt_of_cell y1)).trans y1
            have n0 : (w12.alloc (.cells #[.int .i64 p, .int .i64 q] 35)).cell? ⟨w12.heap.size, 0, none⟩ = some (.int .i64 p) := by rw [World.cell?_alloc_new]; rfl
            have n1 : (w12.alloc (.cells #[.int .i64 p, .int .i64 q] 35)).cell? ⟨w12.heap.size, 1, none⟩ = some (.int .i64 q) := by rw [World.cell?_alloc_new]; rfl
            have HSD : Hid (GrowS w (w12.alloc (.cells #[.int .i64 p, .int .i64 q] 35)) (w12.alloc (.cells #[.int .i64 p, .int .i64 q] 35)).drew) := Lib.hid ⟨Rec.below_drew (Below.refl _ _), Rec.below_drew HWV.out⟩
            have e0 : ∀ u : RegS.In (GrowS w (w12.alloc (.cells #[.int .i64 p, .int .i64 q] 35))), u.w.cell? ⟨b2, o2 + k2 * 2, none⟩ = some (.int .i64 p) := fun u => grow_old u.h v0
            have e1 : ∀ u : RegS.In (GrowS w (w12.alloc (.cells #[.int .i64 p, .int .i64 q] 35))), u.w.cell? ⟨b2, o2 + k2 * 2 + 1, none⟩ = some (.int .i64 q) := fun u => grow_old u.h v1
            have e2 : ∀ u : RegS.In (GrowS w (w12.alloc (.cells #[.int .i64 p, .int .i64 q] 35))), u.w.cell? ⟨w12.heap.size, 0, none⟩ = some (.int .i64 p) := fun u => grow_old u.h n0
            have e3 : ∀ u : RegS.In (GrowS w (w12.alloc (.cells #[.int .i64 p, .int .i64 q] 35))), u.w.cell? ⟨w12.heap.size, 1, none⟩ = some (.int .i64 q) := fun u => grow_old u.h n1
            clear y0 y1 v0 v1 n0 n1 hba hbz b12 HPC
            go_wp2
            refine RegS.region (GrowS w (w12.alloc (.cells #[.int .i64 p, .int .i64 q] 35))) (by kernel_rfl) (by kernel_rfl) HSD.out ?_
            haveI : Nonempty (RegS.In (GrowS w (w12.alloc (.cells #[.int .i64 p, .int .i64 q] 35)))) := ⟨⟨_, HSD.out⟩⟩
            repeat (first | go_big_quiet_step (fail) | quiet_step (fail))
            refine wpQuiet_nil ?_
            intro wy hw'
            obtain ⟨⟨wq, hSq⟩, hw''⟩ := hw'
            have hS : GrowS w (w12.alloc (.cells #[.int .i64 p, .int .i64 q] 35)) wy := by rw [hw'']; exact hSq
            have HG8 := Lib.hid (Base.then_below HGV.out hS.1)
            clear hw'' hSq hS e0 e1 e2 e3
            go_wp2
            go_roundw
            case rel => exact ⟨k2 + 1, by omega, by go_num, HG8⟩
            case measure => simp [intOf]; omega
          · have hki : ¬ (k2 : Int) < (sp.length : Int) := by omega
            have hle : (sp.length : Int) ≤ (asks.length : Int) := by omega
            go_wp2
            go_ret
            exact ⟨by simp [hle], HWR2.out⟩
  | false =>
    go_wp2_with (fail)
    go_at_call 8
    refine (HF.out _ _ HH4.out (Fmt.tens_below HT.out HW4.out)).mono ?_
    rintro e w5 ⟨rfl, b5⟩
    have B5 := Lib.hid (Base.then_below B4.out b5)
    have HW5 := Lib.hid (B2.out.trans (B5.out.mono B2.out.size))
    clear b5 HF HH4 B4
    go_wp2_with (fail)
    go_at_call 5
    refine (HP3.out _ (Fmt.tens_below HT.out HW5.out) (Par.errs_below HE.out HW5.out)).mono ?_
    rintro e w7 ⟨v2, rfl, ho2, b7⟩
    have B7 := Lib.hid (Base.then_below B5.out b7)
    have HW7 := Lib.hid (B2.out.trans (B7.out.mono B2.out.size))
    have HH7 : Hid (Asks.Holds w7 w7.heap.size (.slice a l.length cap) l) := Lib.hid (Asks.holds_more (Asks.holds_below HH2.out B7.out) B7.out.size)
    obtain ⟨a2, cap2, rfl, ha2⟩ := Rng.shape (Asks.own_holds ho2)
    obtain ⟨a3, cap3, he3, ha3⟩ := Rng.shape HH7.out
    cases he3
    have HA2 := Lib.hid ha2
    have HA1 := Lib.hid ha3
    clear b7 ho2 ha2 ha3 HP3 B5 HH2 HH7 B7 B2 HW4 HW5 hnn
    go_wp2
    go_loopw [9] (fun i wr => ∃ k : Nat, k ≤ l.length ∧ i = .int .i64 (k : Int) ∧ Hid (Below w7.heap.size w7 wr)) (fun i _ => l.length - (intOf i).toNat)
    case atStart => exact ⟨0, Nat.zero_le _, rfl, Lib.hid (Below.refl _ _)⟩
    case round =>
      obtain ⟨k, hk, rfl, HG⟩ := hrel
      have HWR := Lib.hid (HW7.out.trans (HG.out.mono HW7.out.size))
      by_cases hlt : k < l.length
      · obtain ⟨b, off, rfl, hbl, hcp, hat⟩ := HA1.out (by omega)
        obtain ⟨b', off', rfl, hbl', hcp', hat'⟩ := HA2.out (by omega)
        obtain ⟨c0, c1⟩ := Asks.at_cells (Asks.at_below hat HG.out hbl) hlt
        obtain ⟨d0, d1⟩ := Asks.at_cells (Asks.at_below hat' HG.out hbl') hlt
        generalize l.getD k Asks.nov = d at c0 c1 d0 d1
        obtain ⟨x, y⟩ := d
        dsimp only at c0 c1 d0 d1
        have HSD : Hid (GrowS w wr wr.drew) := Lib.hid ⟨Rec.below_drew (Below.refl _ _), Rec.below_drew HWR.out⟩
        have e0 : ∀ u : RegS.In (GrowS w wr), u.w.cell? ⟨b, off + k * 2, none⟩ = some (.int .i64 x) := fun u => grow_old u.h c0
        have e1 : ∀ u : RegS.In (GrowS w wr), u.w.cell? ⟨b, off + k * 2 + 1, none⟩ = some (.int .i64 y) := fun u => grow_old u.h c1
        have f0 : ∀ u : RegS.In (GrowS w wr), u.w.cell? ⟨b', off' + k * 2, none⟩ = some (.int .i64 x) := fun u => grow_old u.h d0
        have f1 : ∀ u : RegS.In (GrowS w wr), u.w.cell? ⟨b', off' + k * 2 + 1, none⟩ = some (.int .i64 y) := fun u => grow_old u.h d1
        have hki : (k : Int) < (l.length : Int) := by omega
        clear c0 c1 d0 d1 hat hat'
        go_wp2
        refine RegS.region (GrowS w wr) (by kernel_rfl) (by kernel_rfl) HSD.out ?_
        haveI : Nonempty (RegS.In (GrowS w wr)) := ⟨⟨_, HSD.out⟩⟩
        repeat (first | go_big_quiet_step (fail) | quiet_step (fail))
        refine wpQuiet_nil ?_
        intro wz hw'
        obtain ⟨⟨wq, hSq⟩, hw''⟩ := hw'
        have hS : GrowS w wr wz := by rw [hw'']; exact hSq
        have HG8 := Lib.hid (Base.then_below HG.out hS.1)
        clear hw'' hSq hS e0 e1 f0 f1
        go_wp2
        go_roundw
        case rel => exact ⟨k + 1, by omega, by go_num, HG8⟩
        case measure => simp [intOf]; omega
      · have hki : ¬ (k : Int) < (l.length : Int) := by omega
        clear HA1 HA2 HG HW7
        go_wp2_with (fail)
        go_at_call 9
        refine (HDR.out _ (Cf.bytesS_below HBY.out HWR.out) HWR.out.size).mono ?_
        rintro e w9 ⟨va, asks, n, rfl, hal, hao, hn0, hn1, hoa, b9⟩
        have HW9 := Lib.hid (Base.then_below HWR.out b9)
        have hrl := Rng.rsv_len asks n
        have HIN := Lib.hid (Rlw.rsv_in (l := asks) (n := n) hao ⟨hn0, by omega⟩)
        have k9 := Rng.impl_rsv va w9.heap.size asks n ea w9 (Asks.own_holds hoa) (Nat.le_refl _) (by omega) (Rng.nob_below HNB.out HW9.out)
        unfold Rng.RsvEnd at k9
        generalize Rng.rsv asks n = sp at hrl HIN k9
        obtain ⟨aa, ca, rfl, haa⟩ := Rng.shape (Asks.own_holds hoa)
        clear b9 hao hoa haa HWR hki
        go_wp2_with (fail)
        go_at_call 10
        refine k9.mono ?_
        rintro e w10 ⟨vs, rfl, hos, b10⟩
        have HW10 := Lib.hid (Base.then_below HW9.out b10)
        obtain ⟨aas, cas, rfl, has⟩ := spn_shape (Spn.own_holds hos)
        have HAS := Lib.hid has
        clear b10 hos has k9 HW9
        go_wp2
        go_loopw [13] (fun i wr => ∃ k : Nat, k ≤ sp.length ∧ i = .int .i64 (k : Int) ∧ Hid (Below w10.heap.size w10 wr)) (fun i _ => sp.length - (intOf i).toNat)
        case atStart => exact ⟨0, Nat.zero_le _, rfl, Lib.hid (Below.refl _ _)⟩
        case round =>
          obtain ⟨k2, hk2, rfl, HG2⟩ := hrel
          have HWR2 := Lib.hid (HW10.out.trans (HG2.out.mono HW10.out.size))
          by_cases hlt2 : k2 < sp.length
          · obtain ⟨b2, o2, rfl, hbl2, hat2⟩ := HAS.out (by omega)
            obtain ⟨c0, c1⟩ := Spn.at_cells (Spn.at_below hat2 HG2.out hbl2) hlt2
            have hq := HIN.out _ (Rec.getD_mem (z := Spn.nov) hlt2)
            generalize sp.getD k2 Spn.nov = f at c0 c1 hq
            obtain ⟨p, q⟩ := f
            dsimp only at c0 c1 hq
            obtain ⟨hp0, hpq, hqn⟩ := hq
            have hp1 : ¬ p < 0 := by omega
            have hq1 : ¬ q ≤ p := by omega
            have hn2 : ¬ n < q := by omega
            have HSD : Hid (GrowS w wr wr.drew) := Lib.hid ⟨Rec.below_drew (Below.refl _ _), Rec.below_drew HWR2.out⟩
            have e0 : ∀ u : RegS.In (GrowS w wr), u.w.cell? ⟨b2, o2 + k2 * 2, none⟩ = some (.int .i64 p) := fun u => grow_old u.h c0
            have e1 : ∀ u : RegS.In (GrowS w wr), u.w.cell? ⟨b2, o2 + k2 * 2 + 1, none⟩ = some (.int .i64 q) := fun u => grow_old u.h c1
            have hki : (k2 : Int) < (sp.length : Int) := by omega
            have hP : Crf.In64 p := ⟨by omega, by omega⟩
            have hQ : Crf.In64 q := ⟨by omega, by omega⟩
            have hN : Crf.In64 n := ⟨by omega, by omega⟩
            have HCF := Lib.hid (fun W (ht : Fmt.Tens W) => Crf.impl_crf p q n W hP hQ hN ht)
            have hcl : (Crf.crf p q n).length ≤ 100 := by
              rw [Crf.crf_yes hpq]
              have h1 := Crf.il hP
              have h2 := Crf.il (n := q - 1) ⟨by omega, by omega⟩
              have h3 := Crf.il hN
              simp only [List.length_append, List.length_cons, List.length_nil]; omega
            have hpb := Rlw.pcr_back hp0 hpq hqn (by omega)
            unfold Crf.TxtEnd at HCF
            generalize Crf.crf p q n = t2 at HCF hcl hpb
            have HPC := Lib.hid (fun W (ht : Fmt.Tens W) (he : Par.Errs W) => Rng.impl_pcr t2 W (by omega) ht he)
            unfold Rng.PcrEnd at HPC
            rw [hpb] at HPC
            dsimp only at HPC
            have HC0 := Lib.hid c0
            have HC1 := Lib.hid c1
            clear c0 c1 hat2 hpb hcl hP hQ hN
            go_wp2
            refine RegS.region (GrowS w wr) (by kernel_rfl) (by kernel_rfl) HSD.out ?_
            haveI : Nonempty (RegS.In (GrowS w wr)) := ⟨⟨_, HSD.out⟩⟩
            repeat (first | go_big_quiet_step (fail) | quiet_step (fail))
            refine wpQuiet_nil ?_
            intro wz hw'
            obtain ⟨⟨wq, hSq⟩, hw''⟩ := hw'
            have hS : GrowS w wr wz := by rw [hw'']; exact hSq
            have z0 : wz.cell? ⟨b2, o2 + k2 * 2, none⟩ = some (.int .i64 p) := grow_old hS HC0.out
            have z1 : wz.cell? ⟨b2, o2 + k2 * 2 + 1, none⟩ = some (.int .i64 q) := grow_old hS HC1.out
            have HZ0 := Lib.hid z0
            have HZ1 := Lib.hid z1
            have HS := Lib.hid hS
            have HGz := Lib.hid (Base.then_below HG2.out hS.1)
            clear hw'' hSq hS e0 e1 HSD HC0 HC1
            go_wp2_with (fail)
            go_at_call 12
            refine (HCF.out _ (Fmt.tens_below HT.out HS.out.2)).mono ?_
            rintro e w11 ⟨rfl, b11⟩
            have HB11 := Lib.hid b11
            have HW11 := Lib.hid (Base.then_below HS.out.2 b11)
            clear z0 z1 b11 HCF
            go_wp2_with (fail)
            go_at_call 11
            refine (HPC.out _ (Fmt.tens_below HT.out HW11.out) (Par.errs_below HE.out HW11.out)).mono ?_
            rintro e w12 ⟨rfl, b12⟩
            have hbz := Base.then_below HB11.out b12
            have y0 : w12.cell? ⟨b2, o2 + k2 * 2, none⟩ = some (.int .i64 p) := (hbz.cell (p := ⟨b2, _, none⟩) (Rec.lt_of_cell HZ0.out)).trans HZ0.out
            have y1 : w12.cell? ⟨b2, o2 + k2 * 2 + 1, none⟩ = some (.int .i64 q) := (hbz.cell (p := ⟨b2, _, none⟩) (Rec.lt_of_cell HZ1.out)).trans HZ1.out
            have hba : Below w12.heap.size w12 (w12.alloc (.cells #[.int .i64 p, .int .i64 q] 35)) := (Below.refl _ _).alloc (Nat.le_refl _) _
            have HWV := Lib.hid ((Base.then_below HW11.out b12).alloc (Base.then_below HW11.out b12).size (.cells #[.int .i64 p, .int .i64 q] 35))
            have HGV := Lib.hid (Base.then_below (Base.then_below HGz.out hbz) hba)
            have v0 : (w12.alloc (.cells #[.int .i64 p, .int .i64 q] 35)).cell? ⟨b2, o2 + k2 * 2, none⟩ = some (.int .i64 p) := (hba.cell (p := ⟨b2, _, none⟩) (Rec.lt_of_cell y0)).trans y0
            have v1 : (w12.alloc (.cells #[.int .i64 p, .int .i64 q] 35)).cell? ⟨b2, o2 + k2 * 2 + 1, none⟩ = some (.int .i64 q) := (hba.cell (p := ⟨b2, _, none⟩) (Rec.lt_of_cell y1)).trans y1
            have n0 : (w12.alloc (.cells #[.int .i64 p, .int .i64 q] 35)).cell? ⟨w12.heap.size, 0, none⟩ = some (.int .i64 p) := by rw [World.cell?_alloc_new]; rfl
            have n1 : (w12.alloc (.cells #[.int .i64 p, .int .i64 q] 35)).cell? ⟨w12.heap.size, 1, none⟩ = some (.int .i64 q) := by rw [World.cell?_alloc_new]; rfl
            have HSD : Hid (GrowS w (w12.alloc (.cells #[.int .i64 p, .int .i64 q] 35)) (w12.alloc (.cells #[.int .i64 p, .int .i64 q] 35)).drew) := Lib.hid ⟨Rec.below_drew (Below.refl _ _), Rec.below_drew HWV.out⟩
            have e0 : ∀ u : RegS.In (GrowS w (w12.alloc (.cells #[.int .i64 p, .int .i64 q] 35))), u.w.cell? ⟨b2, o2 + k2 * 2, none⟩ = some (.int .i64 p) := fun u => grow_old u.h v0
            have e1 : ∀ u : RegS.In (GrowS w (w12.alloc (.cells #[.int .i64 p, .int .i64 q] 35))), u.w.cell? ⟨b2, o2 + k2 * 2 + 1, none⟩ = some (.int .i64 q) := fun u => grow_old u.h v1
            have e2 : ∀ u : RegS.In (GrowS w (w12.alloc (.cells #[.int .i64 p, .int .i64 q] 35))), u.w.cell? ⟨w12.heap.size, 0, none⟩ = some (.int .i64 p) := fun u => grow_old u.h n0
            have e3 : ∀ u : RegS.In (GrowS w (w12.alloc (.cells #[.int .i64 p, .int .i64 q] 35))), u.w.cell? ⟨w12.heap.size, 1, none⟩ = some (.int .i64 q) := fun u => grow_old u.h n1
            clear y0 y1 v0 v1 n0 n1 hba hbz b12 HPC
            go_wp2
            refine RegS.region (GrowS w (w12.alloc (.cells #[.int .i64 p, .int .i64 q] 35))) (by kernel_rfl) (by kernel_rfl) HSD.out ?_
            haveI : Nonempty (RegS.In (GrowS w (w12.alloc (.cells #[.int .i64 p, .int .i64 q] 35)))) := ⟨⟨_, HSD.out⟩⟩
            repeat (first | go_big_quiet_step (fail) | quiet_step (fail))
            refine wpQuiet_nil ?_
            intro wy hw'
            obtain ⟨⟨wq, hSq⟩, hw''⟩ := hw'
            have hS : GrowS w (w12.alloc (.cells #[.int .i64 p, .int .i64 q] 35)) wy := by rw [hw'']; exact hSq
            have HG8 := Lib.hid (Base.then_below HGV.out hS.1)
            clear hw'' hSq hS e0 e1 e2 e3
            go_wp2
            go_roundw
            case rel => exact ⟨k2 + 1, by omega, by go_num, HG8⟩
            case measure => simp [intOf]; omega
          · have hki : ¬ (k2 : Int) < (sp.length : Int) := by omega
            have hle : (sp.length : Int) ≤ (asks.length : Int) := by omega
            go_wp2
            go_ret
            exact ⟨by simp [hle], HWR2.out⟩
end Go.Proofs.YtobhdfkhfmpdlaaGreatDoor.fnRanges
