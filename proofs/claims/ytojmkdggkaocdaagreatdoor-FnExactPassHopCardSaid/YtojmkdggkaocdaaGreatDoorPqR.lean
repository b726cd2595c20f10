/-
  CONTRACTS AND PLAIN FACTS, several texts in one; each says in its own words what it proves.
-/
import Derived.Test.YtojmkdggkaocdaaGreatDoorPqN
import Derived.Test.YtojmkdggkaocdaaGreatDoorPqM
import Derived.Test.YtojmkdggkaocdaaGreatDoorPqI

/-
  CONTRACTS of the model's l3Two and l3Month; nothing that was there before is changed.
-/
namespace Go.Proofs.YtojmkdggkaocdaaGreatDoor.Dt
open Go Go.RowKit
set_option linter.unusedVariables false
set_option maxRecDepth 1000000

/-- The one world of a region that only reads. -/
def SelfS (w u : World) : Prop := u = w.drew
theorem ret_is {a b : Int} (h : a = b) : Ending.returned (.int .i64 a) = .returned (.int .i64 b) := by rw [h]
theorem lst_len (s : ByteArray) : s.data.toList.length = s.size := by rw [Array.length_toList]; rfl
theorem lst_at {s : ByteArray} {k : Nat} (h : k < s.size) : s.data.toList.getD k 0 = s[k] := by
  have hl : k < s.data.toList.length := by rw [lst_len]; exact h
  rw [List.getD_eq_getElem?_getD, List.getElem?_eq_getElem hl]; rfl

set_option maxHeartbeats 1000000 in
theorem spec_two_s (s : ByteArray) (k : Nat) (w : World) (hk : k + 2 ≤ s.size) (hs : s.size ≤ 67108864) :
    Calls Tryz.prog 124 #[.string s, .int .i64 (k : Int)] w fun e w' => e = .returned (.int .i64 (tw s.data.toList k)) ∧ Below w.heap.size w w' := by
  have h0 : k < s.size := by omega
  have h1 : k + 1 < s.size := by omega
  have g0 := lst_at h0
  have g1 := lst_at h1
  have HT : Hid (tw s.data.toList k = if dig s[k] = true ∧ dig s[k + 1] = true then 10 * lz s[k] + lz s[k + 1] else -1) := Lib.hid (by unfold tw; rw [g0, g1])
  have hk0 : (0 : Int) ≤ (k : Int) := by omega
  have hk2 : (k : Int) + 2 ≤ (s.size : Int) := by omega
  have hki : (k : Int) < (s.size : Int) := by omega
  have hki1 : (k : Int) + 1 < (s.size : Int) := by omega
  have htn : ((k : Int) + 1).toNat = k + 1 := by omega
  clear g0 g1
  have b0 : (s[k].toNat : Int) ≤ 255 := by have := s[k].toNat_lt; omega
  have b1 : (s[k + 1].toNat : Int) ≤ 255 := by have := s[k + 1].toNat_lt; omega
  by_cases d0 : 48 ≤ (s[k].toNat : Int) ∧ (s[k].toNat : Int) ≤ 57
  · by_cases d1 : 48 ≤ (s[k + 1].toNat : Int) ∧ (s[k + 1].toNat : Int) ≤ 57
    · have HE : Hid (tw s.data.toList k = 10 * ((s[k].toNat : Int) - 48) + ((s[k + 1].toNat : Int) - 48)) := Lib.hid (by
        rw [HT.out, if_pos ⟨by unfold dig; simp; omega, by unfold dig; simp; omega⟩]
        unfold lz; rw [if_pos (by omega), if_pos (by omega)])
      obtain ⟨p0, p1⟩ := d0
      obtain ⟨q0, q1⟩ := d1
      clear HT
      go_enter Tryz.func124, Tryz.ntmps124
      go_wp2_with (go_at_call 36; (with_reducible first | refine (NumDiv.in_yes _ _ _ _ (by assumption) (by assumption)).mono ?_); rintro e w' ⟨rfl, rfl⟩)
      have HSD : Hid (SelfS w w.drew) := Lib.hid rfl
      refine RegS.region (SelfS w) (by kernel_rfl) (by kernel_rfl) HSD.out ?_
      haveI : Nonempty (RegS.In (SelfS w)) := ⟨⟨_, HSD.out⟩⟩
      repeat (first | go_big_quiet_step (fail) | quiet_step (fail))
      refine wpQuiet_nil ?_
      intro wz hw'
      obtain ⟨⟨wq, hS⟩, hw''⟩ := hw'
      subst hw''
      obtain rfl : wz = w.drew := hS
      go_wp2
      go_ret
      exact ⟨ret_is (by rw [HE.out]), Rec.below_drew (Below.refl _ _)⟩
    · have HO := Lib.hid (show (s[k + 1].toNat : Int) < 48 ∨ 57 < (s[k + 1].toNat : Int) by omega)
      have HE : Hid (tw s.data.toList k = -1) := Lib.hid (by
        rw [HT.out, if_neg (by rintro ⟨_, h⟩; unfold dig at h; simp at h; omega)])
      obtain ⟨p0, p1⟩ := d0
      clear HT d1
      go_enter Tryz.func124, Tryz.ntmps124
      go_wp2_with (go_at_call 36; (with_reducible first | refine (NumDiv.in_yes _ _ _ _ (by assumption) (by assumption)).mono ?_ | refine (NumDiv.in_no _ _ _ _ HO.out).mono ?_); rintro e w' ⟨rfl, rfl⟩)
      all_goals go_ret
      all_goals exact ⟨ret_is (by rw [HE.out]), Below.refl _ _⟩
  · have HO := Lib.hid (show (s[k].toNat : Int) < 48 ∨ 57 < (s[k].toNat : Int) by omega)
    have HE : Hid (tw s.data.toList k = -1) := Lib.hid (by
      rw [HT.out, if_neg (by rintro ⟨h, _⟩; unfold dig at h; simp at h; omega)])
    clear HT d0
    go_enter Tryz.func124, Tryz.ntmps124
    go_wp2_with (go_at_call 36; (with_reducible refine (NumDiv.in_no _ _ _ _ HO.out).mono ?_); rintro e w' ⟨rfl, rfl⟩)
    all_goals go_ret
    all_goals exact ⟨ret_is (by rw [HE.out]), Below.refl _ _⟩
theorem spec_two (l : List UInt8) (k : Nat) (w : World) (hk : k + 2 ≤ l.length) (hs : l.length ≤ 67108864) :
    Calls Tryz.prog 124 #[.string ⟨l.toArray⟩, .int .i64 (k : Int)] w fun e w' => e = .returned (.int .i64 (tw l k)) ∧ Below w.heap.size w w' := by
  have := spec_two_s ⟨l.toArray⟩ k w (by simpa [ByteArray.size] using hk) (by simpa [ByteArray.size] using hs)
  simpa using this

theorem smon_miss {n : List UInt8} (h : ∀ k, k < 12 → mnm k ≠ n) : monOf n = 0 := by
  have hm : n ∉ mons12 := by
    intro hm
    obtain ⟨k, hk, e⟩ := List.getElem_of_mem hm
    have hk12 : k < 12 := hk
    apply h k hk12
    unfold mnm
    rw [← e]
    simp [List.getD, List.getElem?_eq_getElem hk]
  unfold monOf
  rw [List.idxOf_eq_length hm]
  rfl
theorem smon_hit {k : Nat} (h : k < 12) : monOf (mnm k) = (k : Int) + 1 := by
  obtain ⟨a, b, c, e, h2⟩ := monOf_mnm h
  rw [e]; exact h2
theorem smon_bd (n : List UInt8) : 0 ≤ monOf n ∧ monOf n ≤ 12 := by unfold monOf; split <;> omega

set_option maxHeartbeats 2000000 in
set_option maxRecDepth 1000000 in
theorem spec_mon (l : List UInt8) (p : Nat) (w : World) (hp : p + 3 ≤ l.length) (hs : l.length ≤ 67108864) :
    Calls Tryz.prog 125 #[.string ⟨l.toArray⟩, .int .i64 (p : Int)] w fun e w' => e = .returned (.int .i64 (monOf ((l.drop p).take 3))) ∧ Below w.heap.size w w' := by
  have HMT := Lib.hid (mons_tab w)
  have hsz : (⟨l.toArray⟩ : ByteArray).size = l.length := by simp [ByteArray.size]
  have e1 : (⟨l.toArray⟩ : ByteArray).extract p (p + 3) = ⟨((l.drop p).take 3).toArray⟩ := by rw [Tx.ext_eq]; congr 3; omega
  have HH := Lib.hid (fun k (h : k < 12) => smon_hit h)
  have HM := Lib.hid (smon_miss (n := (l.drop p).take 3))
  have hp0 : (0 : Int) ≤ (p : Int) := by omega
  have hp3 : (p : Int) + 3 ≤ (l.length : Int) := by omega
  have hpw : IntKind.i64.wrap ((p : Int) + 3) = (p : Int) + 3 := IntWalk.i64_in _ (by omega)
  have hpt : ((p : Int) + 3).toNat = p + 3 := by omega
  have hpp : (p : Int) ≤ (p : Int) + 3 := by omega
  unfold Table at HMT
  generalize (l.drop p).take 3 = n at e1 HM ⊢
  generalize mnm = f at *
  go_enter Tryz.func125, Tryz.ntmps125
  go_wp2_with (fail)
  go_at_call 159
  refine HMT.out.mono ?_
  rintro e w1 ⟨g, rfl, hc, hb1⟩
  have HB := Lib.hid hb1
  have HC := Lib.hid hc
  clear hc hb1
  go_wp2
  go_loopw [6] (fun i wr => ∃ k : Nat, k ≤ 12 ∧ i = .int .i64 k ∧ (∀ j, j < k → f j ≠ n) ∧ (∀ k, k < 12 → wr.cell? ⟨g, k, none⟩ = some (.string ⟨(f k).toArray⟩)) ∧ Hid (Below w.heap.size w wr)) (fun i _ => 12 - (intOf i).toNat)
  case atStart => exact ⟨0, by omega, rfl, fun j hj => absurd hj (by omega), HC.out, HB⟩
  case round =>
    clear HB HC
    obtain ⟨k, hk, rfl, hno, hc, HB⟩ := hrel
    have HN := Lib.hid hno
    have HC := Lib.hid hc
    clear hno hc
    by_cases hlt : k < 12
    · have HX := Lib.hid (HH.out k hlt)
      have HNN : Hid (f k ≠ n → ∀ j, j < k + 1 → f j ≠ n) := Lib.hid (fun e j hj => by
        rcases Nat.lt_or_ge j k with h' | h'
        · exact HN.out j h'
        · have : j = k := by omega
          subst this; exact e)
      have hki : (k : Int) < 12 := by omega
      have hki0 : (0 : Int) ≤ (k : Int) := by omega
      have c0 := HC.out k hlt
      have c0d : ∀ u : RegS.In (SelfS wr), u.w.cell? ⟨g, k, none⟩ = some (.string ⟨(f k).toArray⟩) := fun u => by rw [show u.w = wr.drew from u.h]; exact c0
      clear HH HM HN hk
      by_cases e : f k = n
      · subst e
        clear HNN
        go_wp2
        have HSD : Hid (SelfS wr wr.drew) := Lib.hid rfl
        refine RegS.region (SelfS wr) (by kernel_rfl) (by kernel_rfl) HSD.out ?_
        haveI : Nonempty (RegS.In (SelfS wr)) := ⟨⟨_, HSD.out⟩⟩
        repeat (first | go_big_quiet_step (fail) | quiet_step (fail))
        refine wpQuiet_nil ?_
        intro wz hw'
        obtain ⟨⟨wq, hS⟩, hw''⟩ := hw'
        subst hw''
        obtain rfl : wz = wr.drew := hS
        go_wp2
        go_ret
        exact ⟨ret_is HX.out.symm, Rec.below_drew HB.out⟩
      · have HE := Lib.hid (HNN.out e)
        have hq : (n == f k) = false := by simpa using (fun h => e h.symm)
        clear HNN HX e
        go_wp2
        have HSD : Hid (SelfS wr wr.drew) := Lib.hid rfl
        refine RegS.region (SelfS wr) (by kernel_rfl) (by kernel_rfl) HSD.out ?_
        haveI : Nonempty (RegS.In (SelfS wr)) := ⟨⟨_, HSD.out⟩⟩
        repeat (first | go_big_quiet_step (fail) | quiet_step (fail))
        refine wpQuiet_nil ?_
        intro wz hw'
        obtain ⟨⟨wq, hS⟩, hw''⟩ := hw'
        subst hw''
        obtain rfl : wz = wr.drew := hS
        go_wp2
        go_roundw
        case rel => exact ⟨k + 1, by omega, by go_num, HE.out, HC.out, Lib.hid (Rec.below_drew HB.out)⟩
        case measure => simp [intOf]; omega
    · obtain rfl : k = 12 := by omega
      have HE := Lib.hid (HM.out (fun j hj => HN.out j hj))
      go_wp2
      go_ret
      exact ⟨ret_is HE.out.symm, HB.out⟩
end Go.Proofs.YtojmkdggkaocdaaGreatDoor.Dt

/-
  CONTRACT of the model's l3Forms and FormatDate: the three forms of a time; nothing that was there before is changed.
-/
namespace Go.Proofs.YtojmkdggkaocdaaGreatDoor.Dt
open Go Go.RowKit
set_option linter.unusedVariables false
set_option maxRecDepth 1000000

def Forms (t : Int) (w : World) (e : Ending) (w' : World) : Prop := ∃ (y m d : Int) (g : Nat), CV (t / 86400) y m d ∧ e = .returned (.slice (some ⟨g, 0, none⟩) 3 3) ∧ (w'.cell? ⟨g, 0, none⟩ = some (.string ⟨(form1 t y m d).toArray⟩) ∧ w'.cell? ⟨g, 1, none⟩ = some (.string ⟨(form2 t y m d).toArray⟩) ∧ w'.cell? ⟨g, 2, none⟩ = some (.string ⟨(form3 t y m d).toArray⟩)) ∧ Below w.heap.size w w'
def BelowS (w w' : World) : Prop := Below w.heap.size w w'
theorem belows_call {w w0 w1 : World} (h : BelowS w w0) (hb : Below w0.heap.size w0 w1) : BelowS w w1 := Base.then_below h hb
theorem itoa_len2 {d : Int} (h0 : 0 ≤ d) (h1 : d ≤ 31) : (Lib.itoa d).length ≤ 20 := by
  have h := dg2 (n := d) (by omega) 0
  have e : Dig.digs d 0 = Lib.itoa d := by unfold Dig.digs Dig.mx Dig.mn; rw [if_neg (by omega)]; exact Dig.zpad_done (by simp)
  rw [e] at h; exact h

set_option maxRecDepth 1000000 in
set_option maxHeartbeats 8000000 in
theorem spec_forms (t : Int) (w : World) (h0 : 0 ≤ t) (h1 : t ≤ 4102444799) : Calls Tryz.prog 127 #[.int .i64 t] w (Forms t w) := by
  have hd0 : 0 ≤ t / 86400 := by omega
  have hd1 : t / 86400 ≤ 47481 := by omega
  have HCV := Lib.hid (spec_civ (t / 86400) w hd0 hd1)
  have HWK := Lib.hid (fun W => spec_week (t / 86400) W (Go.WalkArith.wf_i64 ⟨by omega, by omega⟩))
  have hkt := (wkd_cast (t / 86400)).symm
  rw [hkt] at HWK
  have HWL := Lib.hid (wkd_lt (t / 86400))
  have HCK := Lib.hid (fun W => spec_clock t W h0 h1)
  have hcl := clk_len (s := t % 86400) (by omega) (by omega)
  have HDL := Lib.hid (dnm_len (wkd_lt (t / 86400)))
  unfold Forms form1 form2 form3
  clear hkt
  generalize clk (t % 86400) = ck at hcl HCK ⊢
  generalize wkd (t / 86400) = k at HWK HWL HDL ⊢
  have HCL := Lib.hid hcl
  clear hcl
  go_enter Tryz.func127, Tryz.ntmps127
  go_wp2_with (fail)
  go_at_call 162
  refine HCV.out.mono ?_
  rintro e w1 ⟨y, m, d, hcv, rfl, hb1⟩
  have HB := Lib.hid hb1
  have HCVV := Lib.hid hcv
  have hm1 := hcv.2.2.1
  have hm2 := hcv.2.2.2.1
  have hy1 := hcv.1
  have hy2 := hcv.2.1
  have hdd1 := hcv.2.2.2.2.1
  have hdd2 : d ≤ 31 := by have := hcv.2.2.2.2.2.1; have := dim_bd y m hm1 hm2; omega
  obtain ⟨j, rfl⟩ : ∃ j : Nat, m = (j : Int) + 1 := ⟨(m - 1).toNat, by omega⟩
  have hj : (j : Int) < 12 := by omega
  have hjn : j < 12 := by omega
  have hkn : (k : Int) < 7 := by have := HWL.out; omega
  clear hb1 hcv hm1 hm2
  go_wp2_with (fail)
  go_at_call 163
  refine (days_tab _).mono ?_
  rintro e w2 ⟨gd, rfl, hcd, hb2⟩
  have c0 := hcd k HWL.out
  have HB := Lib.hid (Base.then_below HB.out hb2)
  clear hb2 hcd
  go_wp2_with (fail)
  go_at_call 164
  with_reducible refine (HWK.out _).mono ?_
  rintro e w3 ⟨rfl, rfl⟩
  go_wp2_with (fail)
  go_at_call 159
  refine (mons_tab _).mono ?_
  rintro e w4 ⟨gm, rfl, hcm, hb4⟩
  have c1 := hcm j hjn
  have HB := Lib.hid (Base.then_below HB.out hb4)
  clear hb4 hcm
  have hml := mnm_len hjn
  have ldn := HDL.out
  have HMJ : Hid (mnm ((j : Int) + 1 - 1).toNat = mnm j) := Lib.hid (by rw [show ((j : Int) + 1 - 1).toNat = j by omega])
  have HG2 := Lib.hid (fun W => Dig.spec_digits d 2 W (by omega))
  have HG4 := Lib.hid (fun W => Dig.spec_digits y 4 W (by omega))
  have HGY := Lib.hid (fun W => Dig.spec_digits (y % 100) 2 W (by omega))
  have HIT := Lib.hid (fun W => Fmt.spec_fmt d (by omega) (by omega) W)
  have l2 := dg2 (n := d) (by omega) 2
  have l4 := dg2 (n := y) (by omega) 4
  have ly := dg2 (n := y % 100) (by omega) 2
  have li := itoa_len2 (d := d) (by omega) hdd2
  have hx3 := cut3s (dnm k)
  have l3 : ((dnm k).take 3).length ≤ 3 := List.length_take_le _ _
  have lc := HCL.out
  have hsz3 : (3 : Int) ≤ ((dnm k).length : Int) := by omega
  obtain ⟨f1, hf1⟩ : ∃ z, z = (dnm k).take 3 ++ [44, 32] ++ Dig.digs d 2 ++ [32] ++ mnm j ++ [32] ++ Dig.digs y 4 ++ [32] ++ ck ++ [32, 71, 77, 84] := ⟨_, rfl⟩
  obtain ⟨f2, hf2⟩ : ∃ z, z = dnm k ++ [44, 32] ++ Dig.digs d 2 ++ [45] ++ mnm j ++ [45] ++ Dig.digs (y % 100) 2 ++ [32] ++ ck ++ [32, 71, 77, 84] := ⟨_, rfl⟩
  obtain ⟨dx, hdx⟩ : ∃ z, z = dtx d := ⟨_, rfl⟩
  obtain ⟨f3, hf3⟩ : ∃ z, z = (dnm k).take 3 ++ [32] ++ mnm j ++ [32] ++ dx ++ [32] ++ ck ++ [32] ++ Dig.digs y 4 := ⟨_, rfl⟩
  have ldx : dx.length ≤ 21 := by rw [hdx]; unfold dtx; split <;> (try simp only [List.length_append, List.length_cons, List.length_nil]) <;> omega
  have HF1 : Hid (f1 = (dnm k).take 3 ++ [44, 32] ++ Dig.digs d 2 ++ [32] ++ mnm ((j : Int) + 1 - 1).toNat ++ [32] ++ Dig.digs y 4 ++ [32] ++ ck ++ [32, 71, 77, 84]) := Lib.hid (by rw [HMJ.out]; exact hf1)
  have HF2 : Hid (f2 = dnm k ++ [44, 32] ++ Dig.digs d 2 ++ [45] ++ mnm ((j : Int) + 1 - 1).toNat ++ [45] ++ Dig.digs (y % 100) 2 ++ [32] ++ ck ++ [32, 71, 77, 84]) := Lib.hid (by rw [HMJ.out]; exact hf2)
  have HF3 : Hid (f3 = (dnm k).take 3 ++ [32] ++ mnm ((j : Int) + 1 - 1).toNat ++ [32] ++ dtx d ++ [32] ++ ck ++ [32] ++ Dig.digs y 4) := Lib.hid (by rw [HMJ.out, ← hdx]; exact hf3)
  have HDX := Lib.hid hdx
  clear hdx
  generalize hg2 : Dig.digs d 2 = g2 at HG2 l2 hf1 hf2
  generalize Dig.digs y 4 = g4 at HG4 l4 hf1 hf3
  generalize Dig.digs (y % 100) 2 = gy at HGY ly hf2
  generalize hit : Lib.itoa d = it at HIT li
  generalize (dnm k).take 3 = d3 at hx3 l3 hf1 hf3
  generalize dnm k = dn at c0 hx3 hf2 ldn hsz3
  have HDT : Hid (d < 10 → dx = [32] ++ it) := Lib.hid (fun h => by rw [HDX.out]; unfold dtx; rw [if_pos h, hit])
  have HDT2 : Hid (¬ d < 10 → dx = g2) := Lib.hid (fun h => by rw [HDX.out]; unfold dtx; rw [if_neg h, hg2])
  clear hit hg2
  generalize mnm j = mn at c1 hml hf1 hf2 hf3
  have p1 := Tx.addtwo (d3) [44, 32] (by simp only [List.length_append, List.length_cons, List.length_nil]; omega)
  have p2 := Tx.addtwo (d3 ++ [44, 32]) g2 (by simp only [List.length_append, List.length_cons, List.length_nil]; omega)
  have p3 := Tx.addtwo (d3 ++ [44, 32] ++ g2) [32] (by simp only [List.length_append, List.length_cons, List.length_nil]; omega)
  have p4 := Tx.addtwo (d3 ++ [44, 32] ++ g2 ++ [32]) mn (by simp only [List.length_append, List.length_cons, List.length_nil]; omega)
  have p5 := Tx.addtwo (d3 ++ [44, 32] ++ g2 ++ [32] ++ mn) [32] (by simp only [List.length_append, List.length_cons, List.length_nil]; omega)
  have p6 := Tx.addtwo (d3 ++ [44, 32] ++ g2 ++ [32] ++ mn ++ [32]) g4 (by simp only [List.length_append, List.length_cons, List.length_nil]; omega)
  have p7 := Tx.addtwo (d3 ++ [44, 32] ++ g2 ++ [32] ++ mn ++ [32] ++ g4) [32] (by simp only [List.length_append, List.length_cons, List.length_nil]; omega)
  have p8 := Tx.addtwo (d3 ++ [44, 32] ++ g2 ++ [32] ++ mn ++ [32] ++ g4 ++ [32]) ck (by simp only [List.length_append, List.length_cons, List.length_nil]; omega)
  have p9 := Tx.addtwo (d3 ++ [44, 32] ++ g2 ++ [32] ++ mn ++ [32] ++ g4 ++ [32] ++ ck) [32, 71, 77, 84] (by simp only [List.length_append, List.length_cons, List.length_nil]; omega)
  generalize d3 ++ [44, 32] = pv1 at p1 p2 p3 p4 p5 p6 p7 p8 p9 hf1
  generalize pv1 ++ g2 = pv2 at p2 p3 p4 p5 p6 p7 p8 p9 hf1
  generalize pv2 ++ [32] = pv3 at p3 p4 p5 p6 p7 p8 p9 hf1
  generalize pv3 ++ mn = pv4 at p4 p5 p6 p7 p8 p9 hf1
  generalize pv4 ++ [32] = pv5 at p5 p6 p7 p8 p9 hf1
  generalize pv5 ++ g4 = pv6 at p6 p7 p8 p9 hf1
  generalize pv6 ++ [32] = pv7 at p7 p8 p9 hf1
  generalize pv7 ++ ck = pv8 at p8 p9 hf1
  generalize pv8 ++ [32, 71, 77, 84] = pv9 at p9 hf1
  obtain rfl : f1 = pv9 := hf1
  have r1 := Tx.addtwo (dn) [44, 32] (by simp only [List.length_append, List.length_cons, List.length_nil]; omega)
  have r2 := Tx.addtwo (dn ++ [44, 32]) g2 (by simp only [List.length_append, List.length_cons, List.length_nil]; omega)
  have r3 := Tx.addtwo (dn ++ [44, 32] ++ g2) [45] (by simp only [List.length_append, List.length_cons, List.length_nil]; omega)
  have r4 := Tx.addtwo (dn ++ [44, 32] ++ g2 ++ [45]) mn (by simp only [List.length_append, List.length_cons, List.length_nil]; omega)
  have r5 := Tx.addtwo (dn ++ [44, 32] ++ g2 ++ [45] ++ mn) [45] (by simp only [List.length_append, List.length_cons, List.length_nil]; omega)
  have r6 := Tx.addtwo (dn ++ [44, 32] ++ g2 ++ [45] ++ mn ++ [45]) gy (by simp only [List.length_append, List.length_cons, List.length_nil]; omega)
  have r7 := Tx.addtwo (dn ++ [44, 32] ++ g2 ++ [45] ++ mn ++ [45] ++ gy) [32] (by simp only [List.length_append, List.length_cons, List.length_nil]; omega)
  have r8 := Tx.addtwo (dn ++ [44, 32] ++ g2 ++ [45] ++ mn ++ [45] ++ gy ++ [32]) ck (by simp only [List.length_append, List.length_cons, List.length_nil]; omega)
  have r9 := Tx.addtwo (dn ++ [44, 32] ++ g2 ++ [45] ++ mn ++ [45] ++ gy ++ [32] ++ ck) [32, 71, 77, 84] (by simp only [List.length_append, List.length_cons, List.length_nil]; omega)
  generalize dn ++ [44, 32] = rv1 at r1 r2 r3 r4 r5 r6 r7 r8 r9 hf2
  generalize rv1 ++ g2 = rv2 at r2 r3 r4 r5 r6 r7 r8 r9 hf2
  generalize rv2 ++ [45] = rv3 at r3 r4 r5 r6 r7 r8 r9 hf2
  generalize rv3 ++ mn = rv4 at r4 r5 r6 r7 r8 r9 hf2
  generalize rv4 ++ [45] = rv5 at r5 r6 r7 r8 r9 hf2
  generalize rv5 ++ gy = rv6 at r6 r7 r8 r9 hf2
  generalize rv6 ++ [32] = rv7 at r7 r8 r9 hf2
  generalize rv7 ++ ck = rv8 at r8 r9 hf2
  generalize rv8 ++ [32, 71, 77, 84] = rv9 at r9 hf2
  obtain rfl : f2 = rv9 := hf2
  have s1 := Tx.addtwo (d3) [32] (by simp only [List.length_append, List.length_cons, List.length_nil]; omega)
  have s2 := Tx.addtwo (d3 ++ [32]) mn (by simp only [List.length_append, List.length_cons, List.length_nil]; omega)
  have s3 := Tx.addtwo (d3 ++ [32] ++ mn) [32] (by simp only [List.length_append, List.length_cons, List.length_nil]; omega)
  have s4 := Tx.addtwo (d3 ++ [32] ++ mn ++ [32]) dx (by simp only [List.length_append, List.length_cons, List.length_nil]; omega)
  have s5 := Tx.addtwo (d3 ++ [32] ++ mn ++ [32] ++ dx) [32] (by simp only [List.length_append, List.length_cons, List.length_nil]; omega)
  have s6 := Tx.addtwo (d3 ++ [32] ++ mn ++ [32] ++ dx ++ [32]) ck (by simp only [List.length_append, List.length_cons, List.length_nil]; omega)
  have s7 := Tx.addtwo (d3 ++ [32] ++ mn ++ [32] ++ dx ++ [32] ++ ck) [32] (by simp only [List.length_append, List.length_cons, List.length_nil]; omega)
  have s8 := Tx.addtwo (d3 ++ [32] ++ mn ++ [32] ++ dx ++ [32] ++ ck ++ [32]) g4 (by simp only [List.length_append, List.length_cons, List.length_nil]; omega)
  generalize d3 ++ [32] = sv1 at s1 s2 s3 s4 s5 s6 s7 s8 hf3
  generalize sv1 ++ mn = sv2 at s2 s3 s4 s5 s6 s7 s8 hf3
  generalize sv2 ++ [32] = sv3 at s3 s4 s5 s6 s7 s8 hf3
  generalize sv3 ++ dx = sv4 at s4 s5 s6 s7 s8 hf3
  generalize sv4 ++ [32] = sv5 at s5 s6 s7 s8 hf3
  generalize sv5 ++ ck = sv6 at s6 s7 s8 hf3
  generalize sv6 ++ [32] = sv7 at s7 s8 hf3
  generalize sv7 ++ g4 = sv8 at s8 hf3
  obtain rfl : f3 = sv8 := hf3
  have ad := Tx.addtwo [32] it (by simp only [List.length_cons, List.length_nil]; omega)
  clear l2 l4 ly li l3 lc hml ldn ldx
  by_cases hlt : d < 10
  · have hdx : dx = [32] ++ it := HDT.out hlt
    rw [← hdx] at ad
    clear hdx
    go_wp2
    refine RegS.region (BelowS w) (by kernel_rfl) (by kernel_rfl) (Rec.below_drew HB.out) ?_
    haveI : Nonempty (RegS.In (BelowS w)) := ⟨⟨_, HB.out⟩⟩
    repeat (first | go_big_quiet_step ((first | (go_at_call 165; with_reducible exact RegS.call (HG2.out _) (fun e w' he => ⟨he.1, belows_call (RegS.In.h _) he.2⟩)) | (go_at_call 165; with_reducible exact RegS.call (HG4.out _) (fun e w' he => ⟨he.1, belows_call (RegS.In.h _) he.2⟩)) | (go_at_call 166; with_reducible exact RegS.call (HCK.out _) (fun e w' he => ⟨he.1, belows_call (RegS.In.h _) he.2⟩)))) | quiet_step (fail))
    refine wpQuiet_nil ?_
    intro _ hw'
    obtain ⟨⟨wz, hS⟩, hw''⟩ := hw'
    subst hw''
    have HB : Hid (Below w.heap.size w _) := Lib.hid hS
    clear hS this
    go_wp2_with (fail)
    go_at_call 165
    with_reducible refine (HG2.out _).mono ?_
    rintro e z1 ⟨rfl, hb1⟩
    have HB := Lib.hid (Base.then_below HB.out hb1)
    clear hb1
    go_wp2_with (fail)
    go_at_call 165
    with_reducible refine (HGY.out _).mono ?_
    rintro e z2 ⟨rfl, hb2⟩
    have HB := Lib.hid (Base.then_below HB.out hb2)
    clear hb2
    go_wp2_with (fail)
    go_at_call 166
    with_reducible refine (HCK.out _).mono ?_
    rintro e z3 ⟨rfl, hb3⟩
    have HB := Lib.hid (Base.then_below HB.out hb3)
    clear hb3
    go_wp2_with (fail)
    go_at_call 165
    with_reducible refine (HG2.out _).mono ?_
    rintro e z4 ⟨rfl, hb4⟩
    have HB := Lib.hid (Base.then_below HB.out hb4)
    clear hb4
    go_wp2_with (fail)
    go_at_call 85
    with_reducible refine (HIT.out _).mono ?_
    rintro e z5 ⟨rfl, hb5⟩
    have HB := Lib.hid (Base.then_below HB.out hb5)
    clear hb5
    go_wp2
    refine RegS.region (BelowS w) (by kernel_rfl) (by kernel_rfl) (Rec.below_drew HB.out) ?_
    haveI : Nonempty (RegS.In (BelowS w)) := ⟨⟨_, HB.out⟩⟩
    repeat (first | go_big_quiet_step ((first | (go_at_call 166; with_reducible exact RegS.call (HCK.out _) (fun e w' he => ⟨he.1, belows_call (RegS.In.h _) he.2⟩)) | (go_at_call 165; with_reducible exact RegS.call (HG4.out _) (fun e w' he => ⟨he.1, belows_call (RegS.In.h _) he.2⟩)))) | quiet_step (fail))
    refine wpQuiet_nil ?_
    intro _ hw'
    obtain ⟨⟨wz, hS⟩, hw''⟩ := hw'
    subst hw''
    have HB : Hid (Below w.heap.size w _) := Lib.hid hS
    clear hS this
    go_wp2
    go_ret
    refine ⟨y, (j : Int) + 1, d, _, HCVV.out, rfl, ⟨?_, ?_, ?_⟩, HB.out.alloc HB.out.size _⟩
    · rw [World.cell?_alloc_new]; exact congrArg (fun z : List UInt8 => some (Value.string ⟨z.toArray⟩)) HF1.out
    · rw [World.cell?_alloc_new]; exact congrArg (fun z : List UInt8 => some (Value.string ⟨z.toArray⟩)) HF2.out
    · rw [World.cell?_alloc_new]; exact congrArg (fun z : List UInt8 => some (Value.string ⟨z.toArray⟩)) HF3.out
  · have hdx : dx = g2 := HDT2.out hlt
    rw [hdx] at s4
    clear hdx
    go_wp2
    refine RegS.region (BelowS w) (by kernel_rfl) (by kernel_rfl) (Rec.below_drew HB.out) ?_
    haveI : Nonempty (RegS.In (BelowS w)) := ⟨⟨_, HB.out⟩⟩
    repeat (first | go_big_quiet_step ((first | (go_at_call 165; with_reducible exact RegS.call (HG2.out _) (fun e w' he => ⟨he.1, belows_call (RegS.In.h _) he.2⟩)) | (go_at_call 165; with_reducible exact RegS.call (HG4.out _) (fun e w' he => ⟨he.1, belows_call (RegS.In.h _) he.2⟩)) | (go_at_call 166; with_reducible exact RegS.call (HCK.out _) (fun e w' he => ⟨he.1, belows_call (RegS.In.h _) he.2⟩)))) | quiet_step (fail))
    refine wpQuiet_nil ?_
    intro _ hw'
    obtain ⟨⟨wz, hS⟩, hw''⟩ := hw'
    subst hw''
    have HB : Hid (Below w.heap.size w _) := Lib.hid hS
    clear hS this
    go_wp2_with (fail)
    go_at_call 165
    with_reducible refine (HG2.out _).mono ?_
    rintro e z1 ⟨rfl, hb1⟩
    have HB := Lib.hid (Base.then_below HB.out hb1)
    clear hb1
    go_wp2_with (fail)
    go_at_call 165
    with_reducible refine (HGY.out _).mono ?_
    rintro e z2 ⟨rfl, hb2⟩
    have HB := Lib.hid (Base.then_below HB.out hb2)
    clear hb2
    go_wp2_with (fail)
    go_at_call 166
    with_reducible refine (HCK.out _).mono ?_
    rintro e z3 ⟨rfl, hb3⟩
    have HB := Lib.hid (Base.then_below HB.out hb3)
    clear hb3
    go_wp2_with (fail)
    go_at_call 165
    with_reducible refine (HG2.out _).mono ?_
    rintro e z4 ⟨rfl, hb4⟩
    have HB := Lib.hid (Base.then_below HB.out hb4)
    clear hb4
    go_wp2
    refine RegS.region (BelowS w) (by kernel_rfl) (by kernel_rfl) (Rec.below_drew HB.out) ?_
    haveI : Nonempty (RegS.In (BelowS w)) := ⟨⟨_, HB.out⟩⟩
    repeat (first | go_big_quiet_step ((first | (go_at_call 166; with_reducible exact RegS.call (HCK.out _) (fun e w' he => ⟨he.1, belows_call (RegS.In.h _) he.2⟩)) | (go_at_call 165; with_reducible exact RegS.call (HG4.out _) (fun e w' he => ⟨he.1, belows_call (RegS.In.h _) he.2⟩)))) | quiet_step (fail))
    refine wpQuiet_nil ?_
    intro _ hw'
    obtain ⟨⟨wz, hS⟩, hw''⟩ := hw'
    subst hw''
    have HB : Hid (Below w.heap.size w _) := Lib.hid hS
    clear hS this
    go_wp2
    go_ret
    refine ⟨y, (j : Int) + 1, d, _, HCVV.out, rfl, ⟨?_, ?_, ?_⟩, HB.out.alloc HB.out.size _⟩
    · rw [World.cell?_alloc_new]; exact congrArg (fun z : List UInt8 => some (Value.string ⟨z.toArray⟩)) HF1.out
    · rw [World.cell?_alloc_new]; exact congrArg (fun z : List UInt8 => some (Value.string ⟨z.toArray⟩)) HF2.out
    · rw [World.cell?_alloc_new]; exact congrArg (fun z : List UInt8 => some (Value.string ⟨z.toArray⟩)) HF3.out

def DatedS (t : Int) (w : World) (e : Ending) (w' : World) : Prop := ∃ y m d : Int, CV (t / 86400) y m d ∧ e = .returned (.string ⟨(form1 t y m d).toArray⟩) ∧ Below w.heap.size w w'
end Go.Proofs.YtojmkdggkaocdaaGreatDoor.Dt
