/-
  CONTRACTS AND PLAIN FACTS, several texts in one; each says in its own words what it proves.
-/
import Derived.Test.YtilephkbcikfbaaDoorPartM
import Derived.Test.YtilephkbcikfbaaDoorPartN
import Derived.Test.YtilephkbcikfbaaDoorPartG
import Derived.Test.YtilephkbcikfbaaDoorPartL
import Derived.Test.YtilephkbcikfbaaDoorPartF
set_option linter.unusedSimpArgs false
set_option linter.unusedVariables false

/-
  CONTRACTS of the program's looseNumber, fullYear, monthOf and timeOf; nothing that was there before is changed.
-/
namespace Go.Proofs.YtilephkbcikfbaaDoor.Dt
open Go Go.RowKit
set_option linter.unusedVariables false
set_option maxRecDepth 1000000

theorem ret_i {a b : Int} (h : a = b) : Ending.returned (.int .i64 a) = .returned (.int .i64 b) := by rw [h]
theorem llen (s : ByteArray) : s.data.toList.length = s.size := by rw [Array.length_toList]; rfl
theorem loose_take {s : ByteArray} {k : Nat} (h : k < s.size) : loose (s.data.toList.take (k + 1)) = loose (s.data.toList.take k) * 10 + lz s[k] := by
  have hl : k < s.data.toList.length := by rw [llen]; exact h
  rw [List.take_succ_eq_append_getElem hl, loose_snoc]
  rfl

set_option maxHeartbeats 1000000 in
theorem impl_loose (s : ByteArray) (w : World) (hs : s.size ≤ 8) :
    Calls Tryd.prog 36 #[.string s] w fun e w' => e = .returned (.int .i64 (loose s.data.toList)) ∧ w = w' := by
  go_enter Tryd.func36, Tryd.ntmps36
  go_wp2
  go_loop [3, 4, 7] (fun n j i => ∃ k : Nat, k ≤ s.size ∧ i = .int .i64 k ∧ n = .int .i64 (loose (s.data.toList.take k))) (fun _ _ i => s.size - (intOf i).toNat)
  case atStart => exact ⟨0, Nat.zero_le _, rfl, rfl⟩
  case round =>
    obtain ⟨k, hk, rfl, rfl⟩ := hrel
    by_cases hlt : k < s.size
    · have HM := Lib.hid (loose_take hlt)
      have hb := loose_bd (s.data.toList.take k)
      have hp : (10 : Int) ^ (s.data.toList.take k).length ≤ 10 ^ 8 := by
        exact_mod_cast Nat.pow_le_pow_right (by decide) (by rw [List.length_take]; omega)
      have h8 : (10 : Int) ^ 8 = 100000000 := by decide
      have hb0 : 0 ≤ loose (s.data.toList.take k) := hb.1
      have hb1 : loose (s.data.toList.take k) ≤ 100000000 := by omega
      clear hb hp h8
      generalize loose (s.data.toList.take k) = x at HM hb0 hb1
      have hki : (k : Int) < (s.size : Int) := by omega
      have hb255 : (s[k].toNat : Int) ≤ 255 := by have := s[k].toNat_lt; omega
      by_cases h48 : 48 ≤ (s[k].toNat : Int)
      · by_cases h57 : (s[k].toNat : Int) ≤ 57
        · have HZ : Hid (lz s[k] = (s[k].toNat : Int) - 48) := Lib.hid (by unfold lz; rw [if_pos ⟨by omega, by omega⟩])
          go_wp2
          go_round
          case rel => exact ⟨k + 1, by omega, by go_num, by rw [HM.out, HZ.out]; try go_num⟩
          case measure => simp [intOf]; omega
        · have HZ : Hid (lz s[k] = 0) := Lib.hid (by unfold lz; rw [if_neg (by omega)])
          go_wp2
          go_round
          case rel => exact ⟨k + 1, by omega, by go_num, by rw [HM.out, HZ.out]; try go_num⟩
          case measure => simp [intOf]; omega
      · have HZ : Hid (lz s[k] = 0) := Lib.hid (by unfold lz; rw [if_neg (by omega)])
        go_wp2
        go_round
        case rel => exact ⟨k + 1, by omega, by go_num, by rw [HM.out, HZ.out]; try go_num⟩
        case measure => simp [intOf]; omega
    · have HE : Hid (loose (s.data.toList.take k) = loose s.data.toList) := Lib.hid (by rw [List.take_of_length_le (by rw [llen]; omega)])
      have hki : ¬ (k : Int) < (s.size : Int) := by omega
      go_wp2
      go_ret
      exact ⟨ret_i HE.out, rfl⟩

theorem impl_full (y : Int) (w : World) (h0 : 0 ≤ y) (h1 : y ≤ 99) : Calls Tryd.prog 37 #[.int .i64 y] w fun e w' => e = .returned (.int .i64 (if y < 70 then 2000 + y else 1900 + y)) ∧ w = w' := by
  by_cases h : y < 70
  · rw [if_pos h]
    go_enter Tryd.func37, Tryd.ntmps37
    go_wp2
    go_ret
    exact ⟨ret_i (by omega), rfl⟩
  · rw [if_neg h]
    go_enter Tryd.func37, Tryd.ntmps37
    go_wp2
    go_ret
    exact ⟨ret_i (by omega), rfl⟩

theorem mon_miss {n : List UInt8} (h : ∀ k, k < 12 → mnm k ≠ n) : monOf n = 0 := by
  have hm : n ∉ mons12 := by
    intro hm
    obtain ⟨k, hk, e⟩ := List.getElem_of_mem hm
    have hk12 : k < 12 := hk
    apply h k hk12
    unfold mnm
    rw [← e]
    simp [List.getD, List.getElem?_eq_getElem hk]
  unfold monOf
  rw [List.idxOf_eq_length hm]
  rfl
theorem monOf_bd (n : List UInt8) : 0 ≤ monOf n ∧ monOf n ≤ 12 := by unfold monOf; split <;> omega
theorem mon_hit {k : Nat} (h : k < 12) : monOf (mnm k) = (k : Int) + 1 := by
  obtain ⟨a, b, c, e, h2⟩ := monOf_mnm h
  rw [e]; exact h2
theorem mons_lit (w : World) (h : Names w) : ∀ k, k < 12 → w.cell? ⟨1, k, none⟩ = some (.string ⟨(mnm k).toArray⟩) := fun k hk => mon_cell h hk

set_option maxHeartbeats 4000000 in
set_option maxRecDepth 1000000 in
theorem impl_mon (n : List UInt8) (w : World) (hn : Names w) :
    Calls Tryd.prog 49 #[.string ⟨n.toArray⟩] w fun e w' => e = .returned (.int .i64 (monOf n)) ∧ w = w' := by
  have m0 := mons_lit w hn 0 (by decide)
  have m1 := mons_lit w hn 1 (by decide)
  have m2 := mons_lit w hn 2 (by decide)
  have m3 := mons_lit w hn 3 (by decide)
  have m4 := mons_lit w hn 4 (by decide)
  have m5 := mons_lit w hn 5 (by decide)
  have m6 := mons_lit w hn 6 (by decide)
  have m7 := mons_lit w hn 7 (by decide)
  have m8 := mons_lit w hn 8 (by decide)
  have m9 := mons_lit w hn 9 (by decide)
  have m10 := mons_lit w hn 10 (by decide)
  have m11 := mons_lit w hn 11 (by decide)
  have HH := Lib.hid (fun k (h : k < 12) => mon_hit h)
  have HM := Lib.hid (mon_miss (n := n))
  clear hn
  generalize mnm = f at *
  go_enter Tryd.func49, Tryd.ntmps49
  go_wp2
  go_loop [3, 4, 6] (fun _ _ i => ∃ k : Nat, k ≤ 12 ∧ i = .int .i64 k ∧ ∀ j, j < k → f j ≠ n) (fun _ _ i => 12 - (intOf i).toNat)
  case atStart => exact ⟨0, by omega, rfl, fun j hj => absurd hj (by omega)⟩
  case round =>
    obtain ⟨k, hk, rfl, hno⟩ := hrel
    have HN := Lib.hid hno
    clear hno
    by_cases hlt : k < 12
    · have HX := Lib.hid (HH.out k hlt)
      have HNN : Hid (f k ≠ n → ∀ j, j < k + 1 → f j ≠ n) := Lib.hid (fun e j hj => by
        rcases Nat.lt_or_ge j k with h' | h'
        · exact HN.out j h'
        · have : j = k := by omega
          subst this; exact e)
      have hx := fun W => idx12 f k hlt W
      unfold twelve at hx
      have hki : (k : Int) < 12 := by omega
      clear HH HM HN hk
      by_cases e : f k = n
      · subst e
        clear HNN
        go_wp2
        go_ret
        exact ⟨ret_i HX.out.symm, rfl⟩
      · have HE := Lib.hid (HNN.out e)
        have hq : (f k == n) = false := by simpa using e
        clear HNN HX e
        go_wp2
        go_round
        case rel => exact ⟨k + 1, by omega, by go_num, HE.out⟩
        case measure => simp [intOf]; omega
    · obtain rfl : k = 12 := by omega
      have HE := Lib.hid (HM.out (fun j hj => HN.out j hj))
      go_wp2
      go_ret
      exact ⟨ret_i HE.out.symm, rfl⟩
end Go.Proofs.YtilephkbcikfbaaDoor.Dt

/-
  CONTRACTS of the program's timeOf, longDate and plainDate; nothing that was there before is changed.
-/
namespace Go.Proofs.YtilephkbcikfbaaDoor.Dt
open Go Go.RowKit
set_option linter.unusedVariables false
set_option maxRecDepth 1000000

/-- What timeOf answers. -/
def tof (y : Int) (mo : List UInt8) (d : Int) (ck : List UInt8) : Int × Bool := if dof y (monOf mo) d < 0 then (0, false) else (dof y (monOf mo) d * 86400 + clo ck, decide (dof y (monOf mo) d * 86400 + clo ck ≤ 4102444799))
def TofEnd (p : Int × Bool) (w : World) (e : Ending) (w' : World) : Prop := e = .returned (.tuple #[.int .i64 p.1, .bool p.2]) ∧ Below w.heap.size w w'
theorem ret_p {a b : Int} {x y : Bool} (h : a = b) (h2 : x = y) : Ending.returned (.tuple #[.int .i64 a, .bool x]) = .returned (.tuple #[.int .i64 b, .bool y]) := by rw [h, h2]
def BelS (w w' : World) : Prop := Below w.heap.size w w'
theorem bels_call {w w0 w1 : World} (h : BelS w w0) (hb : Below w0.heap.size w0 w1) : BelS w w1 := Base.then_below h hb
theorem loose_l (l : List UInt8) (w : World) (hl : l.length ≤ 8) : Calls Tryd.prog 36 #[.string ⟨l.toArray⟩] w fun e w' => e = .returned (.int .i64 (loose l)) ∧ w = w' := by
  have := impl_loose ⟨l.toArray⟩ w (by simpa [ByteArray.size] using hl)
  simpa using this
theorem ext_l (l : List UInt8) (a b : Nat) : (⟨l.toArray⟩ : ByteArray).extract a b = ⟨((l.drop a).take (b - a)).toArray⟩ := by rw [Tx.ext_eq]

set_option maxRecDepth 1000000 in
set_option maxHeartbeats 4000000 in
theorem impl_tof (y : Int) (mo : List UInt8) (d : Int) (ck : List UInt8) (w : World) (wy : (Lit.int .i64 y).wf = true) (hck : ck.length = 8) (ht : Mds w) (hn : Names w) :
    Calls Tryd.prog 35 #[.int .i64 y, .string ⟨mo.toArray⟩, .int .i64 d, .string ⟨ck.toArray⟩] w (TofEnd (tof y mo d ck) w) := by
  have HM := Lib.hid (impl_mon mo w hn)
  have HD := Lib.hid (impl_days y (monOf mo) d w wy ht)
  have hdb := dof_bd y (monOf mo) d
  have hcb := clo_bd hck
  have HE1 : Hid (dof y (monOf mo) d < 0 → tof y mo d ck = (0, false)) := Lib.hid (fun h => by unfold tof; rw [if_pos h])
  have HE2 : Hid (¬ dof y (monOf mo) d < 0 → tof y mo d ck = (dof y (monOf mo) d * 86400 + clo ck, decide (dof y (monOf mo) d * 86400 + clo ck ≤ 4102444799))) := Lib.hid (fun h => by unfold tof; rw [if_neg h])
  have hcl : clo ck = loose (ck.take 2) * 3600 + loose ((ck.drop 3).take 2) * 60 + loose (ck.drop 6) := rfl
  have b1 := loose_bd (ck.take 2)
  have b2 := loose_bd ((ck.drop 3).take 2)
  have b3 := loose_bd (ck.drop 6)
  rw [show (ck.take 2).length = 2 by simp; omega] at b1
  rw [show ((ck.drop 3).take 2).length = 2 by simp; omega] at b2
  rw [show (ck.drop 6).length = 2 by simp; omega] at b3
  have HL1 := Lib.hid (fun W => loose_l (ck.take 2) W (by simp; omega))
  have HL2 := Lib.hid (fun W => loose_l ((ck.drop 3).take 2) W (by simp; omega))
  have HL3 := Lib.hid (fun W => loose_l (ck.drop 6) W (by simp; omega))
  have e1 : (⟨ck.toArray⟩ : ByteArray).extract 0 2 = ⟨(ck.take 2).toArray⟩ := by rw [ext_l]; rfl
  have e2 : (⟨ck.toArray⟩ : ByteArray).extract 3 5 = ⟨((ck.drop 3).take 2).toArray⟩ := by rw [ext_l]
  have e3 : (⟨ck.toArray⟩ : ByteArray).extract 6 8 = ⟨(ck.drop 6).toArray⟩ := by rw [ext_l, List.take_of_length_le (by simp; omega)]
  have hsz : (⟨ck.toArray⟩ : ByteArray).size = 8 := by simpa [ByteArray.size] using hck
  unfold Num at HD
  generalize tof y mo d ck = p at HE1 HE2 ⊢
  generalize dof y (monOf mo) d = day at HD hdb HE1 HE2
  generalize clo ck = cl at hcb HE2 hcl
  generalize ck.take 2 = x1 at HL1 e1 hcl b1
  generalize (ck.drop 3).take 2 = x2 at HL2 e2 hcl b2
  generalize ck.drop 6 = x3 at HL3 e3 hcl b3
  generalize loose x1 = n1 at HL1 hcl b1
  generalize loose x2 = n2 at HL2 hcl b2
  generalize loose x3 = n3 at HL3 hcl b3
  generalize monOf mo = mm at HM HD
  clear ht hn wy
  obtain ⟨db1, db2⟩ := hdb
  obtain ⟨cb1, cb2⟩ := hcb
  obtain ⟨b11, b12⟩ := b1
  obtain ⟨b21, b22⟩ := b2
  obtain ⟨b31, b32⟩ := b3
  have b13 : n1 ≤ 99 := by omega
  have b23 : n2 ≤ 99 := by omega
  have b33 : n3 ≤ 99 := by omega
  clear b12 b22 b32
  have HCL := Lib.hid hcl
  clear hcl
  unfold TofEnd
  go_enter Tryd.func35, Tryd.ntmps35
  go_wp2_with (fail)
  go_at_call 49
  refine HM.out.mono ?_
  rintro e w0 ⟨rfl, rfl⟩
  go_wp2_with (fail)
  go_at_call 10
  refine HD.out.mono ?_
  rintro e w1 ⟨rfl, hb1⟩
  have HB := Lib.hid hb1
  clear hb1
  by_cases hneg : day < 0
  · have HE := Lib.hid (HE1.out hneg)
    go_wp2
    go_ret2
    exact ⟨by rw [HE.out]; rfl, HB.out⟩
  · have HE := Lib.hid (HE2.out (by omega))
    clear HE1 HE2
    have HSD : Hid (BelS w w1.drew) := Lib.hid (Rec.below_drew HB.out)
    have G1 : Hid (∀ u : RegS.In (BelS w), Calls Tryd.prog 36 #[.string ⟨x1.toArray⟩] u.w fun e w' => e = .returned (.int .i64 n1) ∧ u.w = w') := Lib.hid (fun u => HL1.out u.w)
    have G2 : Hid (∀ u : RegS.In (BelS w), Calls Tryd.prog 36 #[.string ⟨x2.toArray⟩] u.w fun e w' => e = .returned (.int .i64 n2) ∧ u.w = w') := Lib.hid (fun u => HL2.out u.w)
    have G3 : Hid (∀ u : RegS.In (BelS w), Calls Tryd.prog 36 #[.string ⟨x3.toArray⟩] u.w fun e w' => e = .returned (.int .i64 n3) ∧ u.w = w') := Lib.hid (fun u => HL3.out u.w)
    clear HL1 HL2 HL3 HM HD
    go_wp2
    refine RegS.region (BelS w) (by kernel_rfl) (by kernel_rfl) HSD.out ?_
    haveI : Nonempty (RegS.In (BelS w)) := ⟨⟨_, HSD.out⟩⟩
    repeat (first | go_big_quiet_step ((first | (go_at_call 36; with_reducible exact RegS.call (G1.out _) (fun e w' he => ⟨he.1, he.2 ▸ RegS.In.h _⟩)) | (go_at_call 36; with_reducible exact RegS.call (G2.out _) (fun e w' he => ⟨he.1, he.2 ▸ RegS.In.h _⟩)) | (go_at_call 36; with_reducible exact RegS.call (G3.out _) (fun e w' he => ⟨he.1, he.2 ▸ RegS.In.h _⟩)))) | quiet_step (fail))
    refine wpQuiet_nil ?_
    intro _ hw'
    obtain ⟨⟨wz, hS⟩, hw''⟩ := hw'
    subst hw''
    have HBB := Lib.hid hS
    clear hS
    go_wp2
    go_ret2
    refine ⟨?_, HBB.out⟩
    rw [HE.out]
    exact ret_p (by have := HCL.out; omega) (by have := HCL.out; rw [this]; congr 1; simp only [eq_iff_iff]; omega)
end Go.Proofs.YtilephkbcikfbaaDoor.Dt

/-
  CONTRACTS of the program's longDate and plainDate; nothing that was there before is changed.
-/
namespace Go.Proofs.YtilephkbcikfbaaDoor.Dt
open Go Go.RowKit
set_option linter.unusedVariables false
set_option maxRecDepth 1000000

def Dated2 (t : Int) (w : World) (e : Ending) (w' : World) : Prop := ∃ y m d : Int, CV (t / 86400) y m d ∧ e = .returned (.string ⟨(form2 t y m d).toArray⟩) ∧ Below w.heap.size w w'
def Dated3 (t : Int) (w : World) (e : Ending) (w' : World) : Prop := ∃ y m d : Int, CV (t / 86400) y m d ∧ e = .returned (.string ⟨(form3 t y m d).toArray⟩) ∧ Below w.heap.size w w'

set_option maxRecDepth 1000000 in
set_option maxHeartbeats 4000000 in
theorem impl_long (t : Int) (w : World) (h0 : 0 ≤ t) (h1 : t ≤ 4102444799) (ht : Mds w) (hn : Names w) (hten : Fmt.Tens w) :
    Calls Tryd.prog 38 #[.int .i64 t] w (Dated2 t w) := by
  have HP := Lib.hid (impl_parts t w h0 h1 ht hn hten)
  have HT := Lib.hid hten
  have hwl := dnm_len (wkd_lt (t / 86400))
  have hcl := clk_len (s := t % 86400) (by omega) (by omega)
  have HF : Hid (∀ y m d, form2 t y m d = dnm (wkd (t / 86400)) ++ [44, 32] ++ Dig.digs d 2 ++ [45] ++ mnm (m - 1).toNat ++ [45] ++ Dig.digs (y % 100) 2 ++ [32] ++ clk (t % 86400) ++ [32, 71, 77, 84]) := Lib.hid (fun _ _ _ => rfl)
  unfold Parts pv at HP
  generalize dnm (wkd (t / 86400)) = dn at hwl HP HF
  generalize clk (t % 86400) = ck at hcl HP HF
  have HWL := Lib.hid hwl
  have HCL := Lib.hid hcl
  clear ht hn hten hwl hcl
  go_enter Tryd.func38, Tryd.ntmps38
  go_wp2_with (fail)
  go_at_call 17
  refine HP.out.mono ?_
  rintro e w1 ⟨y, m, d, hcv, rfl, hb1⟩
  have HB := Lib.hid hb1
  have HCV := Lib.hid hcv
  have hml := mnm_len (k := (m - 1).toNat) (by have := hcv.2.2.1; have := hcv.2.2.2.1; omega)
  have hyb : y ≤ 2099 := hcv.2.1
  have hyb0 : 1970 ≤ y := hcv.1
  have hdb : d ≤ 9223372036854775807 := by have := hcv.2.2.2.2.2.1; have := dim_bd y m hcv.2.2.1 hcv.2.2.2.1; omega
  have HFF := Lib.hid (HF.out y m d)
  generalize mnm (m - 1).toNat = mn at hml HFF
  have HSD := Lib.hid (dates_start (a := dn) (c := mn) (e := ck) (b := d) (d := y) hb1)
  have SK : Hid (∀ w0 w1' : World, DateS w w1 dn mn ck d y w0 → Below w0.heap.size w0 w1' → DateS w w1 dn mn ck d y w1') := Lib.hid (fun _ _ h hb => dates_call h hb)
  have HG2 : Hid (∀ u : RegS.In (DateS w w1 dn mn ck d y), Calls Tryd.prog 18 #[.int .i64 d, .int .i64 2] u.w fun e w' => e = .returned (.string ⟨(Dig.digs d 2).toArray⟩) ∧ Below u.w.heap.size u.w w') := Lib.hid (fun u => Dig.impl_digits d 2 u.w hdb (Fmt.tens_below HT.out u.h.2))
  have HG4 : Hid (∀ u : RegS.In (DateS w w1 dn mn ck d y), Calls Tryd.prog 18 #[.int .i64 (y % 100), .int .i64 2] u.w fun e w' => e = .returned (.string ⟨(Dig.digs (y % 100) 2).toArray⟩) ∧ Below u.w.heap.size u.w w') := Lib.hid (fun u => Dig.impl_digits (y % 100) 2 u.w (by omega) (Fmt.tens_below HT.out u.h.2))
  have HMD : Hid (∀ u : RegS.In (DateS w w1 dn mn ck d y), Calls Tryd.prog 13 #[.int .i64 y, .int .i64 100] u.w fun e w' => e = .returned (.int .i64 (y % 100)) ∧ u.w = w') := Lib.hid (fun u => by
    have hmd : NumDiv.md y 100 = y % 100 := by unfold NumDiv.md; rw [if_pos (by decide)]
    have := NumDiv.impl_mod y 100 u.w (Go.WalkArith.wf_i64 ⟨by omega, by omega⟩) (by decide)
    rw [hmd] at this; exact this)
  have l2 := dg2 (n := d) hdb 2
  have l4 := dg2 (n := y % 100) (by omega) 2
  generalize Dig.digs d 2 = g2 at HG2 l2 HFF
  generalize Dig.digs (y % 100) 2 = g4 at HG4 l4 HFF
  generalize y % 100 = ym at HMD HG4
  have lc := HCL.out
  have ln := HWL.out
  have a1 := Tx.addtwo dn [44, 32] (by simp only [List.length_cons, List.length_nil]; omega)
  have a2 := Tx.addtwo (dn ++ [44, 32]) g2 (by simp only [List.length_append, List.length_cons, List.length_nil]; omega)
  have a3 := Tx.addtwo (dn ++ [44, 32] ++ g2) [45] (by simp only [List.length_append, List.length_cons, List.length_nil]; omega)
  have a4 := Tx.addtwo (dn ++ [44, 32] ++ g2 ++ [45]) mn (by simp only [List.length_append, List.length_cons, List.length_nil]; omega)
  have a5 := Tx.addtwo (dn ++ [44, 32] ++ g2 ++ [45] ++ mn) [45] (by simp only [List.length_append, List.length_cons, List.length_nil]; omega)
  have a6 := Tx.addtwo (dn ++ [44, 32] ++ g2 ++ [45] ++ mn ++ [45]) g4 (by simp only [List.length_append, List.length_cons, List.length_nil]; omega)
  have a7 := Tx.addtwo (dn ++ [44, 32] ++ g2 ++ [45] ++ mn ++ [45] ++ g4) [32] (by simp only [List.length_append, List.length_cons, List.length_nil]; omega)
  have a8 := Tx.addtwo (dn ++ [44, 32] ++ g2 ++ [45] ++ mn ++ [45] ++ g4 ++ [32]) ck (by simp only [List.length_append, List.length_cons, List.length_nil]; omega)
  have a9 := Tx.addtwo (dn ++ [44, 32] ++ g2 ++ [45] ++ mn ++ [45] ++ g4 ++ [32] ++ ck) [32, 71, 77, 84] (by simp only [List.length_append, List.length_cons, List.length_nil]; omega)
  generalize dn ++ [44, 32] = y1 at a1 a2 a3 a4 a5 a6 a7 a8 a9 HFF
  generalize y1 ++ g2 = y2 at a2 a3 a4 a5 a6 a7 a8 a9 HFF
  generalize y2 ++ [45] = y3 at a3 a4 a5 a6 a7 a8 a9 HFF
  generalize y3 ++ mn = y4 at a4 a5 a6 a7 a8 a9 HFF
  generalize y4 ++ [45] = y5 at a5 a6 a7 a8 a9 HFF
  generalize y5 ++ g4 = y6 at a6 a7 a8 a9 HFF
  generalize y6 ++ [32] = y7 at a7 a8 a9 HFF
  generalize y7 ++ ck = y8 at a8 a9 HFF
  generalize y8 ++ [32, 71, 77, 84] = y9 at a9 HFF
  have f0 : ∀ u : RegS.In (DateS w w1 dn mn ck d y), u.w.cell? ⟨w1.heap.size, 0, none⟩ = some (.string ⟨dn.toArray⟩) := fun u => u.h.1.1
  have f1 : ∀ u : RegS.In (DateS w w1 dn mn ck d y), u.w.cell? ⟨w1.heap.size, 1, none⟩ = some (.int .i64 d) := fun u => u.h.1.2.1
  have f2 : ∀ u : RegS.In (DateS w w1 dn mn ck d y), u.w.cell? ⟨w1.heap.size, 2, none⟩ = some (.string ⟨mn.toArray⟩) := fun u => u.h.1.2.2.1
  have f3 : ∀ u : RegS.In (DateS w w1 dn mn ck d y), u.w.cell? ⟨w1.heap.size, 3, none⟩ = some (.int .i64 y) := fun u => u.h.1.2.2.2.1
  have f4 : ∀ u : RegS.In (DateS w w1 dn mn ck d y), u.w.cell? ⟨w1.heap.size, 4, none⟩ = some (.string ⟨ck.toArray⟩) := fun u => u.h.1.2.2.2.2
  clear hb1 hcv l2 l4 lc ln hml hyb hyb0 hdb
  go_wp2
  refine RegS.region (DateS w w1 dn mn ck d y) (by kernel_rfl) (by kernel_rfl) HSD.out ?_
  haveI : Nonempty (RegS.In (DateS w w1 dn mn ck d y)) := ⟨⟨_, HSD.out⟩⟩
  repeat (first | go_big_quiet_step ((first | (go_at_call 18; with_reducible exact RegS.call (HG2.out _) (fun e w' he => ⟨he.1, SK.out _ _ (RegS.In.h _) he.2⟩)) | (go_at_call 18; with_reducible exact RegS.call (HG4.out _) (fun e w' he => ⟨he.1, SK.out _ _ (RegS.In.h _) he.2⟩)) | (go_at_call 13; with_reducible exact RegS.call (HMD.out _) (fun e w' he => ⟨he.1, he.2 ▸ RegS.In.h _⟩)))) | quiet_step (fail))
  refine wpQuiet_nil ?_
  intro _ hw'
  obtain ⟨⟨wz, hS⟩, hw''⟩ := hw'
  subst hw''
  have HBB := Lib.hid hS.2
  clear hS
  go_wp2
  go_ret
  exact ⟨y, m, d, HCV.out, congrArg (fun z : List UInt8 => Ending.returned (.string ⟨z.toArray⟩)) HFF.out.symm, HBB.out⟩
end Go.Proofs.YtilephkbcikfbaaDoor.Dt
