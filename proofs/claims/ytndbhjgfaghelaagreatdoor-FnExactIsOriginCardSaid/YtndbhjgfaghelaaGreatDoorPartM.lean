/-
  CONTRACTS AND PLAIN FACTS, several texts in one; each says in its own words what it proves.
-/
import Derived.Test.YtndbhjgfaghelaaGreatDoorPartL
import Derived.Test.YtndbhjgfaghelaaGreatDoorPartD
import Derived.Test.YtndbhjgfaghelaaGreatDoorPartF
import Derived.Test.YtndbhjgfaghelaaGreatDoorPartE
import Derived.Deep.AppendLies
import Derived.Deep.RegionWith
import Derived.RegionTactic
import Derived.Deep.RegionHeldLaw
import Derived.IntWalk
import Derived.Laws.OwnMore
import Derived.Tactics
set_option linter.unusedSimpArgs false
set_option linter.unusedVariables false

/-
  CONTRACT of the model's l12Plain; nothing that was there before is changed.
-/
namespace Go.Proofs.YtndbhjgfaghelaaGreatDoor.Nt
open Go Go.RowKit Bys
set_option linter.unusedVariables false
set_option maxRecDepth 1000000
set_option maxRecDepth 1000000

theorem bye {x : UInt8} {n : Int} (c : UInt8) (hn : (c.toNat : Int) = n) (h : x = c) : ((x.toNat : Int) == n) = true := by rw [h, hn]; simp
theorem byn {x : UInt8} {n : Int} (c : UInt8) (hn : (c.toNat : Int) = n) (h : x ≠ c) : ((x.toNat : Int) == n) = false := by
  rw [← hn]; simp only [beq_eq_false_iff_ne, ne_eq]; intro e; exact h (UInt8.toNat_inj.1 (by omega))
theorem bye' {x : UInt8} {n : Int} (c : UInt8) (hn : (c.toNat : Int) = n) (h : x = c) : ((x.toNat : Int) != n) = false := by rw [bne, bye c hn h]; rfl
theorem byn' {x : UInt8} {n : Int} (c : UInt8) (hn : (c.toNat : Int) = n) (h : x ≠ c) : ((x.toNat : Int) != n) = true := by rw [bne, byn c hn h]; rfl
theorem one_cell (z : Int) : ∀ u ∈ [Value.int .u8 z], u.oneCell' = true := by intro u hu; simp at hu; subst hu; rfl
theorem byq {c : UInt8} {n : Int} {m : Nat} (hm : m < 256) (h : (c.toNat : Int) = n) : (n == (m : Int)) = (c == UInt8.ofNat m) := by rw [← h]; exact Tx.eq_nat hm
theorem and15 : ∀ r : Fin 256, bits .and .u8 ((r.1 : Nat) : Int) 15 = ((r.1 % 16 : Nat) : Int) := by decide
theorem u8_and15 {n : Int} (h1 : 0 ≤ n) (h2 : n ≤ 255) : bits .and .u8 n 15 = n % 16 := by
  have := and15 ⟨n.toNat, by omega⟩
  simp only at this
  rw [show ((n.toNat : Nat) : Int) = n by omega] at this
  rw [this]; omega
theorem plain_mark {c : UInt8} {n : Int} (h : Tx.letc c = false) (hn : (c.toNat : Int) = n) : plainb c = ((n == 45) || ((n == 46) || ((n == 95) || (n == 126)))) := by
  have e1 := byq (m := 45) (by decide) hn
  have e2 := byq (m := 46) (by decide) hn
  have e3 := byq (m := 95) (by decide) hn
  have e4 := byq (m := 126) (by decide) hn
  unfold plainb
  rw [h, Bool.false_or]
  refine Eq.symm ?_
  rw [show (n == 45) = (c == 45) from e1, show (n == 46) = (c == 46) from e2, show (n == 95) = (c == 95) from e3, show (n == 126) = (c == 126) from e4]
  cases (c == 45) <;> cases (c == 46) <;> cases (c == 95) <;> rfl
def PS (w wr u : World) : Prop := Below wr.heap.size wr u ∧ ∃ n, u = wr.drewN n
theorem fin_two (s : ByteArray) (w : World) {p : List UInt8 × Bool} (h : normp s.data.toList = p) : Ending.returned (.tuple #[.string ⟨p.1.toArray⟩, .bool p.2]) = .returned (.tuple #[.string ⟨(normp s.data.toList).1.toArray⟩, .bool (normp s.data.toList).2]) := by rw [h]
theorem ret_q {a b : List UInt8} {x y : Bool} (h : (a, x) = (b, y)) : Ending.returned (.tuple #[.string ⟨a.toArray⟩, .bool x]) = .returned (.tuple #[.string ⟨b.toArray⟩, .bool y]) := by cases h; rfl
theorem news_three (w : World) (x y z : Value) (T : TypeId) : ∀ j u, [x, y, z][j]? = some u → (w.alloc (.cells #[x, y, z] T)).cell? ((⟨w.heap.size, 0, none⟩ : Addr).add j) = some u := by
  intro j u hj
  match j, hj with
  | 0, hj => simp at hj; subst hj; show World.cell? _ ⟨w.heap.size, 0 + 0, none⟩ = _; rw [World.cell?_alloc_new]; rfl
  | 1, hj => simp at hj; subst hj; show World.cell? _ ⟨w.heap.size, 0 + 1, none⟩ = _; rw [World.cell?_alloc_new]; rfl
  | 2, hj => simp at hj; subst hj; show World.cell? _ ⟨w.heap.size, 0 + 2, none⟩ = _; rw [World.cell?_alloc_new]; rfl
theorem own_three {w : World} {B : Nat} {v : Value} {l : List UInt8} {a b c : UInt8} (h : w.ownsRow B 5 1 v (l.length + 3) (bvs l ++ [bvl a, bvl b, bvl c])) : Own w B v (l ++ [a, b, c]) := by
  show w.ownsRow B 5 1 v (l ++ [a, b, c]).length (bvs (l ++ [a, b, c]))
  rw [show bvs (l ++ [a, b, c]) = bvs l ++ [bvl a, bvl b, bvl c] by unfold bvs; simp, List.length_append]; exact h
theorem ones_three (a b c : UInt8) : ∀ u ∈ [bvl a, bvl b, bvl c], u.oneCell' = true := by
  intro u hu; simp at hu; rcases hu with h | h | h <;> subst h <;> rfl

set_option maxHeartbeats 4000000 in
theorem spec_plain (s : ByteArray) (w : World) (hs : s.size ≤ 4194304) :
    Calls Tryz.prog 181 #[.string s] w (PairEnd (normp s.data.toList) w) := by
  obtain ⟨i0, hi, hz0, hz1, hz2⟩ := info_parts info_byte
  have HO := Lib.hid (own_lit_nil w)
  obtain ⟨p, hp⟩ : ∃ p, normp s.data.toList = p := ⟨_, rfl⟩
  have HPP : Hid (∀ q, normp s.data.toList = q → p = q) := Lib.hid (fun _ h => hp.symm.trans h)
  unfold PairEnd
  rw [hp]
  clear hp
  obtain ⟨p1, p2⟩ := p
  go_enter Tryz.func181, Tryz.ntmps181
  go_wp2
  go_loopw [4, 5] (fun v i wr => ∃ (k : Nat) (out : List UInt8), i = .int .i64 (k : Int) ∧ k ≤ s.size ∧ Own wr w.heap.size v out ∧ NR s k out ∧ Below w.heap.size w wr) (fun _ i _ => s.size - (intOf i).toNat)
  case atStart => exact ⟨0, [], rfl, Nat.zero_le _, HO.out, nr_start s, (Below.refl _ _).alloc (Nat.le_refl _) _⟩
  case round =>
    clear HO
    obtain ⟨k, out, rfl, hks, hown, hnr, hb⟩ := hrel
    have HR := Lib.hid hnr
    have HL : Hid (out.length ≤ s.size) := Lib.hid (Nat.le_trans hnr.2 hks)
    have hbl : (bvs out).length = out.length := bvs_len out
    have HO := Lib.hid hown
    have HB := Lib.hid hb
    have hbs := hb.size
    clear hnr hb
    by_cases hlt : k < s.size
    case neg =>
      have HE := Lib.hid (HPP.out _ (normp_some (nr_end HR.out hlt)))
      have hks2 : (s.size : Int) ≤ (k : Int) := by omega
      have hcv := own_str hown
      clear hown
      go_wp2
      go_ret2
      exact ⟨ret_q HE.out.symm, HB.out⟩
    by_cases hc : s[k] = 37
    case neg =>
      have hcc := byn' (n := 37) 37 (by decide) hc
      have HE := Lib.hid (nr_plain HR.out hlt hc)
      clear hc
      go_wp2_with (at_builtin; refine wpList_append_own _ rfl (.tmp 18) (.tmp 22) 22 rfl w.heap.size 5 i0 (.int .u8 0) 1 1 Tryz.underlying22 hi hz0 hz1 hz2 rfl (by decide) _ _ _ rfl (hown.alloc _) ⟨wr.heap.size, 0, none⟩ 1 1 [.int .u8 (s[k].toNat : Int)] rfl rfl (news_one _ _ _) (bvl_one _) (by have := HL.out; unfold maxLen; omega) (by have := HL.out; omega) (by rw [World.size_alloc]; omega) ?_; intro v1 w1 hown1 hg1 _)
      have R := Lib.hid (push_own (c := s[k]) hown HB.out (Nat.le_refl _) hown1 hg1)
      clear hown hown1 hg1
      go_wp2
      go_roundw
      case rel => exact ⟨k + 1, _, by go_num, by omega, R.out.1, HE.out, R.out.2⟩
      case measure => simp [intOf]; omega
    have hcc := bye' (n := 37) 37 (by decide) hc
    have hc' := Lib.hid hc
    clear hc
    by_cases hk2 : k + 2 < s.size
    case neg =>
      have HE := Lib.hid (HPP.out _ (normp_none (nr_short HR.out hlt hc'.out (by omega))))
      have hk2' : (s.size : Int) ≤ (k : Int) + 2 := by omega
      clear hown
      go_wp2
      go_ret2
      exact ⟨ret_q HE.out.symm, HB.out⟩
    have hk2' : (k : Int) + 2 < (s.size : Int) := by omega
    have hk1' : (k : Int) + 1 < (s.size : Int) := by omega
    have hk1 : k + 1 < s.size := by omega
    have e1 : ((k : Int) + 1).toNat = k + 1 := by omega
    have e2 : ((k : Int) + 2).toNat = k + 2 := by omega
    have H1 := Lib.hid (fun W => spec_hex s[k + 1] W)
    have H2 := Lib.hid (fun W => spec_hex s[k + 2] W)
    by_cases hx1 : hexn s[k + 1] < 16
    case neg =>
      have HE := Lib.hid (HPP.out _ (normp_none (nr_bad HR.out hk2 hc'.out (fun h => hx1 h.1))))
      rw [hexi_no hx1] at H1
      clear hown hx1 H2
      go_wp2_with (go_at_call 235; refine (H1.out _).mono ?_; rintro e w' ⟨rfl, rfl⟩)
      go_ret2
      exact ⟨ret_q HE.out.symm, HB.out⟩
    by_cases hx2 : hexn s[k + 2] < 16
    case neg =>
      have HE := Lib.hid (HPP.out _ (normp_none (nr_bad HR.out hk2 hc'.out (fun h => hx2 h.2))))
      rw [hexi_yes hx1] at H1
      rw [hexi_no hx2] at H2
      have hx0 : 0 ≤ (hexn s[k + 1] : Int) := by omega
      clear hown hx1 hx2
      go_wp2_with (fail)
      go_at_call 235
      refine (H1.out _).mono ?_
      rintro e w' ⟨rfl, rfl⟩
      go_wp2_with (fail)
      go_at_call 235
      refine (H2.out _).mono ?_
      rintro e w' ⟨rfl, rfl⟩
      go_wp2
      go_ret2
      exact ⟨ret_q HE.out.symm, HB.out⟩
    have HE := Lib.hid (nr_code HR.out hk2 hc'.out hx1 hx2)
    rw [hexi_yes hx1] at H1
    rw [hexi_yes hx2] at H2
    generalize hexn s[k + 1] = x at HE H1 hx1
    generalize hexn s[k + 2] = y at HE H2 hx2
    have hx0 : 0 ≤ (x : Int) := by omega
    have hy0 : 0 ≤ (y : Int) := by omega
    have hx16 : (x : Int) < 16 := by omega
    have hy16 : (y : Int) < 16 := by omega
    have hbn : ((bt x y).toNat : Int) = 16 * (x : Int) + (y : Int) := by rw [bt_nat hx1 hx2]; omega
    have HLT := Lib.hid (fun W => Tx.letter_byte (bt x y) W)
    rw [hbn] at HLT
    have hwr : IntKind.u8.wrap (16 * (x : Int) + (y : Int)) = 16 * (x : Int) + (y : Int) := by unfold IntKind.wrap; simp [IntKind.signed, IntKind.bits]; omega
    have hw1 : IntKind.i64.wrap ((k : Int) + 1) = (k : Int) + 1 := IntWalk.i64_in _ (by omega)
    have hw2 : IntKind.i64.wrap ((k : Int) + 2) = (k : Int) + 2 := IntWalk.i64_in _ (by omega)
    have hw3 : IntKind.i64.wrap (16 * (x : Int)) = 16 * (x : Int) := IntWalk.i64_in _ (by omega)
    have hw4 : IntKind.i64.wrap (16 * (x : Int) + (y : Int)) = 16 * (x : Int) + (y : Int) := IntWalk.i64_in _ (by omega)
    have hk0 : 0 ≤ (k : Int) + 1 := by omega
    have hk00 : 0 ≤ (k : Int) + 2 := by omega
    have Q1 : Hid (∀ n, Calls Tryz.prog 235 #[.int .u8 (s[k + 1].toNat : Int)] (wr.drewN n) fun e w'' => e = .returned (.int .i64 (x : Int)) ∧ ∃ m, w'' = wr.drewN m) := Lib.hid (fun n => (H1.out _).mono (fun e w' h => ⟨h.1, n, h.2.symm⟩))
    have Q2 : Hid (∀ n, Calls Tryz.prog 235 #[.int .u8 (s[k + 2].toNat : Int)] (wr.drewN n) fun e w'' => e = .returned (.int .i64 (y : Int)) ∧ ∃ m, w'' = wr.drewN m) := Lib.hid (fun n => (H2.out _).mono (fun e w' h => ⟨h.1, n, h.2.symm⟩))
    go_wp2_with (fail)
    go_at_call 235
    refine (H1.out _).mono ?_
    rintro e w' ⟨rfl, rfl⟩
    go_wp2_with (fail)
    go_at_call 235
    refine (H2.out _).mono ?_
    rintro e w' ⟨rfl, rfl⟩
    have HSD : Hid (PS w wr wr.drew) := Lib.hid ⟨(Below.refl _ _).drew, ⟨0 + 1, rfl⟩⟩
    have R1 : ∀ u : RegS.In (PS w wr), Calls Tryz.prog 235 #[.int .u8 (s[k + 1].toNat : Int)] u.w fun e w'' => e = .returned (.int .i64 (x : Int)) ∧ ∃ m : RegS.In (PS w wr), w'' = m.w := fun u => (H1.out _).mono (fun e w' h => ⟨h.1, u, h.2.symm⟩)
    have R2 : ∀ u : RegS.In (PS w wr), Calls Tryz.prog 235 #[.int .u8 (s[k + 2].toNat : Int)] u.w fun e w'' => e = .returned (.int .i64 (y : Int)) ∧ ∃ m : RegS.In (PS w wr), w'' = m.w := fun u => (H2.out _).mono (fun e w' h => ⟨h.1, u, h.2.symm⟩)
    go_wp2
    refine RegS.region (PS w wr) (by kernel_rfl) (by kernel_rfl) HSD.out ?_
    haveI : Nonempty (RegS.In (PS w wr)) := ⟨⟨_, HSD.out⟩⟩
    iterate 5 (quiet_step ((go_at_call 235; exact R1 _)))
    repeat (quiet_step ((go_at_call 235; exact R2 _)))
    refine wpQuiet_nil ?_
    intro wz hw'
    obtain ⟨⟨wq, hS⟩, hw''⟩ := hw'
    subst hw''
    have HBZ := Lib.hid (HB.out.trans (hS.1.mono HB.out.size))
    have HOZ := Lib.hid (Rec.row_below hown hS.1)
    clear hS R1 R2 HSD H1 H2 hown HB HO hw3 hw4 hwr
    have hbz := HBZ.out.size
    have hoz := HOZ.out
    clear HOZ
    have HN : Hid (((bt x y).toNat : Int) = 16 * (x : Int) + (y : Int)) := Lib.hid hbn
    have hn1 : (16 * (x : Int) + (y : Int)) / 16 = (x : Int) := by omega
    have hn2 : (16 * (x : Int) + (y : Int)) % 16 = (y : Int) := by omega
    have hn0 : 0 ≤ 16 * (x : Int) + (y : Int) := by omega
    have hn255 : 16 * (x : Int) + (y : Int) ≤ 255 := by omega
    have HPL : Hid (Tx.letc (bt x y) = false → plainb (bt x y) = (((16 * (x : Int) + (y : Int)) == 45) || (((16 * (x : Int) + (y : Int)) == 46) || (((16 * (x : Int) + (y : Int)) == 95) || ((16 * (x : Int) + (y : Int)) == 126))))) := Lib.hid (fun h => plain_mark h hbn)
    clear hbn
    generalize 16 * (x : Int) + (y : Int) = n at HN HLT HPL hn1 hn2 hn0 hn255 ⊢
    cases hlet : Tx.letc (bt x y) with
    | true =>
      rw [hlet] at HLT
      have HC : Hid (code x y = [bt x y]) := Lib.hid (code_yes (by unfold plainb; rw [hlet]; rfl))
      clear HPL hlet
      go_wp2_with (fail)
      go_at_call 214
      refine (HLT.out _).mono ?_
      rintro e w' ⟨rfl, rfl⟩
      go_wp2_with (at_builtin; refine wpList_append_own _ rfl (.tmp 76) (.tmp 78) 22 rfl w.heap.size 5 i0 (.int .u8 0) 1 1 Tryz.underlying22 hi hz0 hz1 hz2 rfl (by decide) _ _ _ rfl (hoz.alloc _) ⟨wz.heap.size, 0, none⟩ 1 1 [.int .u8 n] rfl rfl (news_one _ _ _) (one_cell n) (by have := HL.out; unfold maxLen; omega) (by have := HL.out; omega) (by rw [World.size_alloc]; omega) ?_; intro v1 w1 hown1 hg1 _)
      have R := Lib.hid (push_own (c := bt x y) hoz HBZ.out (Nat.le_refl _) (by unfold bvl; rw [HN.out]; exact hown1) hg1)
      clear hoz hown1 hg1
      go_wp2
      go_roundw
      case rel => exact ⟨k + 3, _, by go_num, by omega, R.out.1, by rw [← HC.out]; exact HE.out, R.out.2⟩
      case measure => simp [intOf]; omega
    | false =>
      rw [hlet] at HLT
      have HPL := Lib.hid (HPL.out hlet)
      clear hlet
      by_cases m1 : n = 45
      · have HC : Hid (code x y = [bt x y]) := Lib.hid (code_yes (by rw [HPL.out, m1]; rfl))
        have hm : (n == 45) = true := by simpa using m1
        clear HPL m1
        go_wp2_with (fail)
        go_at_call 214
        refine (HLT.out _).mono ?_
        rintro e w' ⟨rfl, rfl⟩
        go_wp2_with (at_builtin; refine wpList_append_own _ rfl (.tmp 76) (.tmp 78) 22 rfl w.heap.size 5 i0 (.int .u8 0) 1 1 Tryz.underlying22 hi hz0 hz1 hz2 rfl (by decide) _ _ _ rfl (hoz.alloc _) ⟨wz.heap.size, 0, none⟩ 1 1 [.int .u8 n] rfl rfl (news_one _ _ _) (one_cell n) (by have := HL.out; unfold maxLen; omega) (by have := HL.out; omega) (by rw [World.size_alloc]; omega) ?_; intro v1 w1 hown1 hg1 _)
        have R := Lib.hid (push_own (c := bt x y) hoz HBZ.out (Nat.le_refl _) (by unfold bvl; rw [HN.out]; exact hown1) hg1)
        clear hoz hown1 hg1
        go_wp2
        go_roundw
        case rel => exact ⟨k + 3, _, by go_num, by omega, R.out.1, by rw [← HC.out]; exact HE.out, R.out.2⟩
        case measure => simp [intOf]; omega
      have M1 : (n == 45) = false := by simpa using m1
      by_cases m2 : n = 46
      · have HC : Hid (code x y = [bt x y]) := Lib.hid (code_yes (by rw [HPL.out, m2]; rfl))
        have hm : (n == 46) = true := by simpa using m2
        clear HPL m2 m1
        go_wp2_with (fail)
        go_at_call 214
        refine (HLT.out _).mono ?_
        rintro e w' ⟨rfl, rfl⟩
        go_wp2_with (at_builtin; refine wpList_append_own _ rfl (.tmp 76) (.tmp 78) 22 rfl w.heap.size 5 i0 (.int .u8 0) 1 1 Tryz.underlying22 hi hz0 hz1 hz2 rfl (by decide) _ _ _ rfl (hoz.alloc _) ⟨wz.heap.size, 0, none⟩ 1 1 [.int .u8 n] rfl rfl (news_one _ _ _) (one_cell n) (by have := HL.out; unfold maxLen; omega) (by have := HL.out; omega) (by rw [World.size_alloc]; omega) ?_; intro v1 w1 hown1 hg1 _)
        have R := Lib.hid (push_own (c := bt x y) hoz HBZ.out (Nat.le_refl _) (by unfold bvl; rw [HN.out]; exact hown1) hg1)
        clear hoz hown1 hg1
        go_wp2
        go_roundw
        case rel => exact ⟨k + 3, _, by go_num, by omega, R.out.1, by rw [← HC.out]; exact HE.out, R.out.2⟩
        case measure => simp [intOf]; omega
      have M2 : (n == 46) = false := by simpa using m2
      by_cases m3 : n = 95
      · have HC : Hid (code x y = [bt x y]) := Lib.hid (code_yes (by rw [HPL.out, m3]; rfl))
        have hm : (n == 95) = true := by simpa using m3
        clear HPL m3 m1 m2
        go_wp2_with (fail)
        go_at_call 214
        refine (HLT.out _).mono ?_
        rintro e w' ⟨rfl, rfl⟩
        go_wp2_with (at_builtin; refine wpList_append_own _ rfl (.tmp 76) (.tmp 78) 22 rfl w.heap.size 5 i0 (.int .u8 0) 1 1 Tryz.underlying22 hi hz0 hz1 hz2 rfl (by decide) _ _ _ rfl (hoz.alloc _) ⟨wz.heap.size, 0, none⟩ 1 1 [.int .u8 n] rfl rfl (news_one _ _ _) (one_cell n) (by have := HL.out; unfold maxLen; omega) (by have := HL.out; omega) (by rw [World.size_alloc]; omega) ?_; intro v1 w1 hown1 hg1 _)
        have R := Lib.hid (push_own (c := bt x y) hoz HBZ.out (Nat.le_refl _) (by unfold bvl; rw [HN.out]; exact hown1) hg1)
        clear hoz hown1 hg1
        go_wp2
        go_roundw
        case rel => exact ⟨k + 3, _, by go_num, by omega, R.out.1, by rw [← HC.out]; exact HE.out, R.out.2⟩
        case measure => simp [intOf]; omega
      have M3 : (n == 95) = false := by simpa using m3
      by_cases m4 : n = 126
      · have HC : Hid (code x y = [bt x y]) := Lib.hid (code_yes (by rw [HPL.out, m4]; rfl))
        have hm : (n == 126) = true := by simpa using m4
        clear HPL m4 m1 m2 m3
        go_wp2_with (fail)
        go_at_call 214
        refine (HLT.out _).mono ?_
        rintro e w' ⟨rfl, rfl⟩
        go_wp2_with (at_builtin; refine wpList_append_own _ rfl (.tmp 76) (.tmp 78) 22 rfl w.heap.size 5 i0 (.int .u8 0) 1 1 Tryz.underlying22 hi hz0 hz1 hz2 rfl (by decide) _ _ _ rfl (hoz.alloc _) ⟨wz.heap.size, 0, none⟩ 1 1 [.int .u8 n] rfl rfl (news_one _ _ _) (one_cell n) (by have := HL.out; unfold maxLen; omega) (by have := HL.out; omega) (by rw [World.size_alloc]; omega) ?_; intro v1 w1 hown1 hg1 _)
        have R := Lib.hid (push_own (c := bt x y) hoz HBZ.out (Nat.le_refl _) (by unfold bvl; rw [HN.out]; exact hown1) hg1)
        clear hoz hown1 hg1
        go_wp2
        go_roundw
        case rel => exact ⟨k + 3, _, by go_num, by omega, R.out.1, by rw [← HC.out]; exact HE.out, R.out.2⟩
        case measure => simp [intOf]; omega
      have M4 : (n == 126) = false := by simpa using m4
      have HC : Hid (code x y = [37, dig x, dig y]) := Lib.hid (code_no (by rw [HPL.out, M1, M2, M3, M4]; rfl))
      clear HPL m1 m2 m3 m4
      have hshr : n / 2 ^ 4 = (x : Int) := by omega
      have hand : bits .and .u8 n 15 = (y : Int) := by rw [u8_and15 hn0 hn255]; exact hn2
      have hxt : ((x : Int)).toNat = x := by omega
      have hyt : ((y : Int)).toNat = y := by omega
      have hdx := hex_at x hx1
      have hdy := hex_at y hx2
      have HOD := Lib.hid (World.ownsRow.drew hoz)
      have hdz : wz.drew.heap.size = wz.heap.size := rfl
      have HBD := Lib.hid (HBZ.out.drew)
      clear hoz HBZ
      go_wp2_with (fail)
      go_at_call 214
      refine (HLT.out _).mono ?_
      rintro e w' ⟨rfl, rfl⟩
      go_wp2_with (fail)
      go_region_held_law (fun _ => True)
        (exact True.intro)
        (first | (refine step_append_lies _ (by rfl) (.tmp 80) (.tmp 87) 22 (by rfl) w.heap.size 5 i0 (.int .u8 0) 1 1 Tryz.underlying22 hi hz0 hz1 hz2 (by rfl) (by decide) _ _ _ (by rfl) (HOD.out.alloc _) ⟨wz.heap.size, 0, none⟩ 3 3 [bvl 37, bvl (dig x), bvl (dig y)] (by rfl) (by rfl) (news_three _ _ _ _ _) (ones_three _ _ _) (by decide) (by have := HL.out; unfold maxLen; omega) (by have := HL.out; omega) (by simp; omega) _ rfl ?_; intro g gcap w4 hown1 hgrow hat hglt))
      all_goals (
        have R1 := Lib.hid (own_three hown1)
        have R2 := Lib.hid ((HBD.out.alloc (by rw [hdz]; exact hbz) (.cells #[bvl 37, bvl (dig x), bvl (dig y)] 5)).grown hgrow (by simp; omega) (fun q e => (HOD.out.lt q e).1))
        have hsz4 := hgrow.size
        clear hown1 hgrow hat hglt hdx hdy
        go_wp2
        go_roundw)
      all_goals first
        | exact ⟨k + 3, _, by go_num, by omega, R1.out, by rw [← HC.out]; exact HE.out, R2.out⟩
        | (simp [intOf]; omega)
end Go.Proofs.YtndbhjgfaghelaaGreatDoor.Nt

/-
  PLAIN FACTS on lists of texts in order: putting one in its place, and that there is one order.
-/
namespace Go.Proofs.YtndbhjgfaghelaaGreatDoor.Nt
open Go Go.RowKit
set_option linter.unusedVariables false
set_option maxRecDepth 1000000

abbrev Txt := List UInt8
def Sorted (xs : List Txt) : Prop := xs.Pairwise (fun x y => x ≤ y)
theorem tle_total (x y : Txt) : x ≤ y ∨ y ≤ x := List.le_total x y
theorem tle_trans {x y z : Txt} (h1 : x ≤ y) (h2 : y ≤ z) : x ≤ z := List.le_trans h1 h2
theorem tle_anti {x y : Txt} (h1 : x ≤ y) (h2 : y ≤ x) : x = y := List.le_antisymm h1 h2
theorem tle_of_lt {x y : Txt} (h : x < y) : x ≤ y := List.le_of_lt h
theorem tle_of_not {x y : Txt} (h : ¬ x < y) : y ≤ x := List.not_lt.1 h
theorem sorted_qsort (xs : List Txt) : Sorted (qsort xs) := by
  have := List.pairwise_mergeSort (le := fun x y : Txt => decide (x ≤ y)) (fun a b c h1 h2 => by simp only [decide_eq_true_eq] at *; exact tle_trans h1 h2) (fun a b => by simp only [Bool.or_eq_true, decide_eq_true_eq]; exact tle_total a b) xs
  exact this.imp (fun h => by simpa using h)
theorem sorted_uniq {xs ys : List Txt} (hp : xs.Perm ys) (h1 : Sorted xs) (h2 : Sorted ys) : xs = ys :=
  List.Perm.eq_of_pairwise (le := fun x y : Txt => x ≤ y) (fun a b _ _ h h' => tle_anti h h') h1 h2 hp
/-- The list with c at place m. -/
def ins (xs : List Txt) (m : Nat) (c : Txt) : List Txt := xs.take m ++ c :: xs.drop m
theorem ins_perm (xs : List Txt) (m : Nat) (c : Txt) : (ins xs m c).Perm (xs ++ [c]) := by
  unfold ins
  have h1 : (xs.take m ++ c :: xs.drop m).Perm (c :: (xs.take m ++ xs.drop m)) := List.perm_middle
  rw [List.take_append_drop] at h1
  exact h1.trans (List.perm_append_comm (l₁ := [c]) (l₂ := xs))
theorem ins_sorted {xs : List Txt} {m : Nat} {c : Txt} (h : Sorted xs) (hm : m ≤ xs.length) (h1 : ∀ j, m ≤ j → (hj : j < xs.length) → c < xs[j]) (h2 : m = 0 ∨ ∃ hj : m - 1 < xs.length, ¬ c < xs[m - 1]) : Sorted (ins xs m c) := by
  unfold Sorted ins at *
  rw [List.pairwise_append, List.pairwise_cons]
  have hd : ∀ y ∈ xs.drop m, c < y := by
    intro y hy
    obtain ⟨j, hj, rfl⟩ := List.mem_iff_getElem.1 hy
    rw [List.getElem_drop]
    rw [List.length_drop] at hj
    exact h1 (m + j) (by omega) (by omega)
  have ht : ∀ x ∈ xs.take m, x ≤ c := by
    intro x hx
    obtain ⟨j, hj, rfl⟩ := List.mem_iff_getElem.1 hx
    rw [List.length_take] at hj
    rw [List.getElem_take]
    rcases h2 with h2 | ⟨hj', h2⟩
    · omega
    · have hle : xs[m - 1] ≤ c := tle_of_not h2
      by_cases e : j = m - 1
      · subst e; exact hle
      · exact tle_trans (List.pairwise_iff_getElem.1 h j (m - 1) (by omega) hj' (by omega)) hle
  refine ⟨h.take, ⟨fun y hy => tle_of_lt (hd y hy), h.drop⟩, fun x hx y hy => ?_⟩
  rcases List.mem_cons.1 hy with rfl | hy
  · exact ht x hx
  · exact tle_trans (ht x hx) (tle_of_lt (hd y hy))
/-- Putting a text into what is in order is the order of what was there and it. -/
theorem ins_qsort {xs : List Txt} {m : Nat} {c : Txt} (hm : m ≤ (qsort xs).length) (h1 : ∀ j, m ≤ j → (hj : j < (qsort xs).length) → c < (qsort xs)[j]) (h2 : m = 0 ∨ ∃ hj : m - 1 < (qsort xs).length, ¬ c < (qsort xs)[m - 1]) : ins (qsort xs) m c = qsort (xs ++ [c]) :=
  sorted_uniq ((ins_perm _ _ _).trans ((((List.mergeSort_perm xs _).append_right [c])).trans (List.mergeSort_perm _ _).symm)) (ins_sorted (sorted_qsort xs) hm h1 h2) (sorted_qsort _)
theorem bytes_less : ∀ (x y : List UInt8), Op.bytesLess x y = decide (x < y)
  | [], [] => by simp [Op.bytesLess]
  | _ :: _, [] => by simp [Op.bytesLess]
  | [], _ :: _ => by simp [Op.bytesLess]
  | a :: x, b :: y => by
    rw [Op.bytesLess, bytes_less x y]
    simp only [List.cons_lt_cons_iff]
    by_cases h1 : a < b <;> by_cases h2 : a = b <;> by_cases h3 : x < y <;> simp [h1, h2, h3]
theorem less_walk (x y : Txt) : Op.bytesLess (⟨x.toArray⟩ : ByteArray).toList (⟨y.toArray⟩ : ByteArray).toList = decide (x < y) := by
  rw [bytes_less, Lib.toList_data, Lib.toList_data]
end Go.Proofs.YtndbhjgfaghelaaGreatDoor.Nt

/-
  A LAW FOR append(built, given...): what the call has built, and behind it a slice that reads as a list of structs, whether nil, empty or not.
-/
namespace Go.Proofs.YtndbhjgfaghelaaGreatDoor.Rec
open Go Go.RowKit
set_option linter.unusedVariables false
set_option maxRecDepth 1000000

theorem run_append_zero {P : Program} {w : World} {base n size c : Nat} {t ty e : TypeId} {i : TypeInfo} {v : Value} {xs : List Value} (hown : w.ownsRow base e size v n xs) (hi : P.info? e = some i) (ht : P.underlying t = some (.slice e)) :
    (Builtin.append_ #[t, t] ty #[v, .slice none 0 c]).run P w = .ok v w := by
  have hu := run_underlying ht
  cases hown.2 with
  | inl h => obtain ⟨rfl, rfl⟩ := h; simp [Builtin.lenOf, Builtin.firstCells, Builtin.append_, sizeOf, typeInfo, hu, hi]
  | inr h => obtain ⟨g, cap, cur, rfl, _, _, hnc, _⟩ := h; simp [Builtin.lenOf, Builtin.firstCells, Builtin.append_, sizeOf, typeInfo, storeCells, hu, hi, hnc]
section
variable {α : Type} {n : Nat} {cs : α → List Value} {z : α}
theorem wp_append_holds (hl : ∀ a, (cs a).length = n) (h1 : ∀ a, ∀ u ∈ cs a, u.oneCell' = true) {P : Program} {w : World} {o : Oper} {a : Act} {K : Act → World → Prop} {Q : Exit → Act → World → Prop}
    (s x : Operand) (t e : TypeId) (ho : o.op = .call { callee := .builtin .append, args := #[s, x], argTypes := #[t, t] }) (ht : P.underlying t = some (.slice e))
    {i : TypeInfo} (hi : P.info? e = some i) {zv : Value} (hz : i.zero = some zv) {bytes : Nat} (hsize : i.size = n) (hby : i.bytes = bytes) (hzs : zv.cells.size = n) (hsz : 0 < n)
    {B base : Nat} {v vx : Value} {l m : List α} (hs : a.eval s = v) (hx : a.eval x = vx) (hown : w.ownsRow base e n v l.length (flat cs l)) (hm : Holds n cs z w B vx m)
    (h63 : l.length + m.length ≤ maxLen) (hbytes : (l.length + m.length) * bytes ≤ 140737488355328) (hbase : base ≤ w.heap.size)
    (h : ∀ v' w', w'.ownsRow base e n v' (l ++ m).length (flat cs (l ++ m)) → w.grownBy w' v.ownBlock → K (a.put o.dst v') w') : o.wp P a w K Q := by
  have key : ∀ (ad : Addr) (cap : Nat), vx = .slice (some ad) m.length cap → (∀ j u, (flat cs m)[j]? = some u → w.cell? (ad.add j) = some u) → o.wp P a w K Q := fun ad cap hv hc =>
    wp_append_own w s x t ho base e i zv n bytes ht hi hz hsize hby hzs hsz v l.length (flat cs l) hs hown ad m.length cap (flat cs m) (hx.trans hv) (flat_len hl m) hc (flat_one h1 m) h63 hbytes hbase
      fun v' w' h2 h3 _ => h v' w' (by rw [List.length_append, flat_append]; exact h2) h3
  rcases hm with ⟨rfl, ad, cap, rfl⟩ | ⟨h0, b, off, cap, rfl, hB, hc, hcell⟩
  · cases ad with
    | some ad => exact key ad cap rfl (fun j u hu => by simp [flat] at hu)
    | none =>
      have hh := h v w (by simpa using hown) (World.grownBy.refl w _)
      have hr := run_append_zero (P := P) (ty := o.type) (c := cap) hown hi ht
      unfold Oper.wp
      simp [hs, hx, hr, ho, execOp, resolve, invoke, builtin, Result.andThen]
      exact hh
  · refine key ⟨b, off, none⟩ cap rfl (fun j u hu => ?_)
    have hlt := (List.getElem?_eq_some_iff.1 hu).1
    rw [flat_len hl] at hlt
    have hj : j / n < m.length := (Nat.div_lt_iff_lt_mul hsz).2 hlt
    have hi' : j % n < (cs (m.getD (j / n) z)).length := by rw [hl]; exact Nat.mod_lt _ hsz
    have e1 : j / n * n + j % n = j := by rw [Nat.mul_comm]; exact Nat.div_add_mod j n
    have h3 := flat_at hl (z := z) (l := m) hj (List.getElem?_eq_getElem hi')
    rw [e1, hu] at h3
    have h4 := hcell (j / n) hj (j % n) _ (List.getElem?_eq_getElem hi')
    rw [Nat.add_assoc, e1] at h4
    rw [WideShapes.add_plain, h4, ← h3]
theorem append_holds (hl : ∀ a, (cs a).length = n) (h1 : ∀ a, ∀ u ∈ cs a, u.oneCell' = true) {P : Program} {w : World} {ops : Array Oper} {rest : List Oper} {o : Oper} {a : Act} {Q : Exit → Act → World → Prop} (hgd : o.guard = none)
    (s x : Operand) (t e : TypeId) (ho : o.op = .call { callee := .builtin .append, args := #[s, x], argTypes := #[t, t] }) (ht : P.underlying t = some (.slice e))
    {i : TypeInfo} (hi : P.info? e = some i) {zv : Value} (hz : i.zero = some zv) {bytes : Nat} (hsize : i.size = n) (hby : i.bytes = bytes) (hzs : zv.cells.size = n) (hsz : 0 < n)
    {B base : Nat} {v vx : Value} {l m : List α} (hs : a.eval s = v) (hx : a.eval x = vx) (hown : w.ownsRow base e n v l.length (flat cs l)) (hm : Holds n cs z w B vx m)
    (h63 : l.length + m.length ≤ maxLen) (hbytes : (l.length + m.length) * bytes ≤ 140737488355328) (hbase : base ≤ w.heap.size)
    (h : ∀ v' w', w'.ownsRow base e n v' (l ++ m).length (flat cs (l ++ m)) → w.grownBy w' v.ownBlock → wpList P ops Q rest (a.put o.dst v') w') : wpList P ops Q (o :: rest) a w :=
  wpList_plain hgd fun _ hK => wp_append_holds hl h1 s x t e ho ht hi hz hsize hby hzs hsz hs hx hown hm h63 hbytes hbase fun v' w' h2 h3 => hK _ _ (h v' w' h2 h3)
/-- At a step of a region that draws its order. -/
theorem step_holds (hl : ∀ a, (cs a).length = n) (h1 : ∀ a, ∀ u ∈ cs a, u.oneCell' = true) {P : Program} {w : World} {ops : Array Oper} {o : Oper} {a : Act} {K : Act → World → Prop} {E : Prop} {Q : Exit → Act → World → Prop} (hgd : o.guard = none)
    (s x : Operand) (t e : TypeId) (ho : o.op = .call { callee := .builtin .append, args := #[s, x], argTypes := #[t, t] }) (ht : P.underlying t = some (.slice e))
    {i : TypeInfo} (hi : P.info? e = some i) {zv : Value} (hz : i.zero = some zv) {bytes : Nat} (hsize : i.size = n) (hby : i.bytes = bytes) (hzs : zv.cells.size = n) (hsz : 0 < n)
    {B base : Nat} {v vx : Value} {l m : List α} (hs : a.eval s = v) (hx : a.eval x = vx) (hown : w.ownsRow base e n v l.length (flat cs l)) (hm : Holds n cs z w B vx m)
    (h63 : l.length + m.length ≤ maxLen) (hbytes : (l.length + m.length) * bytes ≤ 140737488355328) (hbase : base ≤ w.heap.size)
    (h : ∀ v' w', w'.ownsRow base e n v' (l ++ m).length (flat cs (l ++ m)) → w.grownBy w' v.ownBlock → K (a.put o.dst v') w') : if Region.wanted o (yielded ops a.tmps) = true then Oper.wp P o a w K Q else E := by
  have hw : Region.wanted o (yielded ops a.tmps) = true := by simp [Region.wanted, hgd]
  rw [if_pos hw]
  exact wp_append_holds hl h1 s x t e ho ht hi hz hsize hby hzs hsz hs hx hown hm h63 hbytes hbase h
end
end Go.Proofs.YtndbhjgfaghelaaGreatDoor.Rec

/-
  PLAIN FACTS for putting a text into a list at a place, and for texts joined with one byte.
-/
namespace Go.Proofs.YtndbhjgfaghelaaGreatDoor.Nt
open Go Go.RowKit
set_option linter.unusedVariables false
set_option maxRecDepth 1000000
set_option maxRecDepth 1000000


def scs (a : List UInt8) : List Value := [Strs.sv a]
theorem scs_len : ∀ a, (scs a).length = 1 := fun _ => rfl
theorem scs_one : ∀ a, ∀ u ∈ scs a, u.oneCell' = true := fun a => Strs.sv_one a
theorem flat_scs (l : List (List UInt8)) : Rec.flat scs l = Strs.svs l := by
  induction l with
  | nil => rfl
  | cons c r ih =>
    show scs c ++ Rec.flat scs r = _
    rw [ih]; rfl
theorem rec_at {w : World} {b off : Nat} {l : List (List UInt8)} (h : Strs.At w b off l) : Rec.At 1 scs [] w b off l := fun j hj i u hu => by
  unfold scs at hu
  match i, hu with
  | 0, hu => simp at hu; subst hu; rw [Nat.mul_one, Nat.add_zero]; exact h j hj
theorem amp_snoc (s : List UInt8) : ∀ (xs : List (List UInt8)) (x : List UInt8), xs ≠ [] → Lib.join (xs ++ [x]) s = Lib.join xs s ++ s ++ x
  | [], _, h => absurd rfl h
  | [a], x, _ => by simp [Lib.join, List.intercalate, List.intersperse]
  | a :: b :: r, x, _ => by
    have ih := amp_snoc s (b :: r) x (by simp)
    have e : ∀ t, Lib.join (a :: b :: t) s = a ++ s ++ Lib.join (b :: t) s := fun t => by simp [Lib.join, List.intercalate, List.intersperse]
    rw [List.cons_append, List.cons_append, e, e, ← List.cons_append, ih]; simp
theorem amp_first {xs : List (List UInt8)} (h : 0 < xs.length) : Lib.join (xs.take (0 + 1)) [38] = xs.getD 0 [] := by
  match xs, h with
  | x :: r, _ => simp [Lib.join, List.intercalate, List.intersperse]
theorem amp_more {xs : List (List UInt8)} {k : Nat} (h : k < xs.length) (h0 : 0 < k) : Lib.join (xs.take (k + 1)) [38] = Lib.join (xs.take k) [38] ++ [38] ++ xs.getD k [] := by
  rw [take_more h, amp_snoc]
  intro e
  have := congrArg List.length e
  simp at this
  rcases this with h | h
  · omega
  · subst h; simp at *
theorem amp_app (ys : List (List UInt8)) : ∀ xs : List (List UInt8), (Lib.join xs [38]).length ≤ (Lib.join (xs ++ ys) [38]).length := by
  induction ys with
  | nil => intro xs; simp
  | cons y r ih =>
    intro xs
    have h := ih (xs ++ [y])
    rw [List.append_assoc, List.singleton_append] at h
    refine Nat.le_trans ?_ h
    by_cases e : xs = []
    · subst e; simp [Lib.join]
    · rw [amp_snoc _ _ _ e]; simp
theorem amp_take (xs : List (List UInt8)) (k : Nat) : (Lib.join (xs.take k) [38]).length ≤ (Lib.join xs [38]).length := by
  have := amp_app (xs.drop k) (xs.take k)
  rw [List.take_append_drop] at this; exact this
theorem ba {a w : World} (h : Below a.heap.size a w) (o : Obj) : Below a.heap.size a (w.alloc o) := h.alloc h.size o
theorem bg {a w w' : World} {B n : Nat} {T : TypeId} {v : Value} {xs : List Value} (h : Below a.heap.size a w) (hown : w.ownsRow B T 1 v n xs) (hB : a.heap.size ≤ B) (hg : w.grownBy w' v.ownBlock) : Below a.heap.size a w' :=
  h.grown hg h.size (fun k e => Nat.le_trans hB (hown.lt k e).1)
theorem pre_holds {w : World} {B g cap m : Nat} {xs : List (List UInt8)} (h : Strs.Own w B (.slice (some ⟨g, 0, none⟩) xs.length cap) xs) (hm : m ≤ xs.length) : Rec.Holds 1 scs [] w w.heap.size (.slice (some ⟨g, 0, none⟩) m cap) (xs.take m) := by
  by_cases h0 : m = 0
  · subst h0; exact Or.inl ⟨by simp, _, _, rfl⟩
  · have hc : ∀ j, j < xs.length → w.cell? ⟨g, j, none⟩ = some (Strs.sv (xs.getD j [])) := fun j hj => Strs.own_cell h hj
    have hl : (xs.take m).length = m := by rw [List.length_take]; omega
    refine Or.inr ⟨by omega, g, 0, cap, by rw [hl], Strs.lt_of_cell (hc 0 (by omega)), ?_, rec_at (fun j hj => ?_)⟩
    · rcases h.2 with ⟨e, _⟩ | ⟨g', cap', cur, e, _, _, hn, hcap, _⟩
      · simp at e
      · simp at e; obtain ⟨_, rfl⟩ := e; omega
    · rw [Nat.zero_add, hc j (by omega)]; rw [hl] at hj; congr 2; simp [List.getD, hj]
theorem suf_holds {w : World} {B g cap m : Nat} {xs : List (List UInt8)} (c2 : Nat) (h : Strs.Own w B (.slice (some ⟨g, 0, none⟩) xs.length cap) xs) (hm : m ≤ xs.length) (hc2 : c2 = cap - m) : Rec.Holds 1 scs [] w w.heap.size (.slice (some ⟨g, m, none⟩) (xs.length - m) c2) (xs.drop m) := by
  by_cases h0 : m = xs.length
  · subst h0; rw [Nat.sub_self]; exact Or.inl ⟨by simp, _, _, rfl⟩
  · have hc : ∀ j, j < xs.length → w.cell? ⟨g, j, none⟩ = some (Strs.sv (xs.getD j [])) := fun j hj => Strs.own_cell h hj
    have hl : (xs.drop m).length = xs.length - m := by rw [List.length_drop]
    refine Or.inr ⟨by omega, g, m, c2, by rw [hl], Strs.lt_of_cell (hc 0 (by omega)), ?_, rec_at (fun j hj => ?_)⟩
    · rcases h.2 with ⟨e, _⟩ | ⟨g', cap', cur, e, _, _, hn, hcap, _⟩
      · simp at e
      · simp at e; obtain ⟨_, rfl⟩ := e; omega
    · rw [hc (m + j) (by omega)]; congr 2; simp [List.getD, List.getElem?_drop]
theorem one_holds (w : World) (c : List UInt8) (T : TypeId) : Rec.Holds 1 scs [] (w.alloc (.cells #[.string ⟨c.toArray⟩] T)) (w.alloc (.cells #[.string ⟨c.toArray⟩] T)).heap.size (.slice (some ⟨w.heap.size, 0, none⟩) 1 1) [c] :=
  Or.inr ⟨by simp, w.heap.size, 0, 1, rfl, by rw [World.size_alloc]; omega, by simp, rec_at (fun j hj => by
    simp at hj; subst hj
    show World.cell? _ ⟨w.heap.size, 0 + 0, none⟩ = _
    rw [World.cell?_alloc_new]; simp [Strs.sv])⟩
theorem own_nil {w : World} {B N : Nat} {T : TypeId} (hB : B ≤ w.heap.size) (hN : w.heap.size = N) : (w.alloc (.cells #[] T)).ownsRow B T 1 (.slice (some ⟨N, 0, none⟩) 0 0) ([] : List (List UInt8)).length (Rec.flat scs []) := by
  subst hN; exact Rec.own_mono (Rec.own_lit_nil (cs := scs) _ _) hB
theorem one_first {w w' : World} {c : List UInt8} {T : TypeId} {o : Obj} {N : Nat} (hg : ((w.alloc (.cells #[.string ⟨c.toArray⟩] T)).alloc o).grownBy w' (some (N + 1))) (hN : w.heap.size = N) : Rec.Holds 1 scs [] w' w'.heap.size (.slice (some ⟨N, 0, none⟩) 1 1) [c] := by
  subst hN
  have h : w'.cell? ⟨w.heap.size, 0, none⟩ = some (Strs.sv c) := hg.cell (by
    rw [World.cell?_alloc_lt _ _ _ (by rw [World.size_alloc]; show w.heap.size < _; omega)]
    rw [World.cell?_alloc_new]; simp [Strs.sv]) (fun e => by have := Option.some.inj e; simp at this)
  exact Or.inr ⟨by simp, w.heap.size, 0, 1, rfl, Strs.lt_of_cell h, by simp, rec_at (fun j hj => by simp at hj; subst hj; exact h)⟩
theorem one_then {w w' : World} {c : List UInt8} {T : TypeId} {o : Obj} {N : Nat} (hg : ((w.alloc o).alloc (.cells #[.string ⟨c.toArray⟩] T)).grownBy w' (some N)) (hN : w.heap.size = N) : Rec.Holds 1 scs [] w' w'.heap.size (.slice (some ⟨N + 1, 0, none⟩) 1 1) [c] := by
  subst hN
  have h : w'.cell? ⟨w.heap.size + 1, 0, none⟩ = some (Strs.sv c) := hg.cell (by
    rw [show w.heap.size + 1 = (w.alloc o).heap.size from (World.size_alloc _ _).symm, World.cell?_alloc_new]; simp [Strs.sv]) (fun e => by have := Option.some.inj e; simp at this)
  exact Or.inr ⟨by simp, w.heap.size + 1, 0, 1, rfl, Strs.lt_of_cell h, by simp, rec_at (fun j hj => by simp at hj; subst hj; exact h)⟩
end Go.Proofs.YtndbhjgfaghelaaGreatDoor.Nt
