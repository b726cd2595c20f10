/-
  CONTRACTS AND PLAIN FACTS, several texts in one; each says in its own words what it proves.
-/
import Derived.Test.YtjeihicjfgimdaaGreatDoorPartR
import Derived.Test.YtjeihicjfgimdaaGreatDoorPartQ
set_option linter.unusedSimpArgs false
set_option linter.unusedVariables false

/-
  CONTRACTS of the model's l3Two and l3Month; nothing that was there before is changed.
-/
namespace Go.Proofs.YtjeihicjfgimdaaGreatDoor.Dt
open Go Go.RowKit
set_option linter.unusedVariables false
set_option maxRecDepth 1000000

/-- The one world of a region that only reads. -/
def SelfS (w u : World) : Prop := u = w.drew
theorem ret_is {a b : Int} (h : a = b) : Ending.returned (.int .i64 a) = .returned (.int .i64 b) := by rw [h]
theorem lst_len (s : ByteArray) : s.data.toList.length = s.size := by rw [Array.length_toList]; rfl
theorem lst_at {s : ByteArray} {k : Nat} (h : k < s.size) : s.data.toList.getD k 0 = s[k] := by
  have hl : k < s.data.toList.length := by rw [lst_len]; exact h
  rw [List.getD_eq_getElem?_getD, List.getElem?_eq_getElem hl]; rfl

set_option maxHeartbeats 1000000 in
theorem spec_two_s (s : ByteArray) (k : Nat) (w : World) (hk : k + 2 ≤ s.size) (hs : s.size ≤ 67108864) :
    Calls Tryz.prog 99 #[.string s, .int .i64 (k : Int)] w fun e w' => e = .returned (.int .i64 (tw s.data.toList k)) ∧ Below w.heap.size w w' := by
  have h0 : k < s.size := by omega
  have h1 : k + 1 < s.size := by omega
  have g0 := lst_at h0
  have g1 := lst_at h1
  have HT : Hid (tw s.data.toList k = if dig s[k] = true ∧ dig s[k + 1] = true then 10 * lz s[k] + lz s[k + 1] else -1) := Lib.hid (by unfold tw; rw [g0, g1])
  have hk0 : (0 : Int) ≤ (k : Int) := by omega
  have hk2 : (k : Int) + 2 ≤ (s.size : Int) := by omega
  have hki : (k : Int) < (s.size : Int) := by omega
  have hki1 : (k : Int) + 1 < (s.size : Int) := by omega
  have htn : ((k : Int) + 1).toNat = k + 1 := by omega
  clear g0 g1
  have b0 : (s[k].toNat : Int) ≤ 255 := by have := s[k].toNat_lt; omega
  have b1 : (s[k + 1].toNat : Int) ≤ 255 := by have := s[k + 1].toNat_lt; omega
  by_cases d0 : 48 ≤ (s[k].toNat : Int) ∧ (s[k].toNat : Int) ≤ 57
  · by_cases d1 : 48 ≤ (s[k + 1].toNat : Int) ∧ (s[k + 1].toNat : Int) ≤ 57
    · have HE : Hid (tw s.data.toList k = 10 * ((s[k].toNat : Int) - 48) + ((s[k + 1].toNat : Int) - 48)) := Lib.hid (by
        rw [HT.out, if_pos ⟨by unfold dig; simp; omega, by unfold dig; simp; omega⟩]
        unfold lz; rw [if_pos (by omega), if_pos (by omega)])
      obtain ⟨p0, p1⟩ := d0
      obtain ⟨q0, q1⟩ := d1
      clear HT
      go_enter Tryz.func99, Tryz.ntmps99
      go_wp2_with (go_at_call 64; (with_reducible first | refine (NumDiv.in_yes _ _ _ _ (by assumption) (by assumption)).mono ?_); rintro e w' ⟨rfl, rfl⟩)
      have HSD : Hid (SelfS w w.drew) := Lib.hid rfl
      refine RegS.region (SelfS w) (by kernel_rfl) (by kernel_rfl) HSD.out ?_
      haveI : Nonempty (RegS.In (SelfS w)) := ⟨⟨_, HSD.out⟩⟩
      repeat (first | go_big_quiet_step (fail) | quiet_step (fail))
      refine wpQuiet_nil ?_
      intro wz hw'
      obtain ⟨⟨wq, hS⟩, hw''⟩ := hw'
      subst hw''
      obtain rfl : wz = w.drew := hS
      go_wp2
      go_ret
      exact ⟨ret_is (by rw [HE.out]), Rec.below_drew (Below.refl _ _)⟩
    · have HO := Lib.hid (show (s[k + 1].toNat : Int) < 48 ∨ 57 < (s[k + 1].toNat : Int) by omega)
      have HE : Hid (tw s.data.toList k = -1) := Lib.hid (by
        rw [HT.out, if_neg (by rintro ⟨_, h⟩; unfold dig at h; simp at h; omega)])
      obtain ⟨p0, p1⟩ := d0
      clear HT d1
      go_enter Tryz.func99, Tryz.ntmps99
      go_wp2_with (go_at_call 64; (with_reducible first | refine (NumDiv.in_yes _ _ _ _ (by assumption) (by assumption)).mono ?_ | refine (NumDiv.in_no _ _ _ _ HO.out).mono ?_); rintro e w' ⟨rfl, rfl⟩)
      all_goals go_ret
      all_goals exact ⟨ret_is (by rw [HE.out]), Below.refl _ _⟩
  · have HO := Lib.hid (show (s[k].toNat : Int) < 48 ∨ 57 < (s[k].toNat : Int) by omega)
    have HE : Hid (tw s.data.toList k = -1) := Lib.hid (by
      rw [HT.out, if_neg (by rintro ⟨h, _⟩; unfold dig at h; simp at h; omega)])
    clear HT d0
    go_enter Tryz.func99, Tryz.ntmps99
    go_wp2_with (go_at_call 64; (with_reducible refine (NumDiv.in_no _ _ _ _ HO.out).mono ?_); rintro e w' ⟨rfl, rfl⟩)
    all_goals go_ret
    all_goals exact ⟨ret_is (by rw [HE.out]), Below.refl _ _⟩
theorem spec_two (l : List UInt8) (k : Nat) (w : World) (hk : k + 2 ≤ l.length) (hs : l.length ≤ 67108864) :
    Calls Tryz.prog 99 #[.string ⟨l.toArray⟩, .int .i64 (k : Int)] w fun e w' => e = .returned (.int .i64 (tw l k)) ∧ Below w.heap.size w w' := by
  have := spec_two_s ⟨l.toArray⟩ k w (by simpa [ByteArray.size] using hk) (by simpa [ByteArray.size] using hs)
  simpa using this

theorem smon_miss {n : List UInt8} (h : ∀ k, k < 12 → mnm k ≠ n) : monOf n = 0 := by
  have hm : n ∉ mons12 := by
    intro hm
    obtain ⟨k, hk, e⟩ := List.getElem_of_mem hm
    have hk12 : k < 12 := hk
    apply h k hk12
    unfold mnm
    rw [← e]
    simp [List.getD, List.getElem?_eq_getElem hk]
  unfold monOf
  rw [List.idxOf_eq_length hm]
  rfl
theorem smon_hit {k : Nat} (h : k < 12) : monOf (mnm k) = (k : Int) + 1 := by
  obtain ⟨a, b, c, e, h2⟩ := monOf_mnm h
  rw [e]; exact h2
theorem smon_bd (n : List UInt8) : 0 ≤ monOf n ∧ monOf n ≤ 12 := by unfold monOf; split <;> omega

set_option maxHeartbeats 2000000 in
set_option maxRecDepth 1000000 in
theorem spec_mon (l : List UInt8) (p : Nat) (w : World) (hp : p + 3 ≤ l.length) (hs : l.length ≤ 67108864) :
    Calls Tryz.prog 100 #[.string ⟨l.toArray⟩, .int .i64 (p : Int)] w fun e w' => e = .returned (.int .i64 (monOf ((l.drop p).take 3))) ∧ Below w.heap.size w w' := by
  have HMT := Lib.hid (mons_tab w)
  have hsz : (⟨l.toArray⟩ : ByteArray).size = l.length := by simp [ByteArray.size]
  have e1 : (⟨l.toArray⟩ : ByteArray).extract p (p + 3) = ⟨((l.drop p).take 3).toArray⟩ := by rw [Tx.ext_eq]; congr 3; omega
  have HH := Lib.hid (fun k (h : k < 12) => smon_hit h)
  have HM := Lib.hid (smon_miss (n := (l.drop p).take 3))
  have hp0 : (0 : Int) ≤ (p : Int) := by omega
  have hp3 : (p : Int) + 3 ≤ (l.length : Int) := by omega
  have hpw : IntKind.i64.wrap ((p : Int) + 3) = (p : Int) + 3 := IntWalk.i64_in _ (by omega)
  have hpt : ((p : Int) + 3).toNat = p + 3 := by omega
  have hpp : (p : Int) ≤ (p : Int) + 3 := by omega
  unfold Table at HMT
  generalize (l.drop p).take 3 = n at e1 HM ⊢
  generalize mnm = f at *
  go_enter Tryz.func100, Tryz.ntmps100
  go_wp2_with (fail)
  go_at_call 131
  refine HMT.out.mono ?_
  rintro e w1 ⟨g, rfl, hc, hb1⟩
  have HB := Lib.hid hb1
  have HC := Lib.hid hc
  clear hc hb1
  go_wp2
  go_loopw [6] (fun i wr => ∃ k : Nat, k ≤ 12 ∧ i = .int .i64 k ∧ (∀ j, j < k → f j ≠ n) ∧ (∀ k, k < 12 → wr.cell? ⟨g, k, none⟩ = some (.string ⟨(f k).toArray⟩)) ∧ Hid (Below w.heap.size w wr)) (fun i _ => 12 - (intOf i).toNat)
  case atStart => exact ⟨0, by omega, rfl, fun j hj => absurd hj (by omega), HC.out, HB⟩
  case round =>
    clear HB HC
    obtain ⟨k, hk, rfl, hno, hc, HB⟩ := hrel
    have HN := Lib.hid hno
    have HC := Lib.hid hc
    clear hno hc
    by_cases hlt : k < 12
    · have HX := Lib.hid (HH.out k hlt)
      have HNN : Hid (f k ≠ n → ∀ j, j < k + 1 → f j ≠ n) := Lib.hid (fun e j hj => by
        rcases Nat.lt_or_ge j k with h' | h'
        · exact HN.out j h'
        · have : j = k := by omega
          subst this; exact e)
      have hki : (k : Int) < 12 := by omega
      have hki0 : (0 : Int) ≤ (k : Int) := by omega
      have c0 := HC.out k hlt
      have c0d : ∀ u : RegS.In (SelfS wr), u.w.cell? ⟨g, k, none⟩ = some (.string ⟨(f k).toArray⟩) := fun u => by rw [show u.w = wr.drew from u.h]; exact c0
      clear HH HM HN hk
      by_cases e : f k = n
      · subst e
        clear HNN
        go_wp2
        have HSD : Hid (SelfS wr wr.drew) := Lib.hid rfl
        refine RegS.region (SelfS wr) (by kernel_rfl) (by kernel_rfl) HSD.out ?_
        haveI : Nonempty (RegS.In (SelfS wr)) := ⟨⟨_, HSD.out⟩⟩
        repeat (first | go_big_quiet_step (fail) | quiet_step (fail))
        refine wpQuiet_nil ?_
        intro wz hw'
        obtain ⟨⟨wq, hS⟩, hw''⟩ := hw'
        subst hw''
        obtain rfl : wz = wr.drew := hS
        go_wp2
        go_ret
        exact ⟨ret_is HX.out.symm, Rec.below_drew HB.out⟩
      · have HE := Lib.hid (HNN.out e)
        have hq : (n == f k) = false := by simpa using (fun h => e h.symm)
        clear HNN HX e
        go_wp2
        have HSD : Hid (SelfS wr wr.drew) := Lib.hid rfl
        refine RegS.region (SelfS wr) (by kernel_rfl) (by kernel_rfl) HSD.out ?_
        haveI : Nonempty (RegS.In (SelfS wr)) := ⟨⟨_, HSD.out⟩⟩
        repeat (first | go_big_quiet_step (fail) | quiet_step (fail))
        refine wpQuiet_nil ?_
        intro wz hw'
        obtain ⟨⟨wq, hS⟩, hw''⟩ := hw'
        subst hw''
        obtain rfl : wz = wr.drew := hS
        go_wp2
        go_roundw
        case rel => exact ⟨k + 1, by omega, by go_num, HE.out, HC.out, Lib.hid (Rec.below_drew HB.out)⟩
        case measure => simp [intOf]; omega
    · obtain rfl : k = 12 := by omega
      have HE := Lib.hid (HM.out (fun j hj => HN.out j hj))
      go_wp2
      go_ret
      exact ⟨ret_is HE.out.symm, HB.out⟩
end Go.Proofs.YtjeihicjfgimdaaGreatDoor.Dt
