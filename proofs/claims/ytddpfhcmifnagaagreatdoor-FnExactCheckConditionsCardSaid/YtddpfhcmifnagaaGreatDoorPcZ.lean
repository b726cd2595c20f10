/-
  CONTRACTS AND PLAIN FACTS, several texts in one; each says in its own words what it proves.
-/
import Derived.Test.YtddpfhcmifnagaaGreatDoorPcY
import Derived.Test.YtddpfhcmifnagaaGreatDoorPcX

/-
  CONTRACT of the model's ParseTag; nothing that was there before is changed.
-/
namespace Go.Proofs.YtddpfhcmifnagaaGreatDoor.Tgs
open Go Go.RowKit
set_option linter.unusedVariables false
set_option maxRecDepth 1000000

theorem ptag_small {l : List UInt8} (h : l.length ≤ 2) : ptag l = if (inner l).1 && okt (inner l).2 then ((false, (inner l).2), true) else ((false, []), false) := by
  by_cases hw : 2 ≤ l.length ∧ l.take 2 = [87, 47]
  · have e : l = [87, 47] := by rw [← hw.2]; exact (List.take_of_length_le h).symm
    subst e; decide
  · exact ptag_strong hw
theorem cut2 (s : ByteArray) : (s.extract 0 2).toList = s.data.toList.take 2 := by rw [Lib.extract_toList]; simp
theorem cut2' (s : ByteArray) : (s.extract 2 s.size).data.toList = s.data.toList.drop 2 := by
  rw [Lib.extract_data, List.take_of_length_le (by rw [List.length_drop, list_len]; omega)]

set_option maxHeartbeats 2000000 in
theorem spec_weakp (s : ByteArray) (w : World) (hs : s.size ≤ 1048576) (h2 : 2 < (s.size : Int)) (hq : ((s.extract 0 2).toList == [87, 47]) = true) :
    Calls Tryz.prog 34 #[.string s] w (ParEnd s.data.toList w) := by
  have HQ : Hid (ptag s.data.toList = if (inner (s.extract 2 s.size).data.toList).1 && okt (inner (s.extract 2 s.size).data.toList).2 then ((true, (inner (s.extract 2 s.size).data.toList).2), true) else ((false, []), false)) := Lib.hid (by rw [cut2', ptag_weak (by rw [list_len]; omega) (by rw [← cut2]; simpa using hq)])
  have HZ : Hid (Below w.heap.size w ((w.alloc (.cells #[.bool false, .string ⟨#[]⟩] 62)).alloc (.cells #[.bool true, .string ⟨#[]⟩] 62))) := Lib.hid (((Below.refl _ _).alloc (Nat.le_refl _) _).alloc (by simp) _)
  by_cases g1 : ((s.size - 2) : Nat) < 2
  · have HE : Hid (ptag s.data.toList = ((false, []), false)) := Lib.hid (by rw [HQ.out, inner_no (s := (s.extract 2 s.size)) (Or.inl (by first | omega | (simp; omega)))]; rfl)
    have g1' : (((s.size - 2) : Nat) : Int) < 2 := by omega
    go_enter Tryz.func34, Tryz.ntmps34
    go_wp2
    refine bodyPost_ret (v := .tuple #[.agg #[.bool false, .string ⟨#[]⟩], .bool false]) (by simp [results, Tryz.results34, go_sem]) rfl ⟨par_ret HE.out, HZ.out⟩
  have hz : (s.extract 2 s.size).size = (s.size - 2) := by simp
  have i0 : 0 < (s.extract 2 s.size).size := by omega
  have i1 : (s.size - 2) - 1 < (s.extract 2 s.size).size := by omega
  by_cases g2 : (s.extract 2 s.size)[0]'i0 = 34
  case neg =>
    have HE : Hid (ptag s.data.toList = ((false, []), false)) := Lib.hid (by rw [HQ.out, inner_no (s := (s.extract 2 s.size)) (Or.inr (Or.inl ⟨i0, g2⟩))]; rfl)
    have g3 : ((((s.extract 2 s.size)[0]'i0).toNat : Int) == 34) = false := by
      rw [beq_eq_false_iff_ne]; intro e; exact g2 (UInt8.toNat_inj.1 (by show _ = 34; omega))
    have g4 : ((((s.extract 2 s.size)[0]'i0).toNat : Int) != 34) = true := by rw [bne, g3]; rfl
    clear g2
    go_enter Tryz.func34, Tryz.ntmps34
    go_wp2
    refine bodyPost_ret (v := .tuple #[.agg #[.bool false, .string ⟨#[]⟩], .bool false]) (by simp [results, Tryz.results34, go_sem]) rfl ⟨par_ret HE.out, HZ.out⟩
  have g3 : (((s.extract 2 s.size)[0]'i0).toNat : Int) = 34 := by rw [g2]; rfl
  by_cases g5 : (s.extract 2 s.size)[(s.size - 2) - 1]'i1 = 34
  case neg =>
    have HE : Hid (ptag s.data.toList = ((false, []), false)) := Lib.hid (by rw [HQ.out, inner_no (s := (s.extract 2 s.size)) (Or.inr (Or.inr ⟨by omega, by simpa [hz] using g5⟩))]; rfl)
    have g6 : ((((s.extract 2 s.size)[(s.size - 2) - 1]'i1).toNat : Int) == 34) = false := by
      rw [beq_eq_false_iff_ne]; intro e; exact g5 (UInt8.toNat_inj.1 (by show _ = 34; omega))
    have g7 : ((((s.extract 2 s.size)[(s.size - 2) - 1]'i1).toNat : Int) != 34) = true := by rw [bne, g6]; rfl
    clear g2 g5
    go_enter Tryz.func34, Tryz.ntmps34
    go_wp2
    refine bodyPost_ret (v := .tuple #[.agg #[.bool false, .string ⟨#[]⟩], .bool false]) (by simp [results, Tryz.results34, go_sem]) rfl ⟨par_ret HE.out, HZ.out⟩
  have g6 : (((s.extract 2 s.size)[(s.size - 2) - 1]'i1).toNat : Int) = 34 := by rw [g5]; rfl
  have HI0 : Hid (inner (s.extract 2 s.size).data.toList = (true, ((s.extract 2 s.size).extract 1 ((s.size - 2) - 1)).data.toList)) := Lib.hid (by have h := inner_yes (s := (s.extract 2 s.size)) (by omega) g2 (by simpa [hz] using g5); rw [hz] at h; exact h)
  rw [HI0.out] at HQ
  clear HI0 HZ g2 g5
  have q2 : (2 : Int) ≤ (((s.size - 2) : Nat) : Int) := by omega
  have q3 : (1 : Int) ≤ (((s.size - 2) : Nat) : Int) - 1 := by omega
  have HI := Lib.hid (fun W => spec_is_s true ((s.extract 2 s.size).extract 1 ((s.size - 2) - 1)) W (by first | (simp; omega) | omega))
  have HK := Lib.hid (fun w1 => kept22 (w := w) (w1 := w1) (T := 62) (a := .bool false) (b := .string ⟨#[]⟩) (c := .bool true) (d := .string ((s.extract 2 s.size).extract 1 ((s.size - 2) - 1))))
  cases hok : okt ((s.extract 2 s.size).extract 1 ((s.size - 2) - 1)).data.toList with
  | false =>
    have HE : Hid (ptag s.data.toList = ((false, []), false)) := Lib.hid (by rw [HQ.out]; simp only [hok]; rfl)
    rw [hok] at HI
    clear HQ hok
    go_enter Tryz.func34, Tryz.ntmps34
    go_wp2_with (fail)
    go_at_call 59
    refine (HI.out _).mono ?_
    rintro e w1 ⟨rfl, hb⟩
    obtain ⟨⟨q1, q2, q3, q4⟩, ⟨f1, f2⟩, hb1⟩ := HK.out _ hb
    have HB := Lib.hid hb1
    clear hb hb1
    go_wp2
    refine bodyPost_ret (v := .tuple #[.agg #[.bool false, .string ⟨#[]⟩], .bool false]) (by simp [results, Tryz.results34, go_sem, q1, q2, q3, q4]) rfl ⟨par_ret HE.out, ?_⟩
    exact (HB.out.setCell (Nat.le_refl _) _).setCell (Nat.le_refl _) _
  | true =>
    have HE : Hid (ptag s.data.toList = ((true, ((s.extract 2 s.size).extract 1 ((s.size - 2) - 1)).data.toList), true)) := Lib.hid (by rw [HQ.out]; simp only [hok]; rfl)
    rw [hok] at HI
    clear HQ hok
    go_enter Tryz.func34, Tryz.ntmps34
    go_wp2_with (fail)
    go_at_call 59
    refine (HI.out _).mono ?_
    rintro e w1 ⟨rfl, hb⟩
    obtain ⟨⟨q1, q2, q3, q4⟩, ⟨f1, f2⟩, hb1⟩ := HK.out _ hb
    have HB := Lib.hid hb1
    clear hb hb1
    go_wp2
    refine bodyPost_ret (v := .tuple #[.agg #[.bool true, .string ((s.extract 2 s.size).extract 1 ((s.size - 2) - 1))], .bool true]) (by simp [results, Tryz.results34, go_sem, q1, q2, q3, q4]) rfl ⟨par_ret HE.out, ?_⟩
    exact (HB.out.setCell (Nat.le_refl _) _).setCell (Nat.le_refl _) _

set_option maxHeartbeats 2000000 in
theorem spec_strongp (s : ByteArray) (w : World) (hs : s.size ≤ 1048576) (h2 : 2 < (s.size : Int)) (hq : ((s.extract 0 2).toList == [87, 47]) = false) :
    Calls Tryz.prog 34 #[.string s] w (ParEnd s.data.toList w) := by
  have HQ : Hid (ptag s.data.toList = if (inner s.data.toList).1 && okt (inner s.data.toList).2 then ((false, (inner s.data.toList).2), true) else ((false, []), false)) := Lib.hid (by rw [ptag_strong (fun h => by rw [cut2] at hq; rw [h.2] at hq; simp at hq)])
  have HZ : Hid (Below w.heap.size w ((w.alloc (.cells #[.bool false, .string ⟨#[]⟩] 62)).alloc (.cells #[.bool false, .string ⟨#[]⟩] 62))) := Lib.hid (((Below.refl _ _).alloc (Nat.le_refl _) _).alloc (by simp) _)
  by_cases g1 : (s.size : Nat) < 2
  · exact absurd h2 (by omega)
  have hz : s.size = s.size := by simp
  have i0 : 0 < s.size := by omega
  have i1 : s.size - 1 < s.size := by omega
  by_cases g2 : s[0]'i0 = 34
  case neg =>
    have HE : Hid (ptag s.data.toList = ((false, []), false)) := Lib.hid (by rw [HQ.out, inner_no (s := s) (Or.inr (Or.inl ⟨i0, g2⟩))]; rfl)
    have g3 : (((s[0]'i0).toNat : Int) == 34) = false := by
      rw [beq_eq_false_iff_ne]; intro e; exact g2 (UInt8.toNat_inj.1 (by show _ = 34; omega))
    have g4 : (((s[0]'i0).toNat : Int) != 34) = true := by rw [bne, g3]; rfl
    clear g2
    go_enter Tryz.func34, Tryz.ntmps34
    go_wp2
    refine bodyPost_ret (v := .tuple #[.agg #[.bool false, .string ⟨#[]⟩], .bool false]) (by simp [results, Tryz.results34, go_sem]) rfl ⟨par_ret HE.out, HZ.out⟩
  have g3 : ((s[0]'i0).toNat : Int) = 34 := by rw [g2]; rfl
  by_cases g5 : s[s.size - 1]'i1 = 34
  case neg =>
    have HE : Hid (ptag s.data.toList = ((false, []), false)) := Lib.hid (by rw [HQ.out, inner_no (s := s) (Or.inr (Or.inr ⟨by omega, by simpa [hz] using g5⟩))]; rfl)
    have g6 : (((s[s.size - 1]'i1).toNat : Int) == 34) = false := by
      rw [beq_eq_false_iff_ne]; intro e; exact g5 (UInt8.toNat_inj.1 (by show _ = 34; omega))
    have g7 : (((s[s.size - 1]'i1).toNat : Int) != 34) = true := by rw [bne, g6]; rfl
    clear g2 g5
    go_enter Tryz.func34, Tryz.ntmps34
    go_wp2
    refine bodyPost_ret (v := .tuple #[.agg #[.bool false, .string ⟨#[]⟩], .bool false]) (by simp [results, Tryz.results34, go_sem]) rfl ⟨par_ret HE.out, HZ.out⟩
  have g6 : ((s[s.size - 1]'i1).toNat : Int) = 34 := by rw [g5]; rfl
  have HI0 : Hid (inner s.data.toList = (true, (s.extract 1 (s.size - 1)).data.toList)) := Lib.hid (by have h := inner_yes (s := s) (by omega) g2 (by simpa [hz] using g5); rw [hz] at h; exact h)
  rw [HI0.out] at HQ
  clear HI0 HZ g2 g5
  have q2 : (2 : Int) ≤ ((s.size : Nat) : Int) := by omega
  have q3 : (1 : Int) ≤ ((s.size : Nat) : Int) - 1 := by omega
  have HI := Lib.hid (fun W => spec_is_s false (s.extract 1 (s.size - 1)) W (by first | (simp; omega) | omega))
  have HK := Lib.hid (fun w1 => kept22 (w := w) (w1 := w1) (T := 62) (a := .bool false) (b := .string ⟨#[]⟩) (c := .bool false) (d := .string (s.extract 1 (s.size - 1))))
  cases hok : okt (s.extract 1 (s.size - 1)).data.toList with
  | false =>
    have HE : Hid (ptag s.data.toList = ((false, []), false)) := Lib.hid (by rw [HQ.out]; simp only [hok]; rfl)
    rw [hok] at HI
    clear HQ hok
    go_enter Tryz.func34, Tryz.ntmps34
    go_wp2_with (fail)
    go_at_call 59
    refine (HI.out _).mono ?_
    rintro e w1 ⟨rfl, hb⟩
    obtain ⟨⟨q1, q2, q3, q4⟩, ⟨f1, f2⟩, hb1⟩ := HK.out _ hb
    have HB := Lib.hid hb1
    clear hb hb1
    go_wp2
    refine bodyPost_ret (v := .tuple #[.agg #[.bool false, .string ⟨#[]⟩], .bool false]) (by simp [results, Tryz.results34, go_sem, q1, q2, q3, q4]) rfl ⟨par_ret HE.out, ?_⟩
    exact (HB.out.setCell (Nat.le_refl _) _).setCell (Nat.le_refl _) _
  | true =>
    have HE : Hid (ptag s.data.toList = ((false, (s.extract 1 (s.size - 1)).data.toList), true)) := Lib.hid (by rw [HQ.out]; simp only [hok]; rfl)
    rw [hok] at HI
    clear HQ hok
    go_enter Tryz.func34, Tryz.ntmps34
    go_wp2_with (fail)
    go_at_call 59
    refine (HI.out _).mono ?_
    rintro e w1 ⟨rfl, hb⟩
    obtain ⟨⟨q1, q2, q3, q4⟩, ⟨f1, f2⟩, hb1⟩ := HK.out _ hb
    have HB := Lib.hid hb1
    clear hb hb1
    go_wp2
    refine bodyPost_ret (v := .tuple #[.agg #[.bool false, .string (s.extract 1 (s.size - 1))], .bool true]) (by simp [results, Tryz.results34, go_sem, q1, q2, q3, q4]) rfl ⟨par_ret HE.out, ?_⟩
    exact (HB.out.setCell (Nat.le_refl _) _).setCell (Nat.le_refl _) _

set_option maxHeartbeats 2000000 in
theorem spec_smallp (s : ByteArray) (w : World) (hs : s.size ≤ 1048576) (h2 : ¬ 2 < (s.size : Int)) :
    Calls Tryz.prog 34 #[.string s] w (ParEnd s.data.toList w) := by
  have HQ : Hid (ptag s.data.toList = if (inner s.data.toList).1 && okt (inner s.data.toList).2 then ((false, (inner s.data.toList).2), true) else ((false, []), false)) := Lib.hid (by rw [ptag_small (by rw [list_len]; omega)])
  have HZ : Hid (Below w.heap.size w ((w.alloc (.cells #[.bool false, .string ⟨#[]⟩] 62)).alloc (.cells #[.bool false, .string ⟨#[]⟩] 62))) := Lib.hid (((Below.refl _ _).alloc (Nat.le_refl _) _).alloc (by simp) _)
  by_cases g1 : (s.size : Nat) < 2
  · have HE : Hid (ptag s.data.toList = ((false, []), false)) := Lib.hid (by rw [HQ.out, inner_no (s := s) (Or.inl (by first | omega | (simp; omega)))]; rfl)
    have g1' : ((s.size : Nat) : Int) < 2 := by omega
    go_enter Tryz.func34, Tryz.ntmps34
    go_wp2
    refine bodyPost_ret (v := .tuple #[.agg #[.bool false, .string ⟨#[]⟩], .bool false]) (by simp [results, Tryz.results34, go_sem]) rfl ⟨par_ret HE.out, HZ.out⟩
  have hz : s.size = s.size := by simp
  have i0 : 0 < s.size := by omega
  have i1 : s.size - 1 < s.size := by omega
  by_cases g2 : s[0]'i0 = 34
  case neg =>
    have HE : Hid (ptag s.data.toList = ((false, []), false)) := Lib.hid (by rw [HQ.out, inner_no (s := s) (Or.inr (Or.inl ⟨i0, g2⟩))]; rfl)
    have g3 : (((s[0]'i0).toNat : Int) == 34) = false := by
      rw [beq_eq_false_iff_ne]; intro e; exact g2 (UInt8.toNat_inj.1 (by show _ = 34; omega))
    have g4 : (((s[0]'i0).toNat : Int) != 34) = true := by rw [bne, g3]; rfl
    clear g2
    go_enter Tryz.func34, Tryz.ntmps34
    go_wp2
    refine bodyPost_ret (v := .tuple #[.agg #[.bool false, .string ⟨#[]⟩], .bool false]) (by simp [results, Tryz.results34, go_sem]) rfl ⟨par_ret HE.out, HZ.out⟩
  have g3 : ((s[0]'i0).toNat : Int) = 34 := by rw [g2]; rfl
  by_cases g5 : s[s.size - 1]'i1 = 34
  case neg =>
    have HE : Hid (ptag s.data.toList = ((false, []), false)) := Lib.hid (by rw [HQ.out, inner_no (s := s) (Or.inr (Or.inr ⟨by omega, by simpa [hz] using g5⟩))]; rfl)
    have g6 : (((s[s.size - 1]'i1).toNat : Int) == 34) = false := by
      rw [beq_eq_false_iff_ne]; intro e; exact g5 (UInt8.toNat_inj.1 (by show _ = 34; omega))
    have g7 : (((s[s.size - 1]'i1).toNat : Int) != 34) = true := by rw [bne, g6]; rfl
    clear g2 g5
    go_enter Tryz.func34, Tryz.ntmps34
    go_wp2
    refine bodyPost_ret (v := .tuple #[.agg #[.bool false, .string ⟨#[]⟩], .bool false]) (by simp [results, Tryz.results34, go_sem]) rfl ⟨par_ret HE.out, HZ.out⟩
  have g6 : ((s[s.size - 1]'i1).toNat : Int) = 34 := by rw [g5]; rfl
  have HI0 : Hid (inner s.data.toList = (true, (s.extract 1 (s.size - 1)).data.toList)) := Lib.hid (by have h := inner_yes (s := s) (by omega) g2 (by simpa [hz] using g5); rw [hz] at h; exact h)
  rw [HI0.out] at HQ
  clear HI0 HZ g2 g5
  have q2 : (2 : Int) ≤ ((s.size : Nat) : Int) := by omega
  have q3 : (1 : Int) ≤ ((s.size : Nat) : Int) - 1 := by omega
  have HI := Lib.hid (fun W => spec_is_s false (s.extract 1 (s.size - 1)) W (by first | (simp; omega) | omega))
  have HK := Lib.hid (fun w1 => kept22 (w := w) (w1 := w1) (T := 62) (a := .bool false) (b := .string ⟨#[]⟩) (c := .bool false) (d := .string (s.extract 1 (s.size - 1))))
  cases hok : okt (s.extract 1 (s.size - 1)).data.toList with
  | false =>
    have HE : Hid (ptag s.data.toList = ((false, []), false)) := Lib.hid (by rw [HQ.out]; simp only [hok]; rfl)
    rw [hok] at HI
    clear HQ hok
    go_enter Tryz.func34, Tryz.ntmps34
    go_wp2_with (fail)
    go_at_call 59
    refine (HI.out _).mono ?_
    rintro e w1 ⟨rfl, hb⟩
    obtain ⟨⟨q1, q2, q3, q4⟩, ⟨f1, f2⟩, hb1⟩ := HK.out _ hb
    have HB := Lib.hid hb1
    clear hb hb1
    go_wp2
    refine bodyPost_ret (v := .tuple #[.agg #[.bool false, .string ⟨#[]⟩], .bool false]) (by simp [results, Tryz.results34, go_sem, q1, q2, q3, q4]) rfl ⟨par_ret HE.out, ?_⟩
    exact (HB.out.setCell (Nat.le_refl _) _).setCell (Nat.le_refl _) _
  | true =>
    have HE : Hid (ptag s.data.toList = ((false, (s.extract 1 (s.size - 1)).data.toList), true)) := Lib.hid (by rw [HQ.out]; simp only [hok]; rfl)
    rw [hok] at HI
    clear HQ hok
    go_enter Tryz.func34, Tryz.ntmps34
    go_wp2_with (fail)
    go_at_call 59
    refine (HI.out _).mono ?_
    rintro e w1 ⟨rfl, hb⟩
    obtain ⟨⟨q1, q2, q3, q4⟩, ⟨f1, f2⟩, hb1⟩ := HK.out _ hb
    have HB := Lib.hid hb1
    clear hb hb1
    go_wp2
    refine bodyPost_ret (v := .tuple #[.agg #[.bool false, .string (s.extract 1 (s.size - 1))], .bool true]) (by simp [results, Tryz.results34, go_sem, q1, q2, q3, q4]) rfl ⟨par_ret HE.out, ?_⟩
    exact (HB.out.setCell (Nat.le_refl _) _).setCell (Nat.le_refl _) _

theorem spec_ptag (l : List UInt8) (w : World) (hs : l.length ≤ 1048576) : Calls Tryz.prog 34 #[.string ⟨l.toArray⟩] w (ParEnd l w) := by
  have hs' : (⟨l.toArray⟩ : ByteArray).size ≤ 1048576 := by rw [bsz]; exact hs
  by_cases h2 : 2 < ((⟨l.toArray⟩ : ByteArray).size : Int)
  · cases hq : (((⟨l.toArray⟩ : ByteArray).extract 0 2).toList == [87, 47])
    · exact spec_strongp _ w hs' h2 hq
    · exact spec_weakp _ w hs' h2 hq
  · exact spec_smallp _ w hs' h2
end Go.Proofs.YtddpfhcmifnagaaGreatDoor.Tgs

/-
  CONTRACTS of both sides' StrongSame and WeakSame; nothing that was there before is changed.
-/
namespace Go.Proofs.YtddpfhcmifnagaaGreatDoor.Tgs
open Go Go.RowKit
set_option linter.unusedVariables false
set_option maxRecDepth 1000000

def samestrong (f g : T) : Bool := !f.1 && (!g.1 && f.2 == g.2)
def sameweak (f g : T) : Bool := f.2 == g.2
theorem two_boxes (w : World) (a b : Array Value) (T1 : TypeId) : Below w.heap.size w ((w.alloc (.cells a T1)).alloc (.cells b T1)) := ((Below.refl _ _).alloc (Nat.le_refl _) _).alloc (by simp) _
theorem text_ne {y v : List UInt8} (h : y ≠ v) : ((⟨y.toArray⟩ : ByteArray) = ⟨v.toArray⟩) = False := by
  apply eq_false; intro e
  apply h
  have := congrArg (fun s : ByteArray => s.data.toList) e
  simpa using this

set_option maxHeartbeats 1000000 in
theorem spec_strong (x : Bool) (y : List UInt8) (u : Bool) (v : List UInt8) (w : World) :
    Calls Tryz.prog 66 #[.agg #[.bool x, .string ⟨y.toArray⟩], .agg #[.bool u, .string ⟨v.toArray⟩]] w (BoolEnd (samestrong (x, y) (u, v)) w) := by
  have HB := Lib.hid (two_boxes w #[.bool x, .string ⟨y.toArray⟩] #[.bool u, .string ⟨v.toArray⟩] 62)
  cases x <;> cases u
  all_goals
    go_enter Tryz.func66, Tryz.ntmps66
    go_wp2
    go_ret
    exact ⟨ret_bool (by simp [samestrong]), HB.out⟩

set_option maxHeartbeats 1000000 in
theorem impl_strong (x : Bool) (y : List UInt8) (u : Bool) (v : List UInt8) (w : World) :
    Calls Tryz.prog 41 #[.agg #[.bool x, .string ⟨y.toArray⟩], .agg #[.bool u, .string ⟨v.toArray⟩]] w (BoolEnd (samestrong (x, y) (u, v)) w) := by
  have HB := Lib.hid (two_boxes w #[.bool x, .string ⟨y.toArray⟩] #[.bool u, .string ⟨v.toArray⟩] 62)
  by_cases hyv : y = v
  · subst hyv
    cases x <;> cases u
    all_goals
      go_enter Tryz.func41, Tryz.ntmps41
      go_wp2
      go_ret
      exact ⟨ret_bool (by simp [samestrong]), HB.out⟩
  have HN : Hid (∀ p q, samestrong (p, y) (q, v) = false) := Lib.hid (fun p q => by simp [samestrong, hyv])
  cases x <;> cases u
  all_goals
    go_enter Tryz.func41, Tryz.ntmps41
    go_wp2
    go_ret
    exact ⟨ret_bool (by rw [HN.out]), HB.out⟩

set_option maxHeartbeats 1000000 in
theorem spec_weak (x : Bool) (y : List UInt8) (u : Bool) (v : List UInt8) (w : World) :
    Calls Tryz.prog 67 #[.agg #[.bool x, .string ⟨y.toArray⟩], .agg #[.bool u, .string ⟨v.toArray⟩]] w (BoolEnd (sameweak (x, y) (u, v)) w) := by
  have HB := Lib.hid (two_boxes w #[.bool x, .string ⟨y.toArray⟩] #[.bool u, .string ⟨v.toArray⟩] 62)
  go_enter Tryz.func67, Tryz.ntmps67
  go_wp2
  go_ret
  exact ⟨ret_bool (by simp [sameweak]), HB.out⟩

set_option maxHeartbeats 1000000 in
theorem impl_weak (x : Bool) (y : List UInt8) (u : Bool) (v : List UInt8) (w : World) :
    Calls Tryz.prog 76 #[.agg #[.bool x, .string ⟨y.toArray⟩], .agg #[.bool u, .string ⟨v.toArray⟩]] w (BoolEnd (sameweak (x, y) (u, v)) w) := by
  have HB := Lib.hid (two_boxes w #[.bool x, .string ⟨y.toArray⟩] #[.bool u, .string ⟨v.toArray⟩] 62)
  by_cases hyv : y = v
  · subst hyv
    go_enter Tryz.func76, Tryz.ntmps76
    go_wp2
    go_ret
    exact ⟨ret_bool (by simp [sameweak]), two_boxes _ _ _ _⟩
  · have HN : Hid (sameweak (x, y) (u, v) = false) := Lib.hid (by simp [sameweak, hyv])
    go_enter Tryz.func76, Tryz.ntmps76
    go_wp2
    go_ret
    exact ⟨ret_bool (by rw [HN.out]), two_boxes _ _ _ _⟩
end Go.Proofs.YtddpfhcmifnagaaGreatDoor.Tgs
