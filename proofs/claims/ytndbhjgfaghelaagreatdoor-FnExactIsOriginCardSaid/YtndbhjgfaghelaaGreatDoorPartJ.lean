/-
  CONTRACTS AND PLAIN FACTS, several texts in one; each says in its own words what it proves.
-/
import Derived.Test.YtndbhjgfaghelaaGreatDoorPartI
import Derived.Test.YtndbhjgfaghelaaGreatDoorPartH
import Derived.Test.YtndbhjgfaghelaaGreatDoorPartE
import Derived.IntWalk
import Derived.RegionTactic
import Derived.Test.YtndbhjgfaghelaaGreatDoorPartA
import Derived.LoopTactic
set_option linter.unusedSimpArgs false
set_option linter.unusedVariables false

/-
  CONTRACT of the model's l12Path; nothing that was there before is changed.
-/
namespace Go.Proofs.YtndbhjgfaghelaaGreatDoor.Nt
open Go Go.RowKit
set_option linter.unusedVariables false
set_option maxRecDepth 1000000
set_option maxRecDepth 1000000

def StrEnd (r : List UInt8) (w : World) (e : Ending) (w' : World) : Prop := e = .returned (.string ⟨r.toArray⟩) ∧ Below w.heap.size w w'
theorem ret_s {a b : List UInt8} (h : a = b) : Ending.returned (.string ⟨a.toArray⟩) = .returned (.string ⟨b.toArray⟩) := by rw [h]
theorem ext_tail1 (s : ByteArray) (k : Nat) (hk : k ≤ s.size) : (s.extract k s.size).data.toList = s.data.toList.drop k ∧ (s.extract k s.size).size = s.size - k := by
  have hz0 : (s.extract k s.size).data.toList = (s.data.toList.drop k).take (s.size - k) := by simp
  have h1 : (s.extract k s.size).data.toList = s.data.toList.drop k := by rw [hz0]; exact List.take_of_length_le (by rw [List.length_drop, Tx.list_len]; omega)
  exact ⟨h1, by rw [← Tx.list_len, h1, List.length_drop, Tx.list_len]⟩
theorem at_own {w w' : World} {B : Nat} {v : Value} {xs : List (List UInt8)} (h : Strs.Holds w B v xs) (h0 : 0 < xs.length) : ∃ b off cap, v = .slice (some ⟨b, off, none⟩) xs.length cap ∧ b < B ∧ Strs.At w b off xs := by
  rcases h with ⟨rfl, _⟩ | ⟨_, b, off, cap, rfl, hb, _, hc⟩
  · simp at h0
  · exact ⟨b, off, cap, rfl, hb, hc⟩
theorem shape_s {w : World} {B : Nat} {v : Value} {l : List (List UInt8)} (h : Strs.Holds w B v l) : ∃ a cap, v = .slice a l.length cap ∧ (0 < l.length → ∃ b off, a = some ⟨b, off, none⟩ ∧ b < B ∧ Strs.At w b off l) := by
  rcases h with ⟨rfl, a, cap, rfl⟩ | ⟨h0, b, off, cap, rfl, hb, hcap, hc⟩
  · exact ⟨a, cap, rfl, fun h => by simp at h⟩
  · exact ⟨_, cap, rfl, fun _ => ⟨b, off, rfl, hb, hc⟩⟩

set_option maxHeartbeats 8000000 in
theorem spec_path (s : ByteArray) (w : World) (h1 : 1 ≤ s.size) (hs : s.size ≤ 4194300) :
    Calls Tryz.prog 182 #[.string s] w (StrEnd (pathd s.data.toList) w) := by
  obtain ⟨i0, hi, hz0, hz1, hz2⟩ := info_parts Strs.info_str
  have het := ext_tail1 s 1 h1
  have HSP := Lib.hid (Spc.spec_spl 47 (s.extract 1 s.size) w (by rw [het.2]; omega))
  rw [show ((47 : UInt8).toNat : Int) = 47 from rfl, het.1] at HSP
  have hpl := pathd_len s.data.toList
  rw [Tx.list_len] at hpl
  have HPD : Hid (pathd s.data.toList = slash (fin (Spc.spl 47 (s.data.toList.drop 1)))) := Lib.hid rfl
  have hne := Spc.spl_ne 47 (s.data.toList.drop 1)
  have hcl := Spc.spl_len 47 (s.data.toList.drop 1)
  rw [List.length_drop, Tx.list_len] at hcl
  unfold Spc.SplEnd at HSP
  unfold StrEnd
  generalize pathd s.data.toList = pd at *
  generalize Spc.spl 47 (s.data.toList.drop 1) = l at *
  have h0 : 0 < l.length := by
    rcases l with _ | ⟨x, t⟩
    · exact absurd rfl hne
    · simp
  have h1i : 1 ≤ (s.size : Int) := by omega
  have HLL : Hid (l.length ≤ 4194304) := Lib.hid (by omega)
  have HPL : Hid (pd.length ≤ 4194304) := Lib.hid (by omega)
  clear hne hcl het hpl h1 hs
  go_enter Tryz.func182, Tryz.ntmps182
  go_wp2_with (fail)
  go_at_call 163
  refine HSP.out.mono ?_
  rintro e w0 ⟨vl, rfl, hol, hb0⟩
  have HB0 := Lib.hid hb0
  have hbs0 := hb0.size
  obtain ⟨bl, offl, capl, rfl, hbl, hatl⟩ := at_own (w' := w) (Strs.own_holds hol) h0
  have HAT := Lib.hid hatl
  have HOI := Lib.hid (Strs.own_lit_nil w0)
  clear hb0 hol hatl
  go_wp2
  go_loopw [4, 5, 6] (fun v i q wr => ∃ (k : Nat), k ≤ l.length ∧ i = .int .i64 (k : Int) ∧ Strs.Own wr w0.heap.size v (kl l k) ∧ Below w0.heap.size w0 wr) (fun _ i _ _ => l.length - (intOf i).toNat)
  case atStart => exact ⟨0, Nat.zero_le _, rfl, by rw [kl_start h0]; exact HOI.out, (Below.refl _ _).alloc (Nat.le_refl _) _⟩
  case round =>
    clear HOI
    obtain ⟨k, hk, rfl, hown, hb⟩ := hrel
    have HB := Lib.hid hb
    have HO := Lib.hid hown
    have hbs := hb.size
    have HKL := Lib.hid (kl_len l k hk)
    have hsl : (Strs.svs (kl l k)).length = (kl l k).length := Strs.svs_len _
    clear hb hown
    have hll := HLL.out
    by_cases hlt : k < l.length
    case neg =>
      have HF := Lib.hid (kl_all hlt)
      have hkx : ¬ (k : Int) < (l.length : Int) := by omega
      rw [HF.out] at HO HKL hsl
      generalize fin l = fl at HO HKL HPD hsl
      have hfl : fl.length ≤ 4194305 := by have := HKL.out; omega
      obtain ⟨af, capf, rfl, haf⟩ := shape_s (Strs.own_holds HO.out)
      have HAF := Lib.hid haf
      clear haf hlt HF
      go_wp2
      go_loopw [7, 8] (fun t i wq => ∃ (j : Nat), j ≤ fl.length ∧ i = .int .i64 (j : Int) ∧ t = .string ⟨(slash (fl.take j)).toArray⟩ ∧ Below wr.heap.size wr wq ∧ Below w0.heap.size w0 wq) (fun _ i _ => fl.length - (intOf i).toNat)
      case atStart => exact ⟨0, Nat.zero_le _, rfl, rfl, Below.refl _ _, HB.out⟩
      case round =>
        obtain ⟨j, hj, rfl, rfl, hbq, hb2⟩ := hrel
        have HBQ := Lib.hid hbq
        have HB2 := Lib.hid hb2
        clear hb2
        by_cases hjl : j < fl.length
        case neg =>
          have HE : Hid (slash (fl.take j) = pd) := Lib.hid (by rw [slash_all hjl, HPD.out])
          go_wp2
          go_ret
          exact ⟨ret_s HE.out, Base.then_below HB0.out HB2.out⟩
        obtain ⟨b, off, rfl, hbw, hat⟩ := HAF.out (by omega)
        have c0 := Strs.at_below hat hbq hbw j hjl
        have HM := Lib.hid (slash_more hjl)
        have hl1 := slash_take fl (j + 1)
        rw [slash_more hjl, ← HPD.out, List.length_append, List.length_cons] at hl1
        unfold Strs.sv at c0
        clear hat hbq
        generalize fl.getD j [] = c at c0 HM hl1
        generalize slash (fl.take j) = r at HM hl1 ⊢
        have hpl := HPL.out
        have a1 := Tx.addtwo r [47] (by simp only [List.length_cons, List.length_nil]; omega)
        have a2 := Tx.addtwo (r ++ [47]) c (by simp only [List.length_append, List.length_cons, List.length_nil]; omega)
        generalize hr1 : r ++ [47] = r1 at a1 a2
        generalize hr2 : r1 ++ c = r2 at a2
        have HQ : Hid (slash (fl.take (j + 1)) = r2) := Lib.hid (by rw [HM.out, ← hr2, ← hr1]; simp)
        have hji : (j : Int) < (fl.length : Int) := by omega
        clear hr1 hr2 HM hl1 hpl
        go_wp2
        all_goals first | go_region | skip
        all_goals go_wp2
        all_goals go_roundw
        all_goals first
          | exact ⟨j + 1, by omega, by go_num, by rw [HQ.out], by first | exact HBQ.out | exact HBQ.out.drew | exact Rec.below_drewN HBQ.out _, by first | exact HB2.out | exact HB2.out.drew | exact Rec.below_drewN HB2.out _⟩
          | (simp [intOf]; omega)
    have c0 := Strs.at_below HAT.out HB.out hbl k hlt
    unfold Strs.sv at c0
    have hki : (k : Int) < (l.length : Int) := by omega
    have HMID := Lib.hid (fun h => kl_mid (l := l) (k := k) h)
    have HLST := Lib.hid (fun h => kl_last (l := l) (k := k) h)
    generalize l.getD k [] = c at c0 HMID HLST
    generalize kl l k = ks at HO HKL hsl HMID HLST
    by_cases h2 : c = [46, 46]
    · subst h2
      rcases List.eq_nil_or_concat ks with rfl | ⟨ls, x, rfl⟩
      · have hz : ([] : List (List UInt8)).length = 0 := rfl
        obtain ⟨au, cpu, rfl, _⟩ := shape_s (Strs.own_holds HO.out)
        by_cases hla : k + 1 = l.length
        · have hq : (((k : Int)) == ((l.length : Int) - 1)) = true := by simp; omega
          have HX := Lib.hid (HLST.out hla)
          rw [if_pos (by rfl), kstep_two] at HX
          rw [show ([] : List (List UInt8)).dropLast = [] from rfl] at HX
          clear HMID HLST hla
          go_wp2_with (at_builtin; refine wpList_append_own _ rfl (.tmp 61) (.tmp 62) 72 rfl w0.heap.size 9 i0 (.string ⟨#[]⟩) 1 16 Tryz.underlying72 hi hz0 hz1 hz2 rfl (by decide) _ _ _ rfl (HO.out.alloc _) ⟨wr.heap.size, 0, none⟩ 1 1 [.string ⟨#[]⟩] rfl rfl (Strs.news_one _ _ _) (by intro u hu; simp at hu; subst hu; rfl) (by have := HKL.out; have := HLL.out; unfold maxLen; omega) (by have := HKL.out; have := HLL.out; omega) (by rw [World.size_alloc]; omega) ?_; intro v1 w1 hown1 hg1 _; have hg0 := hg1.size)
          have R := Lib.hid (Strs.push_own (x := []) HO.out HB.out (Nat.le_refl _) hown1 hg1)
          clear hown1 hg1
          go_wp2
          go_roundw
          case rel => exact ⟨k + 1, by omega, by go_num, by rw [HX.out]; exact R.out.1, R.out.2⟩
          case measure => simp [intOf]; omega
        · have hq : (((k : Int)) == ((l.length : Int) - 1)) = false := by simp; omega
          have HX := Lib.hid (HMID.out (by omega))
          rw [kstep_two] at HX
          rw [show ([] : List (List UInt8)).dropLast = [] from rfl] at HX
          clear HMID HLST hla
          go_wp2
          go_roundw
          case rel => exact ⟨k + 1, by omega, by go_num, by rw [HX.out]; exact HO.out, HB.out⟩
          case measure => simp [intOf]; omega
      · rw [List.concat_eq_append] at HO HKL HMID HLST hsl
        obtain ⟨g, cpu, rfl, hcu, hop⟩ := pop_own HO.out
        have HOP := Lib.hid hop
        have hcu' : (ls.length : Int) ≤ (cpu : Int) := by omega
        rw [List.length_append] at HKL
        have hlsl : ls.length ≤ 4194304 := by have h9 := HKL.out; simp only [List.length_cons, List.length_nil] at h9; omega
        clear hop
        by_cases hla : k + 1 = l.length
        · have hq : (((k : Int)) == ((l.length : Int) - 1)) = true := by simp; omega
          have HX := Lib.hid (HLST.out hla)
          rw [if_pos (by rfl), kstep_two] at HX
          rw [List.dropLast_concat] at HX
          clear HMID HLST hla
          go_wp2_with (at_builtin; refine wpList_append_own _ rfl (.tmp 61) (.tmp 62) 72 rfl w0.heap.size 9 i0 (.string ⟨#[]⟩) 1 16 Tryz.underlying72 hi hz0 hz1 hz2 rfl (by decide) _ _ _ rfl (HOP.out.alloc _) ⟨wr.heap.size, 0, none⟩ 1 1 [.string ⟨#[]⟩] rfl rfl (Strs.news_one _ _ _) (by intro u hu; simp at hu; subst hu; rfl) (by have := HKL.out; have := HLL.out; unfold maxLen; omega) (by have := HKL.out; have := HLL.out; omega) (by rw [World.size_alloc]; omega) ?_; intro v1 w1 hown1 hg1 _; have hg0 := hg1.size)
          have R := Lib.hid (Strs.push_own (x := []) HOP.out HB.out (Nat.le_refl _) hown1 hg1)
          clear hown1 hg1
          go_wp2
          go_roundw
          case rel => exact ⟨k + 1, by omega, by go_num, by rw [HX.out]; exact R.out.1, R.out.2⟩
          case measure => simp [intOf]; omega
        · have hq : (((k : Int)) == ((l.length : Int) - 1)) = false := by simp; omega
          have HX := Lib.hid (HMID.out (by omega))
          rw [kstep_two] at HX
          rw [List.dropLast_concat] at HX
          clear HMID HLST hla
          go_wp2
          go_roundw
          case rel => exact ⟨k + 1, by omega, by go_num, by rw [HX.out]; exact HOP.out, HB.out⟩
          case measure => simp [intOf]; omega
    by_cases h1 : c = [46]
    · subst h1
      by_cases hla : k + 1 = l.length
      · have hq : (((k : Int)) == ((l.length : Int) - 1)) = true := by simp; omega
        have HX := Lib.hid (HLST.out hla)
        rw [if_pos (by rfl), kstep_dot] at HX
        clear HMID HLST hla
        go_wp2_with (at_builtin; refine wpList_append_own _ rfl (.tmp 61) (.tmp 62) 72 rfl w0.heap.size 9 i0 (.string ⟨#[]⟩) 1 16 Tryz.underlying72 hi hz0 hz1 hz2 rfl (by decide) _ _ _ rfl (HO.out.alloc _) ⟨wr.heap.size, 0, none⟩ 1 1 [.string ⟨#[]⟩] rfl rfl (Strs.news_one _ _ _) (by intro u hu; simp at hu; subst hu; rfl) (by have := HKL.out; have := HLL.out; unfold maxLen; omega) (by have := HKL.out; have := HLL.out; omega) (by rw [World.size_alloc]; omega) ?_; intro v1 w1 hown1 hg1 _; have hg0 := hg1.size)
        have R := Lib.hid (Strs.push_own (x := []) HO.out HB.out (Nat.le_refl _) hown1 hg1)
        clear hown1 hg1
        go_wp2
        go_roundw
        case rel => exact ⟨k + 1, by omega, by go_num, by rw [HX.out]; exact R.out.1, R.out.2⟩
        case measure => simp [intOf]; omega
      · have hq : (((k : Int)) == ((l.length : Int) - 1)) = false := by simp; omega
        have HX := Lib.hid (HMID.out (by omega))
        rw [kstep_dot] at HX
        clear HMID HLST hla
        go_wp2
        go_roundw
        case rel => exact ⟨k + 1, by omega, by go_num, by rw [HX.out]; exact HO.out, HB.out⟩
        case measure => simp [intOf]; omega
    have n1 := h1
    have n2 := h2
    have e1 : (c == [46]) = false := by simpa using h1
    have e2 : (c == [46, 46]) = false := by simpa using h2
    have e3 : (c != [46]) = true := by simpa using h1
    have e4 : (c != [46, 46]) = true := by simpa using h2
    by_cases hla : k + 1 = l.length
    · have hq : (((k : Int)) == ((l.length : Int) - 1)) = true := by simp; omega
      have HX := Lib.hid (HLST.out hla)
      rw [if_neg (by rw [isdot_no n1 n2]; decide), kstep_other n1 n2] at HX
      clear HMID HLST hla
      go_wp2_with (at_builtin; refine wpList_append_own _ rfl (.tmp 53) (.tmp 58) 72 rfl w0.heap.size 9 i0 (.string ⟨#[]⟩) 1 16 Tryz.underlying72 hi hz0 hz1 hz2 rfl (by decide) _ _ _ rfl (HO.out.alloc _) ⟨wr.heap.size, 0, none⟩ 1 1 [.string ⟨c.toArray⟩] rfl rfl (Strs.news_one _ _ _) (by intro u hu; simp at hu; subst hu; rfl) (by have := HKL.out; have := HLL.out; unfold maxLen; omega) (by have := HKL.out; have := HLL.out; omega) (by rw [World.size_alloc]; omega) ?_; intro v1 w1 hown1 hg1 _; have hg0 := hg1.size)
      have R := Lib.hid (Strs.push_own (x := c) HO.out HB.out (Nat.le_refl _) hown1 hg1)
      clear hown1 hg1
      go_wp2
      go_roundw
      case rel => exact ⟨k + 1, by omega, by go_num, by rw [HX.out]; exact R.out.1, R.out.2⟩
      case measure => simp [intOf]; omega
    · have hq : (((k : Int)) == ((l.length : Int) - 1)) = false := by simp; omega
      have HX := Lib.hid (HMID.out (by omega))
      rw [kstep_other n1 n2] at HX
      clear HMID HLST hla
      go_wp2_with (at_builtin; refine wpList_append_own _ rfl (.tmp 53) (.tmp 58) 72 rfl w0.heap.size 9 i0 (.string ⟨#[]⟩) 1 16 Tryz.underlying72 hi hz0 hz1 hz2 rfl (by decide) _ _ _ rfl (HO.out.alloc _) ⟨wr.heap.size, 0, none⟩ 1 1 [.string ⟨c.toArray⟩] rfl rfl (Strs.news_one _ _ _) (by intro u hu; simp at hu; subst hu; rfl) (by have := HKL.out; have := HLL.out; unfold maxLen; omega) (by have := HKL.out; have := HLL.out; omega) (by rw [World.size_alloc]; omega) ?_; intro v1 w1 hown1 hg1 _; have hg0 := hg1.size)
      have R := Lib.hid (Strs.push_own (x := c) HO.out HB.out (Nat.le_refl _) hown1 hg1)
      clear hown1 hg1
      go_wp2
      go_roundw
      case rel => exact ⟨k + 1, by omega, by go_num, by rw [HX.out]; exact R.out.1, R.out.2⟩
      case measure => simp [intOf]; omega
end Go.Proofs.YtndbhjgfaghelaaGreatDoor.Nt

/-
  CONTRACT of the program's Max.
-/
namespace Go.Proofs.YtndbhjgfaghelaaGreatDoor.Mm
open Go Go.RowKit
set_option linter.unusedVariables false
set_option maxRecDepth 1000000
theorem ret_max_impl {a b : Int} (h : a = b) : Ending.returned (.int .i64 a) = .returned (.int .i64 b) := by rw [h]
theorem impl_max (a b : Int) (w : World) : Calls Tryz.prog 19 #[.int .i64 a, .int .i64 b] w fun e w' => e = .returned (.int .i64 (max a b)) ∧ w = w' := by
  by_cases h : b ≤ a
  · go_enter Tryz.func19, Tryz.ntmps19
    go_wp2
    all_goals go_ret
    all_goals exact ⟨ret_max_impl (by omega), rfl⟩
  · go_enter Tryz.func19, Tryz.ntmps19
    go_wp2
    all_goals go_ret
    all_goals exact ⟨ret_max_impl (by omega), rfl⟩
end Go.Proofs.YtndbhjgfaghelaaGreatDoor.Mm
