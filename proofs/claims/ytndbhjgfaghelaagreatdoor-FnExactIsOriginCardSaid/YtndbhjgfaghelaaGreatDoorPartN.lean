/-
  CONTRACTS AND PLAIN FACTS, several texts in one; each says in its own words what it proves.
-/
import Derived.Test.YtndbhjgfaghelaaGreatDoorPartM
import Derived.Deep.AppendLies
import Derived.Deep.RegionHeldLaw
import Derived.RegionTactic
import Derived.Deep.RegionWith
import Derived.Test.YtndbhjgfaghelaaGreatDoorPartL
import Derived.Test.YtndbhjgfaghelaaGreatDoorPartJ
set_option linter.unusedSimpArgs false
set_option linter.unusedVariables false

/-
  CONTRACT of the model's l12Query; nothing that was there before is changed.
-/
namespace Go.Proofs.YtndbhjgfaghelaaGreatDoor.Nt
open Go Go.RowKit
set_option linter.unusedVariables false
set_option maxRecDepth 1000000
set_option maxRecDepth 1000000

set_option maxHeartbeats 16000000 in
theorem spec_query (s : ByteArray) (w : World) (hs : s.size ≤ 4194300) :
    Calls Tryz.prog 183 #[.string s] w (StrEnd (query s.data.toList) w) := by
  obtain ⟨i0, hi, hz0, hz1, hz2⟩ := info_parts Strs.info_str
  have HSP := Lib.hid (Spc.spec_spl 38 s w (by omega))
  rw [show ((38 : UInt8).toNat : Int) = 38 from rfl] at HSP
  have hql := query_len s.data.toList
  rw [Tx.list_len] at hql
  have HQD : Hid (query s.data.toList = Lib.join (qsort (qparts (Spc.spl 38 s.data.toList))) [38]) := Lib.hid rfl
  have hne := Spc.spl_ne 38 s.data.toList
  have hcl := Spc.spl_len 38 s.data.toList
  rw [Tx.list_len] at hcl
  unfold Spc.SplEnd at HSP
  unfold StrEnd
  generalize query s.data.toList = qd at *
  generalize Spc.spl 38 s.data.toList = l at *
  have h0 : 0 < l.length := by
    rcases l with _ | ⟨x, t⟩
    · exact absurd rfl hne
    · simp
  have HQL : Hid (qd.length ≤ 4194304) := Lib.hid (by omega)
  have hll : l.length ≤ 4194304 := by omega
  clear hne hcl hql hs
  go_enter Tryz.func183, Tryz.ntmps183
  go_wp2_with (fail)
  go_at_call 163
  refine HSP.out.mono ?_
  rintro e w0 ⟨vl, rfl, hol, hb0⟩
  have HB0 := Lib.hid hb0
  obtain ⟨bl, offl, capl, rfl, hbl, hatl⟩ := at_own (w' := w) (Strs.own_holds hol) h0
  have HAT := Lib.hid hatl
  have HOI := Lib.hid (Strs.own_lit_nil w0)
  have HZ : Hid (qsort (qparts (l.take 0)) = []) := Lib.hid (by simp [qparts, qsort])
  clear hb0 hol hatl
  go_wp2
  go_loopw [4, 5, 6] (fun v i kk wr => ∃ (k : Nat) (g cap : Nat), k ≤ l.length ∧ i = .int .i64 (k : Int) ∧ v = .slice (some ⟨g, 0, none⟩) (qsort (qparts (l.take k))).length cap ∧ Hid (Strs.Own wr w0.heap.size v (qsort (qparts (l.take k)))) ∧ Hid (Below w0.heap.size w0 wr)) (fun _ i _ _ => l.length - (intOf i).toNat)
  case atStart => exact ⟨0, w0.heap.size, 0, Nat.zero_le _, rfl, by rw [HZ.out]; rfl, by rw [HZ.out]; exact HOI, Lib.hid ((Below.refl _ _).alloc (Nat.le_refl _) _)⟩
  case round =>
    clear HOI HZ
    obtain ⟨k, g, cap, hk, rfl, rfl, HO, HB⟩ := hrel
    have hbs := HB.out.size
    have HKL : Hid ((qsort (qparts (l.take k))).length ≤ l.length) := Lib.hid (by rw [qsort_len]; exact qparts_len l k)
    by_cases hlt : k < l.length
    case neg =>
      have HF : Hid (qd = Lib.join (qsort (qparts (l.take k))) [38]) := Lib.hid (by rw [qparts_all hlt]; exact HQD.out)
      have hkx : ¬ (k : Int) < (l.length : Int) := by omega
      generalize qsort (qparts (l.take k)) = fl at HO HKL HF
      have hfl : fl.length ≤ 4194304 := by have := HKL.out; omega
      clear hlt
      go_wp2
      go_loopw [7, 8] (fun t i wq => ∃ (j : Nat), j ≤ fl.length ∧ i = .int .i64 (j : Int) ∧ t = .string ⟨(Lib.join (fl.take j) [38]).toArray⟩ ∧ Hid (Below wr.heap.size wr wq) ∧ Hid (Below w0.heap.size w0 wq)) (fun _ i _ => fl.length - (intOf i).toNat)
      case atStart => exact ⟨0, Nat.zero_le _, rfl, rfl, Lib.hid (Below.refl _ _), HB⟩
      case round =>
        obtain ⟨j, hj, rfl, rfl, HBQ, HB2⟩ := hrel
        by_cases hjl : j < fl.length
        case neg =>
          have HE : Hid (Lib.join (fl.take j) [38] = qd) := Lib.hid (by rw [List.take_of_length_le (by omega), HF.out])
          have hji : ¬ (j : Int) < (fl.length : Int) := by omega
          go_wp2
          go_ret
          exact ⟨ret_s HE.out, Base.then_below HB0.out HB2.out⟩
        have c0 := Strs.own_cell (Rec.row_below HO.out HBQ.out) hjl
        have hl1 := amp_take fl (j + 1)
        rw [← HF.out] at hl1
        have hpl := HQL.out
        unfold Strs.sv at c0
        have hji : (j : Int) < (fl.length : Int) := by omega
        by_cases hj0 : 0 < j
        · have HM := Lib.hid (amp_more hjl hj0)
          rw [HM.out] at hl1
          have hz : (0 : Int) < (j : Int) := by omega
          generalize fl.getD j [] = c at c0 HM hl1
          generalize Lib.join (fl.take j) [38] = r at HM hl1 ⊢
          simp only [List.length_append, List.length_cons, List.length_nil] at hl1
          have a1 := Tx.addtwo r [38] (by simp only [List.length_cons, List.length_nil]; omega)
          have a2 := Tx.addtwo (r ++ [38]) c (by simp only [List.length_append, List.length_cons, List.length_nil]; omega)
          generalize hr1 : r ++ [38] = r1 at a1 a2 HM
          generalize hr2 : r1 ++ c = r2 at a2 HM
          clear hr1 hr2 hl1 hpl
          go_wp2
          all_goals first | go_region | skip
          all_goals go_wp2
          all_goals go_roundw
          all_goals first
            | exact ⟨j + 1, by omega, by go_num, by rw [HM.out], Lib.hid (by first | exact HBQ.out | exact HBQ.out.drew | exact Rec.below_drewN HBQ.out _), Lib.hid (by first | exact HB2.out | exact HB2.out.drew | exact Rec.below_drewN HB2.out _)⟩
            | (simp [intOf]; omega)
        · have hz : ¬ (0 : Int) < (j : Int) := by omega
          obtain rfl : j = 0 := by omega
          have HM := Lib.hid (amp_first hjl)
          rw [HM.out] at hl1
          have e0 : Lib.join (fl.take 0) [38] = [] := rfl
          rw [e0]
          generalize fl.getD 0 [] = c at c0 HM hl1
          have a2 : ∀ W, (Op.stringOp .add ⟨#[]⟩ ⟨c.toArray⟩).run Tryz.prog W = .ok (.string ⟨c.toArray⟩) W := Tx.addtwo [] c (by simp only [List.length_cons, List.length_nil]; omega)
          clear hl1 hpl e0
          go_wp2
          all_goals first | go_region | skip
          all_goals go_wp2
          all_goals go_roundw
          all_goals first
            | exact ⟨0 + 1, by omega, by go_num, by rw [HM.out], Lib.hid (by first | exact HBQ.out | exact HBQ.out.drew | exact Rec.below_drewN HBQ.out _), Lib.hid (by first | exact HB2.out | exact HB2.out.drew | exact Rec.below_drewN HB2.out _)⟩
            | (simp [intOf]; omega)
    have c0 := Strs.at_below HAT.out HB.out hbl k hlt
    have HCF := Lib.hid (fun u (hb : Below w0.heap.size w0 u) => Strs.at_below HAT.out hb hbl k hlt)
    unfold Strs.sv at HCF c0
    have hki : (k : Int) < (l.length : Int) := by omega
    have HM := Lib.hid (qparts_more hlt)
    have HQ1 : Hid (l.getD k [] = [] → qsort (qparts (l.take (k + 1))) = qsort (qparts (l.take k))) := Lib.hid (fun h => by rw [HM.out, h]; rfl)
    have HQ2 : Hid (l.getD k [] ≠ [] → ∀ {m : Nat}, m ≤ (qsort (qparts (l.take k))).length → (∀ j, m ≤ j → (hj : j < (qsort (qparts (l.take k))).length) → l.getD k [] < (qsort (qparts (l.take k)))[j]) → (m = 0 ∨ ∃ hj : m - 1 < (qsort (qparts (l.take k))).length, ¬ l.getD k [] < (qsort (qparts (l.take k)))[m - 1]) → qsort (qparts (l.take (k + 1))) = ins (qsort (qparts (l.take k))) m (l.getD k [])) := Lib.hid (fun h m hm h1 h2 => by
      rw [HM.out, if_pos (by simpa using h)]; exact (ins_qsort hm h1 h2).symm)
    generalize l.getD k [] = c at c0 HCF HQ1 HQ2
    generalize hY : qsort (qparts (l.take (k + 1))) = ys at HQ1 HQ2
    have HY := Lib.hid hY
    clear hY
    generalize qsort (qparts (l.take k)) = xs at HO HKL HQ1 HQ2
    clear HM
    have hxl : xs.length ≤ 4194304 := by have := HKL.out; omega
    go_wp2
    go_loopw [6] (fun kk wq => ∃ (m : Nat), m ≤ xs.length ∧ kk = .int .i64 (m : Int) ∧ Hid (∀ j, m ≤ j → (hj : j < xs.length) → c < xs[j]) ∧ Hid (Below wr.heap.size wr wq)) (fun kk _ => (intOf kk).toNat)
    case atStart => exact ⟨xs.length, Nat.le_refl _, rfl, Lib.hid (fun j h1 h2 => by omega), Lib.hid (Below.refl _ _)⟩
    case round =>
      obtain ⟨m, hm, rfl, HG, HBW⟩ := hrel
      have HBQ := Lib.hid (Base.then_below HB.out HBW.out)
      have HOQ := Lib.hid (Rec.row_below HO.out HBW.out)
      by_cases hgo : 0 < m ∧ c < xs.getD (m - 1) []
      case pos =>
        obtain ⟨hm0, hcl⟩ := hgo
        have c1 := HCF.out _ HBQ.out
        have c2 := Strs.own_cell HOQ.out (show m - 1 < xs.length by omega)
        unfold Strs.sv at c2
        have d0 : decide (0 < (m : Int)) = true := by simp; omega
        have hmi : (0 : Int) < (m : Int) := by omega
        have d1 := bytes_less c (xs.getD (m - 1) [])
        rw [decide_eq_true hcl] at d1
        have HG1 : Hid (∀ j, m - 1 ≤ j → (hj : j < xs.length) → c < xs[j]) := Lib.hid (fun j h1 h2 => by
          by_cases e : j = m - 1
          · subst e; simpa [List.getD, h2] using hcl
          · exact HG.out j (by omega) h2)
        generalize xs.getD (m - 1) [] = x at c2 d1
        have hm1 : ((m : Int) - 1) = ((m - 1 : Nat) : Int) := by omega
        clear hcl c0 HG
        go_wp2
        go_quiet (fail)
        go_wp2
        go_roundw
        all_goals first
          | exact ⟨m - 1, by omega, rfl, HG1, Lib.hid (Rec.below_drewN HBW.out _)⟩
          | (simp [intOf]; omega)
      case neg =>
        have HSTOP : Hid (m = 0 ∨ ∃ hj : m - 1 < xs.length, ¬ c < xs[m - 1]) := Lib.hid (by
          by_cases h : 0 < m
          · refine Or.inr ⟨by omega, fun hc => hgo ⟨h, ?_⟩⟩
            simpa [List.getD, show m - 1 < xs.length by omega] using hc
          · exact Or.inl (by omega))
        have HPRE := Lib.hid (fun u (hu : Below wr.heap.size wr u) => Rec.holds_below (pre_holds HOQ.out hm) hu)
        have hcap : xs.length ≤ cap := by
          rcases HOQ.out.2 with ⟨e, _⟩ | ⟨g', cap', cur, e, _, _, hn, hcap, _⟩
          · simp at e
          · simp at e; obtain ⟨_, rfl⟩ := e; omega
        have HSUF : Hid (∀ u, Below wr.heap.size wr u → Rec.Holds 1 scs [] u wr.heap.size (.slice (if cap = m then some ⟨g, 0, none⟩ else some ⟨g, m, none⟩) (xs.length - m) (cap - m)) (xs.drop m)) := Lib.hid (fun u hu => by
          by_cases e : cap = m
          · rw [if_pos e, show xs.length - m = 0 by omega]; exact Or.inl ⟨List.drop_eq_nil_of_le (by omega), _, _, rfl⟩
          · rw [if_neg e]; exact Rec.holds_below (suf_holds (cap - m) HOQ.out hm rfl) hu)
        have c1 := HCF.out _ HBQ.out
        have HBD : Hid (∀ n, Below wr.heap.size wr (wr.drewN n).drew) := Lib.hid (fun n => (Rec.below_drewN (Below.refl _ _) n).drew)
        have HSD : Hid (∀ n, (wr.drewN n).drew.cell? ⟨bl, offl + k, none⟩ = some (.string ⟨c.toArray⟩) ∧ Hid (Below wr.heap.size wr (wr.drewN n).drew)) := Lib.hid (fun n => ⟨HCF.out _ (Rec.below_drewN HBQ.out n).drew, Lib.hid (HBD.out n)⟩)
        have hwz := HBQ.out.size
        have SA : Hid (∀ (u : World) (o : Obj), u.cell? ⟨bl, offl + k, none⟩ = some (.string ⟨c.toArray⟩) → Hid (Below wr.heap.size wr u) → ((u.alloc o).cell? ⟨bl, offl + k, none⟩ = some (.string ⟨c.toArray⟩) ∧ Hid (Below wr.heap.size wr (u.alloc o)))) := Lib.hid (fun u o _ hb => ⟨HCF.out _ (Base.then_below HBQ.out (ba hb.out o)), Lib.hid (ba hb.out o)⟩)
        have SB : Hid (∀ u, Hid (Below wr.heap.size wr u) → (u.cell? ⟨bl, offl + k, none⟩ = some (.string ⟨c.toArray⟩) ∧ Hid (Below wr.heap.size wr u))) := Lib.hid (fun u hb => ⟨HCF.out _ (Base.then_below HBQ.out hb.out), hb⟩)
        have hmi0 : (0 : Int) ≤ (m : Int) := by omega
        have hmt : ((m : Int)).toNat = m := by omega
        have hki0 : (0 : Int) ≤ (k : Int) := by omega
        have hmc : (m : Int) ≤ (cap : Int) := by omega
        have hmcn : m ≤ cap := by omega
        have hml : (m : Int) ≤ (xs.length : Int) := by omega
        by_cases hc : c = []
        · have dc : (!c.isEmpty) = false := by simp [hc]
          have HX := Lib.hid (HQ1.out hc)
          clear hc HPRE HSUF HSTOP HG
          by_cases hm0 : 0 < m
          · have d0 : decide (0 < (m : Int)) = true := by simp; omega
            have hmi : (0 : Int) < (m : Int) := by omega
            have c2 := Strs.own_cell HOQ.out (show m - 1 < xs.length by omega)
            unfold Strs.sv at c2
            have d1 := bytes_less c (xs.getD (m - 1) [])
            rw [decide_eq_false (fun h => hgo ⟨hm0, h⟩)] at d1
            have hm1 : ((m : Int) - 1) = ((m - 1 : Nat) : Int) := by omega
            generalize xs.getD (m - 1) [] = x at c2 d1
            clear hgo c0
            go_wp2
            go_quiet (fail)
            go_wp2
            all_goals exact ⟨⟨k + 1, g, cap, by omega, by go_num, by rw [HY.out, HX.out], by rw [HY.out, HX.out]; exact Lib.hid (Rec.row_below HOQ.out (Rec.below_drewN (Below.refl _ _) _)), Lib.hid (Rec.below_drewN HBQ.out _)⟩, by simp [intOf]; omega⟩
          · have d0 : decide (0 < (m : Int)) = false := by simp; omega
            have hmi : ¬ (0 : Int) < (m : Int) := by omega
            clear hgo c0
            go_wp2
            go_quiet (fail)
            go_wp2
            all_goals exact ⟨⟨k + 1, g, cap, by omega, by go_num, by rw [HY.out, HX.out], by rw [HY.out, HX.out]; exact Lib.hid (Rec.row_below HOQ.out (Rec.below_drewN (Below.refl _ _) _)), Lib.hid (Rec.below_drewN HBQ.out _)⟩, by simp [intOf]; omega⟩
        · have dc : (!c.isEmpty) = true := by cases c with | nil => exact absurd rfl hc | cons _ _ => rfl
          have HX := Lib.hid (HQ2.out hc hm HG.out HSTOP.out)
          clear hc HSTOP HG
          by_cases hm0 : 0 < m
          · have d0 : decide (0 < (m : Int)) = true := by simp; omega
            have hmi : (0 : Int) < (m : Int) := by omega
            have c2 := Strs.own_cell HOQ.out (show m - 1 < xs.length by omega)
            unfold Strs.sv at c2
            have d1 := bytes_less c (xs.getD (m - 1) [])
            rw [decide_eq_false (fun h => hgo ⟨hm0, h⟩)] at d1
            have hm1 : ((m : Int) - 1) = ((m - 1 : Nat) : Int) := by omega
            generalize xs.getD (m - 1) [] = x at c2 d1
            clear hgo c0
            go_wp2
            go_quiet (fail)
            clear c2 d1 hm1
            go_wp2
            go_region_held_law (fun u => u.cell? ⟨bl, offl + k, none⟩ = some (.string ⟨c.toArray⟩) ∧ Hid (Below wr.heap.size wr u))
              (first | exact HSD.out _ | (go_split_ands; refine SA.out _ _ ?_ ?_ <;> assumption) | exact SB.out _ HB6 | exact SB.out _ HB5 | exact SB.out _ HB3 | go_keep)
              (first
                | (refine Rec.step_holds scs_len scs_one (v := .slice (some ⟨_, 0, none⟩) 0 0) (by rfl) (.tmp 41) (.tmp 44) 72 9 (by rfl) Tryz.underlying72 hi hz0 hz1 hz2 (by rfl) (by decide) (by rfl) (by rfl) (by first | exact own_nil (by first | exact (HBD.out _).size | exact (ba (HBD.out _) _).size) (by first | rfl | (rw [World.size_alloc]; rfl) | simp) | exact (own_nil (by first | exact (HBD.out _).size | exact (ba (HBD.out _) _).size) (by first | rfl | (rw [World.size_alloc]; rfl) | simp)).alloc _) (HPRE.out _ (by first | exact ba (HBD.out _) _ | exact ba (ba (HBD.out _) _) _)) (by simp only [List.length_take, List.length_nil, List.length_append, List.length_cons, List.length_drop]; unfold maxLen; omega) (by simp only [List.length_take, List.length_nil, List.length_append, List.length_cons, List.length_drop]; omega) (by first | exact (ba (HBD.out _) _).size | exact (ba (ba (HBD.out _) _) _).size) ?_; intro v1 w3 hown1 hgrow1; have HB3 : Hid (Below wr.heap.size wr w3) := Lib.hid (bg (B := wr.heap.size) (by first | exact ba (HBD.out _) _ | exact ba (ba (HBD.out _) _) _) (by first | exact own_nil (by first | exact (HBD.out _).size | exact (ba (HBD.out _) _).size) (by first | rfl | (rw [World.size_alloc]; rfl) | simp) | exact (own_nil (by first | exact (HBD.out _).size | exact (ba (HBD.out _) _).size) (by first | rfl | (rw [World.size_alloc]; rfl) | simp)).alloc _) (Nat.le_refl _) hgrow1))
                | (refine Rec.step_holds scs_len scs_one (by rfl) (.tmp 45) (.tmp 50) 72 9 (by rfl) Tryz.underlying72 hi hz0 hz1 hz2 (by rfl) (by decide) (by rfl) (by rfl) (by first | exact hown1 | exact hown1.alloc _) (m := [c]) (by first | exact one_holds _ _ _ | exact one_first hgrow1 (by first | rfl | (rw [World.size_alloc]; rfl) | simp) | exact one_then hgrow1 (by first | rfl | (rw [World.size_alloc]; rfl) | simp)) (by simp only [List.length_take, List.length_nil, List.length_append, List.length_cons, List.length_drop]; unfold maxLen; omega) (by simp only [List.length_take, List.length_nil, List.length_append, List.length_cons, List.length_drop]; omega) (by first | exact HB3.out.size | exact (ba HB3.out _).size) ?_; intro v2 w5 hown2 hgrow2; have HB5 : Hid (Below wr.heap.size wr w5) := Lib.hid (bg (B := wr.heap.size) (by first | exact HB3.out | exact ba HB3.out _) (by first | exact hown1 | exact hown1.alloc _) (Nat.le_refl _) hgrow2))
                | (refine Rec.step_holds scs_len scs_one (by rfl) (.tmp 51) (.tmp 54) 72 9 (by rfl) Tryz.underlying72 hi hz0 hz1 hz2 (by rfl) (by decide) (by rfl) (by rfl) hown2 (HSUF.out _ HB5.out) (by simp only [List.length_take, List.length_nil, List.length_append, List.length_cons, List.length_drop]; unfold maxLen; omega) (by simp only [List.length_take, List.length_nil, List.length_append, List.length_cons, List.length_drop]; omega) HB5.out.size ?_; intro v3 w6 hown3 hgrow3; have HB6 : Hid (Below wr.heap.size wr w6) := Lib.hid (bg HB5.out hown2 (Nat.le_refl _) hgrow3))
                | fail)
            all_goals (
              have R1 : Hid (Strs.Own w6 w0.heap.size v3 ys) := Lib.hid (by
                have h9 := Rec.own_mono hown3 hwz
                rw [flat_scs, show [] ++ xs.take m ++ [c] ++ xs.drop m = ins xs m c by simp [ins]] at h9
                rw [HX.out]; exact h9)
              have R2 := Lib.hid (Base.then_below HBQ.out HB6.out)
              have hy0 : 0 < ys.length := by rw [HX.out]; simp [ins]; omega
              clear hown1 hgrow1 HB3 hown2 hgrow2 HB5 hown3 hgrow3 HB6
              obtain ⟨a9, c9, rfl, h9⟩ := Rec.shape_at R1.out
              obtain ⟨g9, rfl, _⟩ := h9 hy0
              clear h9
              go_wp2
              exact ⟨⟨k + 1, g9, c9, by omega, by go_num, by rw [HY.out], by rw [HY.out]; exact R1, R2⟩, by simp [intOf]; omega⟩)
          · have d0 : decide (0 < (m : Int)) = false := by simp; omega
            have hmi : ¬ (0 : Int) < (m : Int) := by omega
            clear hgo c0
            go_wp2
            go_quiet (fail)
            go_wp2
            go_region_held_law (fun u => u.cell? ⟨bl, offl + k, none⟩ = some (.string ⟨c.toArray⟩) ∧ Hid (Below wr.heap.size wr u))
              (first | exact HSD.out _ | (go_split_ands; refine SA.out _ _ ?_ ?_ <;> assumption) | exact SB.out _ HB6 | exact SB.out _ HB5 | exact SB.out _ HB3 | go_keep)
              (first
                | (refine Rec.step_holds scs_len scs_one (v := .slice (some ⟨_, 0, none⟩) 0 0) (by rfl) (.tmp 41) (.tmp 44) 72 9 (by rfl) Tryz.underlying72 hi hz0 hz1 hz2 (by rfl) (by decide) (by rfl) (by rfl) (by first | exact own_nil (by first | exact (HBD.out _).size | exact (ba (HBD.out _) _).size) (by first | rfl | (rw [World.size_alloc]; rfl) | simp) | exact (own_nil (by first | exact (HBD.out _).size | exact (ba (HBD.out _) _).size) (by first | rfl | (rw [World.size_alloc]; rfl) | simp)).alloc _) (HPRE.out _ (by first | exact ba (HBD.out _) _ | exact ba (ba (HBD.out _) _) _)) (by simp only [List.length_take, List.length_nil, List.length_append, List.length_cons, List.length_drop]; unfold maxLen; omega) (by simp only [List.length_take, List.length_nil, List.length_append, List.length_cons, List.length_drop]; omega) (by first | exact (ba (HBD.out _) _).size | exact (ba (ba (HBD.out _) _) _).size) ?_; intro v1 w3 hown1 hgrow1; have HB3 : Hid (Below wr.heap.size wr w3) := Lib.hid (bg (B := wr.heap.size) (by first | exact ba (HBD.out _) _ | exact ba (ba (HBD.out _) _) _) (by first | exact own_nil (by first | exact (HBD.out _).size | exact (ba (HBD.out _) _).size) (by first | rfl | (rw [World.size_alloc]; rfl) | simp) | exact (own_nil (by first | exact (HBD.out _).size | exact (ba (HBD.out _) _).size) (by first | rfl | (rw [World.size_alloc]; rfl) | simp)).alloc _) (Nat.le_refl _) hgrow1))
                | (refine Rec.step_holds scs_len scs_one (by rfl) (.tmp 45) (.tmp 50) 72 9 (by rfl) Tryz.underlying72 hi hz0 hz1 hz2 (by rfl) (by decide) (by rfl) (by rfl) (by first | exact hown1 | exact hown1.alloc _) (m := [c]) (by first | exact one_holds _ _ _ | exact one_first hgrow1 (by first | rfl | (rw [World.size_alloc]; rfl) | simp) | exact one_then hgrow1 (by first | rfl | (rw [World.size_alloc]; rfl) | simp)) (by simp only [List.length_take, List.length_nil, List.length_append, List.length_cons, List.length_drop]; unfold maxLen; omega) (by simp only [List.length_take, List.length_nil, List.length_append, List.length_cons, List.length_drop]; omega) (by first | exact HB3.out.size | exact (ba HB3.out _).size) ?_; intro v2 w5 hown2 hgrow2; have HB5 : Hid (Below wr.heap.size wr w5) := Lib.hid (bg (B := wr.heap.size) (by first | exact HB3.out | exact ba HB3.out _) (by first | exact hown1 | exact hown1.alloc _) (Nat.le_refl _) hgrow2))
                | (refine Rec.step_holds scs_len scs_one (by rfl) (.tmp 51) (.tmp 54) 72 9 (by rfl) Tryz.underlying72 hi hz0 hz1 hz2 (by rfl) (by decide) (by rfl) (by rfl) hown2 (HSUF.out _ HB5.out) (by simp only [List.length_take, List.length_nil, List.length_append, List.length_cons, List.length_drop]; unfold maxLen; omega) (by simp only [List.length_take, List.length_nil, List.length_append, List.length_cons, List.length_drop]; omega) HB5.out.size ?_; intro v3 w6 hown3 hgrow3; have HB6 : Hid (Below wr.heap.size wr w6) := Lib.hid (bg HB5.out hown2 (Nat.le_refl _) hgrow3))
                | fail)
            all_goals (
              have R1 : Hid (Strs.Own w6 w0.heap.size v3 ys) := Lib.hid (by
                have h9 := Rec.own_mono hown3 hwz
                rw [flat_scs, show [] ++ xs.take m ++ [c] ++ xs.drop m = ins xs m c by simp [ins]] at h9
                rw [HX.out]; exact h9)
              have R2 := Lib.hid (Base.then_below HBQ.out HB6.out)
              have hy0 : 0 < ys.length := by rw [HX.out]; simp [ins]; omega
              clear hown1 hgrow1 HB3 hown2 hgrow2 HB5 hown3 hgrow3 HB6
              obtain ⟨a9, c9, rfl, h9⟩ := Rec.shape_at R1.out
              obtain ⟨g9, rfl, _⟩ := h9 hy0
              clear h9
              go_wp2
              exact ⟨⟨k + 1, g9, c9, by omega, by go_num, by rw [HY.out], by rw [HY.out]; exact R1, R2⟩, by simp [intOf]; omega⟩)
end Go.Proofs.YtndbhjgfaghelaaGreatDoor.Nt

/-
  CONTRACT of the model's NormalTarget; nothing that was there before is changed.
-/
namespace Go.Proofs.YtndbhjgfaghelaaGreatDoor.Nt
open Go Go.RowKit
set_option linter.unusedVariables false
set_option maxRecDepth 1000000
set_option maxRecDepth 1000000

theorem pre_byte {l : List UInt8} (h : 0 < (⟨l.toArray⟩ : ByteArray).size) : [47].isPrefixOf l = true ↔ (⟨l.toArray⟩ : ByteArray)[0] = 47 := by
  cases l with
  | nil => exact absurd h (by decide)
  | cons x r =>
    show ((47 : UInt8) == x && true) = true ↔ x = 47
    simp only [Bool.and_true, beq_iff_eq]; exact eq_comm
theorem pre_size {l : List UInt8} (h : ¬ 0 < (⟨l.toArray⟩ : ByteArray).size) : [47].isPrefixOf l = false := by
  cases l with
  | nil => rfl
  | cons x r => rw [bs_len] at h; simp at h
set_option maxHeartbeats 8000000 in
theorem spec_nt (l : List UInt8) (w : World) (hl : l.length ≤ 4194200) :
    Calls Tryz.prog 130 #[.string ⟨l.toArray⟩] w (PairEnd (ntar l) w) := by
  have hc := cut_len 63 l
  have HC := Lib.hid (Tx.spec_tgt l w (by omega))
  have HN : Hid (ntar l = if (normp (Tx.cutAt 63 l).1).2 = true ∧ (normp (Tx.cutAt 63 l).2.1).2 = true ∧ [47].isPrefixOf (normp (Tx.cutAt 63 l).1).1 = true then
    (if query (normp (Tx.cutAt 63 l).2.1).1 = [] then pathd (normp (Tx.cutAt 63 l).1).1 else pathd (normp (Tx.cutAt 63 l).1).1 ++ [63] ++ query (normp (Tx.cutAt 63 l).2.1).1, true)
    else ([], false)) := Lib.hid rfl
  unfold Tx.CutEnd at HC
  unfold PairEnd
  generalize ntar l = res at *
  obtain ⟨r1, r2⟩ := res
  generalize Tx.cutAt 63 l = ct at *
  obtain ⟨p, q, b⟩ := ct
  simp only at *
  have HP := Lib.hid (fun W => spec_plain ⟨p.toArray⟩ W (by rw [bs_len]; omega))
  have HQ := Lib.hid (fun W => spec_plain ⟨q.toArray⟩ W (by rw [bs_len]; omega))
  have hpl := normp_len p
  have hql := normp_len q
  unfold PairEnd at HP HQ
  rw [show (⟨p.toArray⟩ : ByteArray).data.toList = p from rfl] at HP
  rw [show (⟨q.toArray⟩ : ByteArray).data.toList = q from rfl] at HQ
  generalize normp p = np at *
  generalize normp q = nq at *
  obtain ⟨p1, pb⟩ := np
  obtain ⟨q1, qb⟩ := nq
  simp only at *
  have HPD := Lib.hid (fun W (h : 1 ≤ (⟨p1.toArray⟩ : ByteArray).size) => spec_path ⟨p1.toArray⟩ W h (by rw [bs_len]; omega))
  have HSO := Lib.hid (fun W => spec_query ⟨q1.toArray⟩ W (by rw [bs_len]; omega))
  have HB1 := @pre_byte p1
  have HB0 := @pre_size p1
  unfold StrEnd at HPD HSO
  rw [show (⟨p1.toArray⟩ : ByteArray).data.toList = p1 from rfl] at HPD
  rw [show (⟨q1.toArray⟩ : ByteArray).data.toList = q1 from rfl] at HSO
  have hdl := pathd_len p1
  have hul := query_len q1
  have hps := bs_len p1
  generalize pathd p1 = t at *
  generalize query q1 = u at *
  generalize hpre : [47].isPrefixOf p1 = pre at *
  have HTL : Hid (t.length ≤ 4194300) := Lib.hid (by omega)
  have HUL : Hid (u.length ≤ 4194300) := Lib.hid (by omega)
  have hpz : (⟨p1.toArray⟩ : ByteArray).size ≤ 4194304 := by omega
  generalize (⟨p1.toArray⟩ : ByteArray) = P at *
  clear hpre hps hc hpl hql hdl hul hl
  cases pb
  case false =>
    have HE : Hid ((r1, r2) = ([], false)) := Lib.hid (by rw [HN.out]; exact if_neg (fun h => Bool.noConfusion h.1))
    clear HN HB1 HB0
    go_enter Tryz.func130, Tryz.ntmps130
    go_wp2_with (fail)
    go_at_call 180
    refine (HC.out).mono ?_
    rintro e w1 ⟨rfl, hb1⟩
    have HB1w := Lib.hid hb1
    clear hb1
    go_wp2_with (fail)
    go_at_call 181
    refine (HP.out _).mono ?_
    rintro e w2 ⟨rfl, hb2⟩
    have HB2w := Lib.hid (Base.then_below HB1w.out hb2)
    clear hb2
    go_wp2_with (fail)
    go_at_call 181
    refine (HQ.out _).mono ?_
    rintro e w3 ⟨rfl, hb3⟩
    have HB3w := Lib.hid (Base.then_below HB2w.out hb3)
    clear hb3
    go_wp2
    all_goals first | go_region | skip
    all_goals go_wp2
    go_ret2
    all_goals exact ⟨ret_qn HE.out.symm, by first | exact HB3w.out | exact HB3w.out.drew | exact Rec.below_drewN HB3w.out _⟩
  cases qb
  case false =>
    have HE : Hid ((r1, r2) = ([], false)) := Lib.hid (by rw [HN.out]; exact if_neg (fun h => Bool.noConfusion h.2.1))
    clear HN HB1 HB0
    go_enter Tryz.func130, Tryz.ntmps130
    go_wp2_with (fail)
    go_at_call 180
    refine (HC.out).mono ?_
    rintro e w1 ⟨rfl, hb1⟩
    have HB1w := Lib.hid hb1
    clear hb1
    go_wp2_with (fail)
    go_at_call 181
    refine (HP.out _).mono ?_
    rintro e w2 ⟨rfl, hb2⟩
    have HB2w := Lib.hid (Base.then_below HB1w.out hb2)
    clear hb2
    go_wp2_with (fail)
    go_at_call 181
    refine (HQ.out _).mono ?_
    rintro e w3 ⟨rfl, hb3⟩
    have HB3w := Lib.hid (Base.then_below HB2w.out hb3)
    clear hb3
    go_wp2
    all_goals first | go_region | skip
    all_goals go_wp2
    go_ret2
    all_goals exact ⟨ret_qn HE.out.symm, by first | exact HB3w.out | exact HB3w.out.drew | exact Rec.below_drewN HB3w.out _⟩
  by_cases h0 : 0 < P.size
  case neg =>
    have h00 : P.size = 0 := by omega
    have HE : Hid ((r1, r2) = ([], false)) := Lib.hid (by rw [HN.out, HB0 h0]; exact if_neg (fun h => Bool.noConfusion h.2.2))
    have hz : ((P.size : Int) == 0) = true := by rw [h00]; rfl
    clear HN HB1 HB0 h0
    go_enter Tryz.func130, Tryz.ntmps130
    go_wp2_with (fail)
    go_at_call 180
    refine (HC.out).mono ?_
    rintro e w1 ⟨rfl, hb1⟩
    have HB1w := Lib.hid hb1
    clear hb1
    go_wp2_with (fail)
    go_at_call 181
    refine (HP.out _).mono ?_
    rintro e w2 ⟨rfl, hb2⟩
    have HB2w := Lib.hid (Base.then_below HB1w.out hb2)
    clear hb2
    go_wp2_with (fail)
    go_at_call 181
    refine (HQ.out _).mono ?_
    rintro e w3 ⟨rfl, hb3⟩
    have HB3w := Lib.hid (Base.then_below HB2w.out hb3)
    clear hb3
    go_wp2
    all_goals first | go_region | skip
    all_goals go_wp2
    go_ret2
    all_goals exact ⟨ret_qn HE.out.symm, by first | exact HB3w.out | exact HB3w.out.drew | exact Rec.below_drewN HB3w.out _⟩
  have hz : ((P.size : Int) == 0) = false := beq_eq_false_iff_ne.2 (by omega)
  have hi0 : (0 : Int) < (P.size : Int) := by omega
  by_cases hx : P[0] = 47
  case neg =>
    have hx1 := byn' (n := 47) 47 rfl hx
    have hpf : pre = false := by cases pre with | false => rfl | true => exact absurd ((HB1 h0).1 rfl) hx
    have HE : Hid ((r1, r2) = ([], false)) := Lib.hid (by rw [HN.out, hpf]; exact if_neg (fun h => Bool.noConfusion h.2.2))
    clear HN HB1 HB0 hx hpf
    go_enter Tryz.func130, Tryz.ntmps130
    go_wp2_with (fail)
    go_at_call 180
    refine (HC.out).mono ?_
    rintro e w1 ⟨rfl, hb1⟩
    have HB1w := Lib.hid hb1
    clear hb1
    go_wp2_with (fail)
    go_at_call 181
    refine (HP.out _).mono ?_
    rintro e w2 ⟨rfl, hb2⟩
    have HB2w := Lib.hid (Base.then_below HB1w.out hb2)
    clear hb2
    go_wp2_with (fail)
    go_at_call 181
    refine (HQ.out _).mono ?_
    rintro e w3 ⟨rfl, hb3⟩
    have HB3w := Lib.hid (Base.then_below HB2w.out hb3)
    clear hb3
    go_wp2
    all_goals first | go_region | skip
    all_goals go_wp2
    go_ret2
    all_goals exact ⟨ret_qn HE.out.symm, by first | exact HB3w.out | exact HB3w.out.drew | exact Rec.below_drewN HB3w.out _⟩
  have hx1 := bye' (n := 47) 47 rfl hx
  have HE : Hid ((r1, r2) = (if u = [] then t else t ++ [63] ++ u, true)) := Lib.hid (by rw [HN.out]; exact if_pos ⟨rfl, rfl, (HB1 h0).2 hx⟩)
  have a1 := Tx.addtwo t [63] (by have := HTL.out; simp only [List.length_cons, List.length_nil]; omega)
  have a2 := Tx.addtwo (t ++ [63]) u (by have := HTL.out; have := HUL.out; simp only [List.length_append, List.length_cons, List.length_nil]; omega)
  have H1 : Hid (1 ≤ P.size) := Lib.hid h0
  clear HN HB1 HB0 hx
  by_cases hu : u = []
  · subst hu
    rw [if_pos rfl] at HE
    clear a1 a2
    go_enter Tryz.func130, Tryz.ntmps130
    go_wp2_with (fail)
    go_at_call 180
    refine (HC.out).mono ?_
    rintro e w1 ⟨rfl, hb1⟩
    have HB1w := Lib.hid hb1
    clear hb1
    go_wp2_with (fail)
    go_at_call 181
    refine (HP.out _).mono ?_
    rintro e w2 ⟨rfl, hb2⟩
    have HB2w := Lib.hid (Base.then_below HB1w.out hb2)
    clear hb2
    go_wp2_with (fail)
    go_at_call 181
    refine (HQ.out _).mono ?_
    rintro e w3 ⟨rfl, hb3⟩
    have HB3w := Lib.hid (Base.then_below HB2w.out hb3)
    clear hb3
    go_wp2_with (fail)
    go_at_call 182
    refine (HPD.out _ H1.out).mono ?_
    rintro e w4 ⟨rfl, hb4⟩
    have HB4w := Lib.hid (Base.then_below HB3w.out hb4)
    clear hb4
    go_wp2_with (fail)
    go_at_call 183
    refine (HSO.out _).mono ?_
    rintro e w5 ⟨rfl, hb5⟩
    have HB5w := Lib.hid (Base.then_below HB4w.out hb5)
    clear hb5
    go_wp2
    all_goals first | go_region | skip
    all_goals go_wp2
    go_ret2
    all_goals exact ⟨ret_qn HE.out.symm, by first | exact HB5w.out | exact HB5w.out.drew | exact Rec.below_drewN HB5w.out _⟩
  · rw [if_neg hu] at HE
    have hu1 : (u == []) = false := by simpa using hu
    have hu2 : u.isEmpty = false := by
      cases u with
      | nil => exact absurd rfl hu
      | cons x r => rfl
    clear hu
    generalize t ++ [63] = t1 at *
    generalize t1 ++ u = t2 at *
    go_enter Tryz.func130, Tryz.ntmps130
    go_wp2_with (fail)
    go_at_call 180
    refine (HC.out).mono ?_
    rintro e w1 ⟨rfl, hb1⟩
    have HB1w := Lib.hid hb1
    clear hb1
    go_wp2_with (fail)
    go_at_call 181
    refine (HP.out _).mono ?_
    rintro e w2 ⟨rfl, hb2⟩
    have HB2w := Lib.hid (Base.then_below HB1w.out hb2)
    clear hb2
    go_wp2_with (fail)
    go_at_call 181
    refine (HQ.out _).mono ?_
    rintro e w3 ⟨rfl, hb3⟩
    have HB3w := Lib.hid (Base.then_below HB2w.out hb3)
    clear hb3
    go_wp2_with (fail)
    go_at_call 182
    refine (HPD.out _ H1.out).mono ?_
    rintro e w4 ⟨rfl, hb4⟩
    have HB4w := Lib.hid (Base.then_below HB3w.out hb4)
    clear hb4
    go_wp2_with (fail)
    go_at_call 183
    refine (HSO.out _).mono ?_
    rintro e w5 ⟨rfl, hb5⟩
    have HB5w := Lib.hid (Base.then_below HB4w.out hb5)
    clear hb5
    go_wp2
    all_goals first | go_region | skip
    all_goals go_wp2
    go_ret2
    all_goals exact ⟨ret_qn HE.out.symm, by first | exact HB5w.out | exact HB5w.out.drew | exact Rec.below_drewN HB5w.out _⟩
end Go.Proofs.YtndbhjgfaghelaaGreatDoor.Nt

/-
  CONTRACTS of the program's and the model's IsNormalTarget; nothing that was there before is changed.
-/
namespace Go.Proofs.YtndbhjgfaghelaaGreatDoor.Nt
open Go Go.RowKit
set_option linter.unusedVariables false
set_option maxRecDepth 1000000
set_option maxRecDepth 1000000

/-- Whether the target stands in its one way. -/
def isnt (l : List UInt8) : Bool := (ntar l).2 && ((ntar l).1 == l)
set_option maxHeartbeats 2000000 in
theorem spec_isnt (l : List UInt8) (w : World) (hl : l.length ≤ 4194200) :
    Calls Tryz.prog 113 #[.string ⟨l.toArray⟩] w fun e w' => e = .returned (.bool (isnt l)) ∧ Below w.heap.size w w' := by
  have HC := Lib.hid (spec_nt l w hl)
  have HE : Hid (isnt l = ((ntar l).2 && ((ntar l).1 == l))) := Lib.hid rfl
  unfold PairEnd at HC
  generalize isnt l = res at *
  generalize ntar l = np at *
  obtain ⟨r1, r2⟩ := np
  simp only at HC HE
  clear hl
  cases r2
  case false =>
    have HF : Hid (res = false) := Lib.hid (by rw [HE.out]; rfl)
    clear HE
    go_enter Tryz.func113, Tryz.ntmps113
    go_wp2_with (fail)
    go_at_call 130
    refine HC.out.mono ?_
    rintro e w1 ⟨rfl, hb1⟩
    have HB1 := Lib.hid hb1
    clear hb1
    go_wp2
    go_ret
    exact ⟨by rw [HF.out]; first | rfl | (simp; done), HB1.out⟩
  have HF : Hid (res = (r1 == l)) := Lib.hid (by rw [HE.out]; rfl)
  clear HE
  go_enter Tryz.func113, Tryz.ntmps113
  go_wp2_with (fail)
  go_at_call 130
  refine HC.out.mono ?_
  rintro e w1 ⟨rfl, hb1⟩
  have HB1 := Lib.hid hb1
  clear hb1
  go_wp2
  go_ret
  exact ⟨by rw [HF.out]; first | rfl | (simp; done), HB1.out⟩
set_option maxHeartbeats 2000000 in
theorem impl_isnt (l : List UInt8) (w : World) (hl : l.length ≤ 4194200) (he : Par.Errs w) (hm : Sh.MxL w) :
    Calls Tryz.prog 123 #[.string ⟨l.toArray⟩] w fun e w' => e = .returned (.bool (isnt l)) ∧ Below w.heap.size w w' := by
  have HC := Lib.hid (impl_nt l w hl he hm)
  have HE : Hid (isnt l = ((ntar l).2 && ((ntar l).1 == l))) := Lib.hid rfl
  unfold PairEnd at HC
  generalize isnt l = res at *
  generalize ntar l = np at *
  obtain ⟨r1, r2⟩ := np
  simp only at HC HE
  clear he hm hl
  cases r2
  case false =>
    have HF : Hid (res = false) := Lib.hid (by rw [HE.out]; rfl)
    clear HE
    go_enter Tryz.func123, Tryz.ntmps123
    go_wp2_with (fail)
    go_at_call 172
    refine HC.out.mono ?_
    rintro e w1 ⟨rfl, hb1⟩
    have HB1 := Lib.hid hb1
    clear hb1
    go_wp2
    go_ret
    exact ⟨by rw [HF.out]; first | rfl | (simp; done), HB1.out⟩
  have HF : Hid (res = (r1 == l)) := Lib.hid (by rw [HE.out]; rfl)
  clear HE
  go_enter Tryz.func123, Tryz.ntmps123
  go_wp2_with (fail)
  go_at_call 172
  refine HC.out.mono ?_
  rintro e w1 ⟨rfl, hb1⟩
  have HB1 := Lib.hid hb1
  clear hb1
  go_wp2
  go_ret
  exact ⟨by rw [HF.out]; first | rfl | (simp; done), HB1.out⟩
end Go.Proofs.YtndbhjgfaghelaaGreatDoor.Nt
