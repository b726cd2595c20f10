/-
  CONTRACTS AND PLAIN FACTS, several texts in one; each says in its own words what it proves.
-/
import Derived.Test.YtndbhjgfaghelaaGreatDoorPartJ
import Derived.Test.YtndbhjgfaghelaaGreatDoorPartH
import Derived.ScopeJumps
import Derived.WalkMore
set_option linter.unusedSimpArgs false
set_option linter.unusedVariables false

/-
  CONTRACT of the program's dropDots (a loop by a jump); nothing that was there before is changed.
-/
namespace Go.Proofs.YtndbhjgfaghelaaGreatDoor.Nt
open Go Go.RowKit
set_option linter.unusedVariables false
set_option maxRecDepth 1000000
set_option maxRecDepth 1000000

/-- strings.Join at a separator of one byte. -/
theorem lib_join1 (s : UInt8) (v : Value) (B : Nat) (xs : List (List UInt8)) (w : World) (h : Strs.Holds w B v xs) (hl : xs.length ≤ 67108864) (hn : (Lib.join xs [s]).length ≤ 67108864) :
    Calls Tryz.prog 82 #[v, .string ⟨#[s]⟩] w fun e w' => e = .returned (.string ⟨(Lib.join xs [s]).toArray⟩) ∧ Below w.heap.size w w' := by
  rcases h with ⟨rfl, a, cap, rfl⟩ | ⟨h0, b, off, cap, rfl, _, hcap, hc⟩
  · refine (Tryz.strings_Join_none a cap ⟨#[s]⟩ w).mono ?_
    rintro e w' ⟨rfl, rfl⟩
    exact ⟨rfl, Below.refl _ _⟩
  · have hm : (xs.map (fun x => (⟨x.toArray⟩ : ByteArray))).map (·.data.toList) = xs := by rw [List.map_map]; exact List.map_id'' (fun _ => rfl) xs
    have c := Tryz.strings_Join b off cap (xs.map (fun x => (⟨x.toArray⟩ : ByteArray))) ⟨#[s]⟩ w (fun j x hj => by
      rw [List.getElem?_map] at hj
      have hjl : j < xs.length := by
        rcases Nat.lt_or_ge j xs.length with h' | h'
        · exact h'
        · rw [List.getElem?_eq_none h'] at hj; cases hj
      rw [hc j hjl]
      rw [List.getElem?_eq_getElem hjl] at hj
      simp at hj; subst hj
      simp [List.getD, hjl, Strs.sv]) (Strs.at_lt hc h0) (by simp; omega) (by simpa using hcap) (by rw [hm]; exact Nat.le_trans hn (by decide))
    rw [hm, List.length_map] at c
    exact c
theorem slash_join : ∀ xs : List (List UInt8), xs ≠ [] → slash xs = 47 :: Lib.join xs [47]
  | [], h => absurd rfl h
  | [x], _ => by unfold slash; simp [Lib.join]
  | x :: y :: r, _ => by
    have ih := slash_join (y :: r) (by simp)
    have e : slash (x :: y :: r) = 47 :: x ++ slash (y :: r) := by unfold slash; simp
    rw [e, ih]
    have : Lib.join (x :: y :: r) [47] = x ++ [47] ++ Lib.join (y :: r) [47] := by first | rfl | simp [Lib.join]
    rw [this]; simp
theorem kf_snoc (d : List (List UInt8)) (p : List UInt8) : kf (d ++ [p]) = kstep (kf d) p := by unfold kf; rw [List.foldl_append]; rfl
theorem fin_snoc (d : List (List UInt8)) (p : List UInt8) : fin (d ++ [p]) = if isdot p = true then kstep (kf d) p ++ [[]] else kstep (kf d) p := by
  unfold fin; rw [kf_snoc]; simp [List.getD]
theorem fin_ne (d : List (List UInt8)) (p : List UInt8) : fin (d ++ [p]) ≠ [] := by
  rw [fin_snoc]; split
  · simp
  · rename_i h
    have h1 : p ≠ [46] := fun e => h (by rw [e]; rfl)
    have h2 : p ≠ [46, 46] := fun e => h (by rw [e]; rfl)
    rw [kstep_other h1 h2]; simp
/-- What has been read (d) and what is left (r). -/
def DQ (l d : List (List UInt8)) (r : List UInt8) : Prop := l = d ++ Spc.spl 47 r
theorem spl_cut (c : UInt8) : ∀ r : List UInt8, Spc.spl c r = if Tx.idx c r < r.length then r.take (Tx.idx c r) :: Spc.spl c (r.drop (Tx.idx c r + 1)) else [r]
  | [] => by simp [Spc.spl]
  | x :: r => by
    by_cases h : x = c
    · rw [Spc.spl_hit r h]
      have : Tx.idx c (x :: r) = 0 := by unfold Tx.idx; rw [if_pos (by simp [h])]
      rw [this]; simp
    · rw [Spc.spl_miss r h, spl_cut c r]
      have : Tx.idx c (x :: r) = Tx.idx c r + 1 := by conv => lhs; unfold Tx.idx; rw [if_neg (by simp [h])]
      rw [this]
      by_cases hi : Tx.idx c r < r.length
      · rw [if_pos hi, if_pos (by simp; omega)]; simp [Tx.push]
      · rw [if_neg hi, if_neg (by simp; omega)]; simp [Tx.push]
theorem spl_more {r : List UInt8} (h : (Tx.cutAt 47 r).2.2 = true) : Spc.spl 47 r = (Tx.cutAt 47 r).1 :: Spc.spl 47 (Tx.cutAt 47 r).2.1 ∧ (Tx.cutAt 47 r).2.1.length < r.length := by
  rw [spl_cut]; unfold Tx.cutAt at h ⊢
  by_cases hi : Tx.idx 47 r < r.length
  · rw [if_pos hi, if_pos hi]; exact ⟨rfl, by simp; omega⟩
  · rw [if_neg hi] at h; cases h
theorem spl_last {r : List UInt8} (h : (Tx.cutAt 47 r).2.2 = false) : Spc.spl 47 r = [(Tx.cutAt 47 r).1] := by
  rw [spl_cut]; unfold Tx.cutAt at h ⊢
  by_cases hi : Tx.idx 47 r < r.length
  · rw [if_pos hi] at h; cases h
  · rw [if_neg hi, if_neg hi]
theorem dq_more {l d : List (List UInt8)} {r : List UInt8} (h : DQ l d r) (hm : (Tx.cutAt 47 r).2.2 = true) : DQ l (d ++ [(Tx.cutAt 47 r).1]) (Tx.cutAt 47 r).2.1 := by
  unfold DQ at h ⊢; rw [h, (spl_more hm).1]; simp
theorem dq_last {l d : List (List UInt8)} {r : List UInt8} (h : DQ l d r) (hm : (Tx.cutAt 47 r).2.2 = false) : l = d ++ [(Tx.cutAt 47 r).1] := by unfold DQ at h; rw [h, spl_last hm]
def lenOf2 : Value → Nat | .string s => s.size | _ => 0
def JD (w : World) (l : List (List UInt8)) (n : Nat) (a' : Act) (w' : World) : Prop := ∃ (sp : ByteArray) (d : List (List UInt8)) (v3 u0 u1 u2 u5 u6 u7 u8 u9 u10 u11 u12 u13 u14 u15 u16 u17 u18 u19 u20 u21 u22 u23 u24 u25 u26 u27 u28 u29 u30 u31 u32 u33 u34 u35 u36 u37 u38 u39 u40 u41 u42 u43 u44 u45 : Value), a' = { tmps := #[u0, u1, u2, v3, .string sp, u5, u6, u7, u8, u9, u10, u11, u12, u13, u14, u15, u16, u17, u18, u19, u20, u21, u22, u23, u24, u25, u26, u27, u28, u29, u30, u31, u32, u33, u34, u35, u36, u37, u38, u39, u40, u41, u42, u43, u44, u45], defers := [] } ∧ DQ l d sp.data.toList ∧ sp.size ≤ n ∧ Strs.Own w' w.heap.size v3 (kf d) ∧ Below w.heap.size w w'
/-- An own row that is empty or has a last one. -/
theorem own_none {w : World} {B : Nat} {v : Value} (h : Strs.Own w B v []) : v = .slice none 0 0 ∨ ∃ g cap, v = .slice (some ⟨g, 0, none⟩) 0 cap := by
  rcases h.2 with ⟨rfl, _⟩ | ⟨g, cap, cur, rfl, _⟩
  · exact Or.inl rfl
  · exact Or.inr ⟨g, cap, rfl⟩

set_option maxHeartbeats 16000000 in
theorem dots_call (s : ByteArray) (w : World) (h1 : 1 ≤ s.size) (hs : s.size ≤ 4194300) :
    Calls Tryz.prog 230 #[.string s] w (StrEnd (pathd s.data.toList) w) := by
  obtain ⟨i0, hi, hz0, hz1, hz2⟩ := info_parts Strs.info_str
  have HOI := Lib.hid (Strs.own_lit_nil w)
  have het := ext_tail1 s 1 h1
  have hpl := pathd_len s.data.toList
  rw [Tx.list_len] at hpl
  have HPD : Hid (pathd s.data.toList = slash (fin (Spc.spl 47 (s.data.toList.drop 1)))) := Lib.hid rfl
  have hcl := Spc.spl_len 47 (s.data.toList.drop 1)
  rw [List.length_drop, Tx.list_len] at hcl
  have HDQ : Hid (DQ (Spc.spl 47 (s.data.toList.drop 1)) [] (s.extract 1 s.size).data.toList) := Lib.hid (by unfold DQ; rw [het.1]; rfl)
  unfold StrEnd
  generalize pathd s.data.toList = pd at *
  generalize Spc.spl 47 (s.data.toList.drop 1) = l at *
  have h1i : 1 ≤ (s.size : Int) := by omega
  have HLL : Hid (l.length ≤ 4194304) := Lib.hid (by omega)
  have HPL : Hid (pd.length ≤ 4194304) := Lib.hid (by omega)
  have HSZ : Hid ((s.extract 1 s.size).size ≤ 4194304) := Lib.hid (by rw [het.2]; omega)
  have HKF : Hid (∀ d r, DQ l d r → (kf d).length ≤ 4194304 ∧ d.length ≤ 4194304) := Lib.hid (fun d r h => by
    have e := HLL.out
    unfold DQ at h
    have hd : d.length ≤ l.length := by rw [h, List.length_append]; omega
    have := kf_len d d.length (Nat.le_refl _)
    rw [List.take_of_length_le (Nat.le_refl _)] at this
    exact ⟨by omega, by omega⟩)
  clear hcl het hpl h1 hs
  go_enter Tryz.func230, Tryz.ntmps230
  go_wp2
  refine wp_scope_jumps 0 (JD w l 4194304) (fun a' _ => lenOf2 (a'.tmps.getD 4 undef)) rfl ?_ ?_
  · go_wp2
    go_step3
    have HB := Lib.hid ((Below.refl w.heap.size w).alloc (Nat.le_refl _) (.cells #[] 9))
    have HR := HDQ
    have HO : Hid (Strs.Own (w.alloc (.cells #[] 9)) w.heap.size (.slice (some ⟨w.heap.size, 0, none⟩) 0 0) (kf [])) := HOI
    generalize ([] : List (List UInt8)) = d at HR HO
    generalize Value.slice (some ⟨w.heap.size, 0, none⟩) 0 0 = v3 at HO ⊢
    generalize w.alloc (.cells #[] 9) = wr at HO HB ⊢
    generalize s.extract 1 s.size = sp at HR HSZ ⊢
    clear HOI HDQ
    have hbs := HB.out.size
    have HKL : Hid ((kf d).length ≤ 4194304) := Lib.hid (HKF.out d _ HR.out).1
    have HCT := Lib.hid (Tx.cut_any sp 47 wr (by have := HSZ.out; omega))
    unfold Tx.CutEnd at HCT
    have HM := Lib.hid (fun h => dq_more HR.out h)
    have HLt := Lib.hid (fun h => (spl_more (r := sp.data.toList) h).2)
    have HL1 := Lib.hid (fun h => dq_last HR.out h)
    obtain ⟨⟨p, q, m⟩, hpq⟩ : ∃ x, x = Tx.cutAt 47 sp.data.toList := ⟨_, rfl⟩
    rw [← hpq] at HCT HM HLt HL1
    rw [Tx.list_len] at HLt
    simp only at HCT HM HLt HL1
    clear hpq
    have hsvl : (Strs.svs (kf d)).length = (kf d).length := Strs.svs_len _
    have HSN := Lib.hid (kf_snoc d p)
    have HFN := Lib.hid (fin_snoc d p)
    have HFE := Lib.hid (fin_ne d p)
    generalize kf d = ks at HO HKL HSN HFN hsvl
    cases m with
    | true =>
      have HQ := Lib.hid (HM.out rfl)
      have HS1 : Hid ((⟨q.toArray⟩ : ByteArray).size < sp.size) := Lib.hid (by have h9 := HLt.out rfl; show q.toArray.size < _; rw [List.size_toArray]; exact h9)
      have HS2 : Hid ((⟨q.toArray⟩ : ByteArray).size ≤ 4194304) := Lib.hid (by have := HSZ.out; have := HS1.out; omega)
      clear HM HLt HL1 HFE
      by_cases e2 : p = [46, 46]
      · subst e2
        rcases List.eq_nil_or_concat ks with rfl | ⟨ls, x, rfl⟩
        · rw [kstep_two, show ([] : List (List UInt8)).dropLast = [] from rfl] at HSN HFN
          clear HFN
          have hze : (([] : List (List UInt8)).length : Int) = 0 := rfl
          go_wp2_with (fail)
          go_at_call 155
          refine HCT.out.mono ?_
          rintro e w0 ⟨rfl, hb0⟩
          have HO0 := Lib.hid (Rec.row_below HO.out hb0)
          have HB0 := Lib.hid (Base.then_below HB.out hb0)
          have hbs0 := HB0.out.size
          clear hb0
          rcases own_none HO0.out with rfl | ⟨g, cpu, rfl⟩
          · skip
            go_wp2_with (first | (go_at_call 19; refine (Mm.impl_max _ _ _).mono ?_; rintro e w' ⟨rfl, rfl⟩))
            go_step3
            exact ⟨rfl, _, _, _, _, _, _, _, _, _, _, _, _, _, _, _, _, _, _, _, _, _, _, _, _, _, _, _, _, _, _, _, _, _, _, _, _, _, _, _, _, _, _, _, _, _, _, _, rfl, HQ.out, HS2.out, by rw [HSN.out]; exact HO0.out, HB0.out⟩
          · skip
            go_wp2_with (first | (go_at_call 19; refine (Mm.impl_max _ _ _).mono ?_; rintro e w' ⟨rfl, rfl⟩))
            go_step3
            exact ⟨rfl, _, _, _, _, _, _, _, _, _, _, _, _, _, _, _, _, _, _, _, _, _, _, _, _, _, _, _, _, _, _, _, _, _, _, _, _, _, _, _, _, _, _, _, _, _, _, _, rfl, HQ.out, HS2.out, by rw [HSN.out]; exact HO0.out, HB0.out⟩
        · rw [List.concat_eq_append] at HO HKL HSN HFN hsvl
          rw [kstep_two, List.dropLast_concat] at HSN HFN
          have hlsl : ls.length ≤ 4194304 := by have h9 := HKL.out; rw [List.length_append] at h9; simp only [List.length_cons, List.length_nil] at h9; omega
          clear HFN
          go_wp2_with (fail)
          go_at_call 155
          refine HCT.out.mono ?_
          rintro e w0 ⟨rfl, hb0⟩
          have HO0 := Lib.hid (Rec.row_below HO.out hb0)
          have HB0 := Lib.hid (Base.then_below HB.out hb0)
          have hbs0 := HB0.out.size
          clear hb0
          obtain ⟨g, cpu, rfl, hcu, hop⟩ := pop_own HO0.out
          have HOP := Lib.hid hop
          clear hop
          have hcu' : (ls.length : Int) ≤ (cpu : Int) := by omega
          have hmx : max (0 : Int) (ls.length : Int) = (ls.length : Int) := by omega
          have hsvs : (Strs.svs ls).length = ls.length := Strs.svs_len _
          go_wp2_with (first | (go_at_call 19; refine (Mm.impl_max _ _ _).mono ?_; rintro e w' ⟨rfl, rfl⟩; rw [hmx]))
          go_step3
          exact ⟨rfl, _, _, _, _, _, _, _, _, _, _, _, _, _, _, _, _, _, _, _, _, _, _, _, _, _, _, _, _, _, _, _, _, _, _, _, _, _, _, _, _, _, _, _, _, _, _, _, rfl, HQ.out, HS2.out, by rw [HSN.out]; exact HOP.out, HB0.out⟩
      by_cases e1 : p = [46]
      · subst e1
        rw [kstep_dot] at HSN HFN
        clear HFN e2
        go_wp2_with (fail)
        go_at_call 155
        refine HCT.out.mono ?_
        rintro e w0 ⟨rfl, hb0⟩
        have HO0 := Lib.hid (Rec.row_below HO.out hb0)
        have HB0 := Lib.hid (Base.then_below HB.out hb0)
        have hbs0 := HB0.out.size
        clear hb0
        go_wp2
        go_step3
        exact ⟨rfl, _, _, _, _, _, _, _, _, _, _, _, _, _, _, _, _, _, _, _, _, _, _, _, _, _, _, _, _, _, _, _, _, _, _, _, _, _, _, _, _, _, _, _, _, _, _, _, rfl, HQ.out, HS2.out, by rw [HSN.out]; exact HO0.out, HB0.out⟩
      rw [kstep_other e1 e2] at HSN HFN
      clear HFN
      have t1 : (p == [46]) = false := by simpa using e1
      have t2 : (p == [46, 46]) = false := by simpa using e2
      clear e1 e2
      go_wp2_with (fail)
      go_at_call 155
      refine HCT.out.mono ?_
      rintro e w0 ⟨rfl, hb0⟩
      have HO0 := Lib.hid (Rec.row_below HO.out hb0)
      have HB0 := Lib.hid (Base.then_below HB.out hb0)
      have hbs0 := HB0.out.size
      clear hb0
      go_wp2_with (first | (at_builtin; refine wpList_append_own _ rfl (.tmp 18) (.tmp 20) 72 rfl w.heap.size 9 i0 (.string ⟨#[]⟩) 1 16 Tryz.underlying72 hi hz0 hz1 hz2 rfl (by decide) _ _ _ rfl (HO0.out.alloc _) ⟨w0.heap.size, 0, none⟩ 1 1 [.string ⟨p.toArray⟩] rfl rfl (Strs.news_one _ _ _) (by intro u hu; simp at hu; subst hu; rfl) (by have h9 := HKL.out; unfold maxLen; omega) (by have h9 := HKL.out; omega) (by rw [World.size_alloc]; omega) ?_; intro v1 w1 hown1 hg1 _; have R := Lib.hid (Strs.push_own (x := p) HO0.out HB0.out (Nat.le_refl _) hown1 hg1); clear hown1 hg1))
      go_step3
      exact ⟨rfl, _, _, _, _, _, _, _, _, _, _, _, _, _, _, _, _, _, _, _, _, _, _, _, _, _, _, _, _, _, _, _, _, _, _, _, _, _, _, _, _, _, _, _, _, _, _, _, rfl, HQ.out, HS2.out, by rw [HSN.out]; exact R.out.1, R.out.2⟩
    | false =>
      have HPE : Hid (pd = 47 :: Lib.join (fin (d ++ [p])) [47]) := Lib.hid (by rw [HPD.out, HL1.out rfl, slash_join _ HFE.out])
      have HJL : Hid ((Lib.join (fin (d ++ [p])) [47]).length ≤ 4194304) := Lib.hid (by have h9 := HPL.out; rw [HPE.out, List.length_cons] at h9; omega)
      have HFL : Hid ((fin (d ++ [p])).length ≤ 4194306) := Lib.hid (by have h9 := fin_len (d ++ [p]); rw [← HL1.out rfl] at h9; have := HLL.out; rw [← HL1.out rfl]; omega)
      clear HM HLt HL1 HFE
      by_cases e2 : p = [46, 46]
      · subst e2
        rcases List.eq_nil_or_concat ks with rfl | ⟨ls, x, rfl⟩
        · rw [kstep_two, show ([] : List (List UInt8)).dropLast = [] from rfl] at HSN HFN
          rw [if_pos (by rfl)] at HFN
          rw [HFN.out] at HPE HJL HFL
          clear HFN HSN
          have hze : (([] : List (List UInt8)).length : Int) = 0 := rfl
          go_wp2_with (fail)
          go_at_call 155
          refine HCT.out.mono ?_
          rintro e w0 ⟨rfl, hb0⟩
          have HO0 := Lib.hid (Rec.row_below HO.out hb0)
          have HB0 := Lib.hid (Base.then_below HB.out hb0)
          have hbs0 := HB0.out.size
          clear hb0
          rcases own_none HO0.out with rfl | ⟨g, cpu, rfl⟩
          · skip
            have hadd := Tx.addtwo [47] (Lib.join ([] ++ [[]]) [47]) (by have h9 := HJL.out; simp only [List.length_cons, List.length_nil]; omega)
            go_wp2_with (first | (go_at_call 19; refine (Mm.impl_max _ _ _).mono ?_; rintro e w' ⟨rfl, rfl⟩) | (at_builtin; refine wpList_append_own _ rfl (.tmp 40) (.tmp 41) 72 rfl w.heap.size 9 i0 (.string ⟨#[]⟩) 1 16 Tryz.underlying72 hi hz0 hz1 hz2 rfl (by decide) _ _ _ rfl (HO0.out.alloc _) ⟨w0.heap.size, 0, none⟩ 1 1 [.string ⟨#[]⟩] rfl rfl (Strs.news_one _ _ _) (by intro u hu; simp at hu; subst hu; rfl) (by have h9 := HKL.out; unfold maxLen; omega) (by have h9 := HKL.out; omega) (by rw [World.size_alloc]; omega) ?_; intro v1 w1 hown1 hg1 _; have R := Lib.hid (Strs.push_own (x := []) HO0.out HB0.out (Nat.le_refl _) hown1 hg1); clear hown1 hg1; have HJ := Lib.hid (lib_join1 47 _ _ (([] : List (List UInt8)) ++ [[]]) w1 (Strs.own_holds R.out.1) (by have h9 := HFL.out; omega) (by have h9 := HJL.out; omega))) | (go_at_call 82; refine HJ.out.mono ?_; rintro e w2 ⟨rfl, hb2⟩; have HB2 := Lib.hid (Base.then_below R.out.2 hb2); clear hb2))
            all_goals simp only [Exit.jump]
            all_goals (try rw [Exit.noGoto_ret])
            go_ret
            exact ⟨ret_s (by rw [HPE.out] <;> rfl), HB2.out⟩
          · skip
            have hadd := Tx.addtwo [47] (Lib.join ([] ++ [[]]) [47]) (by have h9 := HJL.out; simp only [List.length_cons, List.length_nil]; omega)
            go_wp2_with (first | (go_at_call 19; refine (Mm.impl_max _ _ _).mono ?_; rintro e w' ⟨rfl, rfl⟩) | (at_builtin; refine wpList_append_own _ rfl (.tmp 40) (.tmp 41) 72 rfl w.heap.size 9 i0 (.string ⟨#[]⟩) 1 16 Tryz.underlying72 hi hz0 hz1 hz2 rfl (by decide) _ _ _ rfl (HO0.out.alloc _) ⟨w0.heap.size, 0, none⟩ 1 1 [.string ⟨#[]⟩] rfl rfl (Strs.news_one _ _ _) (by intro u hu; simp at hu; subst hu; rfl) (by have h9 := HKL.out; unfold maxLen; omega) (by have h9 := HKL.out; omega) (by rw [World.size_alloc]; omega) ?_; intro v1 w1 hown1 hg1 _; have R := Lib.hid (Strs.push_own (x := []) HO0.out HB0.out (Nat.le_refl _) hown1 hg1); clear hown1 hg1; have HJ := Lib.hid (lib_join1 47 _ _ (([] : List (List UInt8)) ++ [[]]) w1 (Strs.own_holds R.out.1) (by have h9 := HFL.out; omega) (by have h9 := HJL.out; omega))) | (go_at_call 82; refine HJ.out.mono ?_; rintro e w2 ⟨rfl, hb2⟩; have HB2 := Lib.hid (Base.then_below R.out.2 hb2); clear hb2))
            all_goals simp only [Exit.jump]
            all_goals (try rw [Exit.noGoto_ret])
            go_ret
            exact ⟨ret_s (by rw [HPE.out] <;> rfl), HB2.out⟩
        · rw [List.concat_eq_append] at HO HKL HSN HFN hsvl
          rw [kstep_two, List.dropLast_concat] at HSN HFN
          have hlsl : ls.length ≤ 4194304 := by have h9 := HKL.out; rw [List.length_append] at h9; simp only [List.length_cons, List.length_nil] at h9; omega
          rw [if_pos (by rfl)] at HFN
          rw [HFN.out] at HPE HJL HFL
          clear HFN HSN
          go_wp2_with (fail)
          go_at_call 155
          refine HCT.out.mono ?_
          rintro e w0 ⟨rfl, hb0⟩
          have HO0 := Lib.hid (Rec.row_below HO.out hb0)
          have HB0 := Lib.hid (Base.then_below HB.out hb0)
          have hbs0 := HB0.out.size
          clear hb0
          obtain ⟨g, cpu, rfl, hcu, hop⟩ := pop_own HO0.out
          have HOP := Lib.hid hop
          clear hop
          have hcu' : (ls.length : Int) ≤ (cpu : Int) := by omega
          have hmx : max (0 : Int) (ls.length : Int) = (ls.length : Int) := by omega
          have hsvs : (Strs.svs ls).length = ls.length := Strs.svs_len _
          have hadd := Tx.addtwo [47] (Lib.join (ls ++ [[]]) [47]) (by have h9 := HJL.out; simp only [List.length_cons, List.length_nil]; omega)
          go_wp2_with (first | (go_at_call 19; refine (Mm.impl_max _ _ _).mono ?_; rintro e w' ⟨rfl, rfl⟩; rw [hmx]) | (at_builtin; refine wpList_append_own _ rfl (.tmp 40) (.tmp 41) 72 rfl w.heap.size 9 i0 (.string ⟨#[]⟩) 1 16 Tryz.underlying72 hi hz0 hz1 hz2 rfl (by decide) _ _ _ rfl (HOP.out.alloc _) ⟨w0.heap.size, 0, none⟩ 1 1 [.string ⟨#[]⟩] rfl rfl (Strs.news_one _ _ _) (by intro u hu; simp at hu; subst hu; rfl) (by have h9 := HKL.out; unfold maxLen; omega) (by have h9 := HKL.out; omega) (by rw [World.size_alloc]; omega) ?_; intro v1 w1 hown1 hg1 _; have R := Lib.hid (Strs.push_own (x := []) HOP.out HB0.out (Nat.le_refl _) hown1 hg1); clear hown1 hg1; have HJ := Lib.hid (lib_join1 47 _ _ (ls ++ [[]]) w1 (Strs.own_holds R.out.1) (by have h9 := HFL.out; omega) (by have h9 := HJL.out; omega))) | (go_at_call 82; refine HJ.out.mono ?_; rintro e w2 ⟨rfl, hb2⟩; have HB2 := Lib.hid (Base.then_below R.out.2 hb2); clear hb2))
          all_goals simp only [Exit.jump]
          all_goals (try rw [Exit.noGoto_ret])
          go_ret
          exact ⟨ret_s (by rw [HPE.out] <;> rfl), HB2.out⟩
      by_cases e1 : p = [46]
      · subst e1
        rw [kstep_dot] at HSN HFN
        rw [if_pos (by rfl)] at HFN
        rw [HFN.out] at HPE HJL HFL
        clear HFN HSN e2
        go_wp2_with (fail)
        go_at_call 155
        refine HCT.out.mono ?_
        rintro e w0 ⟨rfl, hb0⟩
        have HO0 := Lib.hid (Rec.row_below HO.out hb0)
        have HB0 := Lib.hid (Base.then_below HB.out hb0)
        have hbs0 := HB0.out.size
        clear hb0
        have hadd := Tx.addtwo [47] (Lib.join (ks ++ [[]]) [47]) (by have h9 := HJL.out; simp only [List.length_cons, List.length_nil]; omega)
        go_wp2_with (first | (at_builtin; refine wpList_append_own _ rfl (.tmp 40) (.tmp 41) 72 rfl w.heap.size 9 i0 (.string ⟨#[]⟩) 1 16 Tryz.underlying72 hi hz0 hz1 hz2 rfl (by decide) _ _ _ rfl (HO0.out.alloc _) ⟨w0.heap.size, 0, none⟩ 1 1 [.string ⟨#[]⟩] rfl rfl (Strs.news_one _ _ _) (by intro u hu; simp at hu; subst hu; rfl) (by have h9 := HKL.out; unfold maxLen; omega) (by have h9 := HKL.out; omega) (by rw [World.size_alloc]; omega) ?_; intro v1 w1 hown1 hg1 _; have R := Lib.hid (Strs.push_own (x := []) HO0.out HB0.out (Nat.le_refl _) hown1 hg1); clear hown1 hg1; have HJ := Lib.hid (lib_join1 47 _ _ (ks ++ [[]]) w1 (Strs.own_holds R.out.1) (by have h9 := HFL.out; omega) (by have h9 := HJL.out; omega))) | (go_at_call 82; refine HJ.out.mono ?_; rintro e w2 ⟨rfl, hb2⟩; have HB2 := Lib.hid (Base.then_below R.out.2 hb2); clear hb2))
        all_goals simp only [Exit.jump]
        all_goals (try rw [Exit.noGoto_ret])
        go_ret
        exact ⟨ret_s (by rw [HPE.out] <;> rfl), HB2.out⟩
      rw [kstep_other e1 e2] at HSN HFN
      rw [if_neg (by rw [isdot_no e1 e2]; decide)] at HFN
      rw [HFN.out] at HPE HJL HFL
      clear HFN HSN
      have t1 : (p == [46]) = false := by simpa using e1
      have t2 : (p == [46, 46]) = false := by simpa using e2
      clear e1 e2
      go_wp2_with (fail)
      go_at_call 155
      refine HCT.out.mono ?_
      rintro e w0 ⟨rfl, hb0⟩
      have HO0 := Lib.hid (Rec.row_below HO.out hb0)
      have HB0 := Lib.hid (Base.then_below HB.out hb0)
      have hbs0 := HB0.out.size
      clear hb0
      have hadd := Tx.addtwo [47] (Lib.join (ks ++ [p]) [47]) (by have h9 := HJL.out; simp only [List.length_cons, List.length_nil]; omega)
      go_wp2_with (first | (at_builtin; refine wpList_append_own _ rfl (.tmp 18) (.tmp 20) 72 rfl w.heap.size 9 i0 (.string ⟨#[]⟩) 1 16 Tryz.underlying72 hi hz0 hz1 hz2 rfl (by decide) _ _ _ rfl (HO0.out.alloc _) ⟨w0.heap.size, 0, none⟩ 1 1 [.string ⟨p.toArray⟩] rfl rfl (Strs.news_one _ _ _) (by intro u hu; simp at hu; subst hu; rfl) (by have h9 := HKL.out; unfold maxLen; omega) (by have h9 := HKL.out; omega) (by rw [World.size_alloc]; omega) ?_; intro v1 w1 hown1 hg1 _; have R := Lib.hid (Strs.push_own (x := p) HO0.out HB0.out (Nat.le_refl _) hown1 hg1); clear hown1 hg1; have HJ := Lib.hid (lib_join1 47 _ _ (ks ++ [p]) w1 (Strs.own_holds R.out.1) (by have h9 := HFL.out; omega) (by have h9 := HJL.out; omega))) | (go_at_call 82; refine HJ.out.mono ?_; rintro e w2 ⟨rfl, hb2⟩; have HB2 := Lib.hid (Base.then_below R.out.2 hb2); clear hb2))
      all_goals simp only [Exit.jump]
      all_goals (try rw [Exit.noGoto_ret])
      go_ret
      exact ⟨ret_s (by rw [HPE.out] <;> rfl), HB2.out⟩
  · rintro a' wr ⟨sp, d, v3, u0, u1, u2, u5, u6, u7, u8, u9, u10, u11, u12, u13, u14, u15, u16, u17, u18, u19, u20, u21, u22, u23, u24, u25, u26, u27, u28, u29, u30, u31, u32, u33, u34, u35, u36, u37, u38, u39, u40, u41, u42, u43, u44, u45, rfl, hdq, hsz, hown, hb⟩
    have HR := Lib.hid hdq
    have HB := Lib.hid hb
    have HO := Lib.hid hown
    have HSZ := Lib.hid hsz
    clear HOI HDQ hdq hown hb hsz
    have hbs := HB.out.size
    have HKL : Hid ((kf d).length ≤ 4194304) := Lib.hid (HKF.out d _ HR.out).1
    have HCT := Lib.hid (Tx.cut_any sp 47 wr (by have := HSZ.out; omega))
    unfold Tx.CutEnd at HCT
    have HM := Lib.hid (fun h => dq_more HR.out h)
    have HLt := Lib.hid (fun h => (spl_more (r := sp.data.toList) h).2)
    have HL1 := Lib.hid (fun h => dq_last HR.out h)
    obtain ⟨⟨p, q, m⟩, hpq⟩ : ∃ x, x = Tx.cutAt 47 sp.data.toList := ⟨_, rfl⟩
    rw [← hpq] at HCT HM HLt HL1
    rw [Tx.list_len] at HLt
    simp only at HCT HM HLt HL1
    clear hpq
    have hsvl : (Strs.svs (kf d)).length = (kf d).length := Strs.svs_len _
    have HSN := Lib.hid (kf_snoc d p)
    have HFN := Lib.hid (fin_snoc d p)
    have HFE := Lib.hid (fin_ne d p)
    generalize kf d = ks at HO HKL HSN HFN hsvl
    cases m with
    | true =>
      have HQ := Lib.hid (HM.out rfl)
      have HS1 : Hid ((⟨q.toArray⟩ : ByteArray).size < sp.size) := Lib.hid (by have h9 := HLt.out rfl; show q.toArray.size < _; rw [List.size_toArray]; exact h9)
      have HS2 : Hid ((⟨q.toArray⟩ : ByteArray).size ≤ 4194304) := Lib.hid (by have := HSZ.out; have := HS1.out; omega)
      clear HM HLt HL1 HFE
      by_cases e2 : p = [46, 46]
      · subst e2
        rcases List.eq_nil_or_concat ks with rfl | ⟨ls, x, rfl⟩
        · rw [kstep_two, show ([] : List (List UInt8)).dropLast = [] from rfl] at HSN HFN
          clear HFN
          have hze : (([] : List (List UInt8)).length : Int) = 0 := rfl
          go_wp2_with (fail)
          go_at_call 155
          refine HCT.out.mono ?_
          rintro e w0 ⟨rfl, hb0⟩
          have HO0 := Lib.hid (Rec.row_below HO.out hb0)
          have HB0 := Lib.hid (Base.then_below HB.out hb0)
          have hbs0 := HB0.out.size
          clear hb0
          rcases own_none HO0.out with rfl | ⟨g, cpu, rfl⟩
          · skip
            go_wp2_with (first | (go_at_call 19; refine (Mm.impl_max _ _ _).mono ?_; rintro e w' ⟨rfl, rfl⟩))
            go_step3
            refine ⟨rfl, ⟨_, _, _, _, _, _, _, _, _, _, _, _, _, _, _, _, _, _, _, _, _, _, _, _, _, _, _, _, _, _, _, _, _, _, _, _, _, _, _, _, _, _, _, _, _, _, _, rfl, HQ.out, HS2.out, by rw [HSN.out]; exact HO0.out, HB0.out⟩, ?_⟩
            exact HS1.out
          · skip
            go_wp2_with (first | (go_at_call 19; refine (Mm.impl_max _ _ _).mono ?_; rintro e w' ⟨rfl, rfl⟩))
            go_step3
            refine ⟨rfl, ⟨_, _, _, _, _, _, _, _, _, _, _, _, _, _, _, _, _, _, _, _, _, _, _, _, _, _, _, _, _, _, _, _, _, _, _, _, _, _, _, _, _, _, _, _, _, _, _, rfl, HQ.out, HS2.out, by rw [HSN.out]; exact HO0.out, HB0.out⟩, ?_⟩
            exact HS1.out
        · rw [List.concat_eq_append] at HO HKL HSN HFN hsvl
          rw [kstep_two, List.dropLast_concat] at HSN HFN
          have hlsl : ls.length ≤ 4194304 := by have h9 := HKL.out; rw [List.length_append] at h9; simp only [List.length_cons, List.length_nil] at h9; omega
          clear HFN
          go_wp2_with (fail)
          go_at_call 155
          refine HCT.out.mono ?_
          rintro e w0 ⟨rfl, hb0⟩
          have HO0 := Lib.hid (Rec.row_below HO.out hb0)
          have HB0 := Lib.hid (Base.then_below HB.out hb0)
          have hbs0 := HB0.out.size
          clear hb0
          obtain ⟨g, cpu, rfl, hcu, hop⟩ := pop_own HO0.out
          have HOP := Lib.hid hop
          clear hop
          have hcu' : (ls.length : Int) ≤ (cpu : Int) := by omega
          have hmx : max (0 : Int) (ls.length : Int) = (ls.length : Int) := by omega
          have hsvs : (Strs.svs ls).length = ls.length := Strs.svs_len _
          go_wp2_with (first | (go_at_call 19; refine (Mm.impl_max _ _ _).mono ?_; rintro e w' ⟨rfl, rfl⟩; rw [hmx]))
          go_step3
          refine ⟨rfl, ⟨_, _, _, _, _, _, _, _, _, _, _, _, _, _, _, _, _, _, _, _, _, _, _, _, _, _, _, _, _, _, _, _, _, _, _, _, _, _, _, _, _, _, _, _, _, _, _, rfl, HQ.out, HS2.out, by rw [HSN.out]; exact HOP.out, HB0.out⟩, ?_⟩
          exact HS1.out
      by_cases e1 : p = [46]
      · subst e1
        rw [kstep_dot] at HSN HFN
        clear HFN e2
        go_wp2_with (fail)
        go_at_call 155
        refine HCT.out.mono ?_
        rintro e w0 ⟨rfl, hb0⟩
        have HO0 := Lib.hid (Rec.row_below HO.out hb0)
        have HB0 := Lib.hid (Base.then_below HB.out hb0)
        have hbs0 := HB0.out.size
        clear hb0
        go_wp2
        go_step3
        refine ⟨rfl, ⟨_, _, _, _, _, _, _, _, _, _, _, _, _, _, _, _, _, _, _, _, _, _, _, _, _, _, _, _, _, _, _, _, _, _, _, _, _, _, _, _, _, _, _, _, _, _, _, rfl, HQ.out, HS2.out, by rw [HSN.out]; exact HO0.out, HB0.out⟩, ?_⟩
        exact HS1.out
      rw [kstep_other e1 e2] at HSN HFN
      clear HFN
      have t1 : (p == [46]) = false := by simpa using e1
      have t2 : (p == [46, 46]) = false := by simpa using e2
      clear e1 e2
      go_wp2_with (fail)
      go_at_call 155
      refine HCT.out.mono ?_
      rintro e w0 ⟨rfl, hb0⟩
      have HO0 := Lib.hid (Rec.row_below HO.out hb0)
      have HB0 := Lib.hid (Base.then_below HB.out hb0)
      have hbs0 := HB0.out.size
      clear hb0
      go_wp2_with (first | (at_builtin; refine wpList_append_own _ rfl (.tmp 18) (.tmp 20) 72 rfl w.heap.size 9 i0 (.string ⟨#[]⟩) 1 16 Tryz.underlying72 hi hz0 hz1 hz2 rfl (by decide) _ _ _ rfl (HO0.out.alloc _) ⟨w0.heap.size, 0, none⟩ 1 1 [.string ⟨p.toArray⟩] rfl rfl (Strs.news_one _ _ _) (by intro u hu; simp at hu; subst hu; rfl) (by have h9 := HKL.out; unfold maxLen; omega) (by have h9 := HKL.out; omega) (by rw [World.size_alloc]; omega) ?_; intro v1 w1 hown1 hg1 _; have R := Lib.hid (Strs.push_own (x := p) HO0.out HB0.out (Nat.le_refl _) hown1 hg1); clear hown1 hg1))
      go_step3
      refine ⟨rfl, ⟨_, _, _, _, _, _, _, _, _, _, _, _, _, _, _, _, _, _, _, _, _, _, _, _, _, _, _, _, _, _, _, _, _, _, _, _, _, _, _, _, _, _, _, _, _, _, _, rfl, HQ.out, HS2.out, by rw [HSN.out]; exact R.out.1, R.out.2⟩, ?_⟩
      exact HS1.out
    | false =>
      have HPE : Hid (pd = 47 :: Lib.join (fin (d ++ [p])) [47]) := Lib.hid (by rw [HPD.out, HL1.out rfl, slash_join _ HFE.out])
      have HJL : Hid ((Lib.join (fin (d ++ [p])) [47]).length ≤ 4194304) := Lib.hid (by have h9 := HPL.out; rw [HPE.out, List.length_cons] at h9; omega)
      have HFL : Hid ((fin (d ++ [p])).length ≤ 4194306) := Lib.hid (by have h9 := fin_len (d ++ [p]); rw [← HL1.out rfl] at h9; have := HLL.out; rw [← HL1.out rfl]; omega)
      clear HM HLt HL1 HFE
      by_cases e2 : p = [46, 46]
      · subst e2
        rcases List.eq_nil_or_concat ks with rfl | ⟨ls, x, rfl⟩
        · rw [kstep_two, show ([] : List (List UInt8)).dropLast = [] from rfl] at HSN HFN
          rw [if_pos (by rfl)] at HFN
          rw [HFN.out] at HPE HJL HFL
          clear HFN HSN
          have hze : (([] : List (List UInt8)).length : Int) = 0 := rfl
          go_wp2_with (fail)
          go_at_call 155
          refine HCT.out.mono ?_
          rintro e w0 ⟨rfl, hb0⟩
          have HO0 := Lib.hid (Rec.row_below HO.out hb0)
          have HB0 := Lib.hid (Base.then_below HB.out hb0)
          have hbs0 := HB0.out.size
          clear hb0
          rcases own_none HO0.out with rfl | ⟨g, cpu, rfl⟩
          · skip
            have hadd := Tx.addtwo [47] (Lib.join ([] ++ [[]]) [47]) (by have h9 := HJL.out; simp only [List.length_cons, List.length_nil]; omega)
            go_wp2_with (first | (go_at_call 19; refine (Mm.impl_max _ _ _).mono ?_; rintro e w' ⟨rfl, rfl⟩) | (at_builtin; refine wpList_append_own _ rfl (.tmp 40) (.tmp 41) 72 rfl w.heap.size 9 i0 (.string ⟨#[]⟩) 1 16 Tryz.underlying72 hi hz0 hz1 hz2 rfl (by decide) _ _ _ rfl (HO0.out.alloc _) ⟨w0.heap.size, 0, none⟩ 1 1 [.string ⟨#[]⟩] rfl rfl (Strs.news_one _ _ _) (by intro u hu; simp at hu; subst hu; rfl) (by have h9 := HKL.out; unfold maxLen; omega) (by have h9 := HKL.out; omega) (by rw [World.size_alloc]; omega) ?_; intro v1 w1 hown1 hg1 _; have R := Lib.hid (Strs.push_own (x := []) HO0.out HB0.out (Nat.le_refl _) hown1 hg1); clear hown1 hg1; have HJ := Lib.hid (lib_join1 47 _ _ (([] : List (List UInt8)) ++ [[]]) w1 (Strs.own_holds R.out.1) (by have h9 := HFL.out; omega) (by have h9 := HJL.out; omega))) | (go_at_call 82; refine HJ.out.mono ?_; rintro e w2 ⟨rfl, hb2⟩; have HB2 := Lib.hid (Base.then_below R.out.2 hb2); clear hb2))
            all_goals simp only [Exit.jump]
            all_goals (try rw [Exit.noGoto_ret])
            go_ret
            exact ⟨ret_s (by rw [HPE.out] <;> rfl), HB2.out⟩
          · skip
            have hadd := Tx.addtwo [47] (Lib.join ([] ++ [[]]) [47]) (by have h9 := HJL.out; simp only [List.length_cons, List.length_nil]; omega)
            go_wp2_with (first | (go_at_call 19; refine (Mm.impl_max _ _ _).mono ?_; rintro e w' ⟨rfl, rfl⟩) | (at_builtin; refine wpList_append_own _ rfl (.tmp 40) (.tmp 41) 72 rfl w.heap.size 9 i0 (.string ⟨#[]⟩) 1 16 Tryz.underlying72 hi hz0 hz1 hz2 rfl (by decide) _ _ _ rfl (HO0.out.alloc _) ⟨w0.heap.size, 0, none⟩ 1 1 [.string ⟨#[]⟩] rfl rfl (Strs.news_one _ _ _) (by intro u hu; simp at hu; subst hu; rfl) (by have h9 := HKL.out; unfold maxLen; omega) (by have h9 := HKL.out; omega) (by rw [World.size_alloc]; omega) ?_; intro v1 w1 hown1 hg1 _; have R := Lib.hid (Strs.push_own (x := []) HO0.out HB0.out (Nat.le_refl _) hown1 hg1); clear hown1 hg1; have HJ := Lib.hid (lib_join1 47 _ _ (([] : List (List UInt8)) ++ [[]]) w1 (Strs.own_holds R.out.1) (by have h9 := HFL.out; omega) (by have h9 := HJL.out; omega))) | (go_at_call 82; refine HJ.out.mono ?_; rintro e w2 ⟨rfl, hb2⟩; have HB2 := Lib.hid (Base.then_below R.out.2 hb2); clear hb2))
            all_goals simp only [Exit.jump]
            all_goals (try rw [Exit.noGoto_ret])
            go_ret
            exact ⟨ret_s (by rw [HPE.out] <;> rfl), HB2.out⟩
        · rw [List.concat_eq_append] at HO HKL HSN HFN hsvl
          rw [kstep_two, List.dropLast_concat] at HSN HFN
          have hlsl : ls.length ≤ 4194304 := by have h9 := HKL.out; rw [List.length_append] at h9; simp only [List.length_cons, List.length_nil] at h9; omega
          rw [if_pos (by rfl)] at HFN
          rw [HFN.out] at HPE HJL HFL
          clear HFN HSN
          go_wp2_with (fail)
          go_at_call 155
          refine HCT.out.mono ?_
          rintro e w0 ⟨rfl, hb0⟩
          have HO0 := Lib.hid (Rec.row_below HO.out hb0)
          have HB0 := Lib.hid (Base.then_below HB.out hb0)
          have hbs0 := HB0.out.size
          clear hb0
          obtain ⟨g, cpu, rfl, hcu, hop⟩ := pop_own HO0.out
          have HOP := Lib.hid hop
          clear hop
          have hcu' : (ls.length : Int) ≤ (cpu : Int) := by omega
          have hmx : max (0 : Int) (ls.length : Int) = (ls.length : Int) := by omega
          have hsvs : (Strs.svs ls).length = ls.length := Strs.svs_len _
          have hadd := Tx.addtwo [47] (Lib.join (ls ++ [[]]) [47]) (by have h9 := HJL.out; simp only [List.length_cons, List.length_nil]; omega)
          go_wp2_with (first | (go_at_call 19; refine (Mm.impl_max _ _ _).mono ?_; rintro e w' ⟨rfl, rfl⟩; rw [hmx]) | (at_builtin; refine wpList_append_own _ rfl (.tmp 40) (.tmp 41) 72 rfl w.heap.size 9 i0 (.string ⟨#[]⟩) 1 16 Tryz.underlying72 hi hz0 hz1 hz2 rfl (by decide) _ _ _ rfl (HOP.out.alloc _) ⟨w0.heap.size, 0, none⟩ 1 1 [.string ⟨#[]⟩] rfl rfl (Strs.news_one _ _ _) (by intro u hu; simp at hu; subst hu; rfl) (by have h9 := HKL.out; unfold maxLen; omega) (by have h9 := HKL.out; omega) (by rw [World.size_alloc]; omega) ?_; intro v1 w1 hown1 hg1 _; have R := Lib.hid (Strs.push_own (x := []) HOP.out HB0.out (Nat.le_refl _) hown1 hg1); clear hown1 hg1; have HJ := Lib.hid (lib_join1 47 _ _ (ls ++ [[]]) w1 (Strs.own_holds R.out.1) (by have h9 := HFL.out; omega) (by have h9 := HJL.out; omega))) | (go_at_call 82; refine HJ.out.mono ?_; rintro e w2 ⟨rfl, hb2⟩; have HB2 := Lib.hid (Base.then_below R.out.2 hb2); clear hb2))
          all_goals simp only [Exit.jump]
          all_goals (try rw [Exit.noGoto_ret])
          go_ret
          exact ⟨ret_s (by rw [HPE.out] <;> rfl), HB2.out⟩
      by_cases e1 : p = [46]
      · subst e1
        rw [kstep_dot] at HSN HFN
        rw [if_pos (by rfl)] at HFN
        rw [HFN.out] at HPE HJL HFL
        clear HFN HSN e2
        go_wp2_with (fail)
        go_at_call 155
        refine HCT.out.mono ?_
        rintro e w0 ⟨rfl, hb0⟩
        have HO0 := Lib.hid (Rec.row_below HO.out hb0)
        have HB0 := Lib.hid (Base.then_below HB.out hb0)
        have hbs0 := HB0.out.size
        clear hb0
        have hadd := Tx.addtwo [47] (Lib.join (ks ++ [[]]) [47]) (by have h9 := HJL.out; simp only [List.length_cons, List.length_nil]; omega)
        go_wp2_with (first | (at_builtin; refine wpList_append_own _ rfl (.tmp 40) (.tmp 41) 72 rfl w.heap.size 9 i0 (.string ⟨#[]⟩) 1 16 Tryz.underlying72 hi hz0 hz1 hz2 rfl (by decide) _ _ _ rfl (HO0.out.alloc _) ⟨w0.heap.size, 0, none⟩ 1 1 [.string ⟨#[]⟩] rfl rfl (Strs.news_one _ _ _) (by intro u hu; simp at hu; subst hu; rfl) (by have h9 := HKL.out; unfold maxLen; omega) (by have h9 := HKL.out; omega) (by rw [World.size_alloc]; omega) ?_; intro v1 w1 hown1 hg1 _; have R := Lib.hid (Strs.push_own (x := []) HO0.out HB0.out (Nat.le_refl _) hown1 hg1); clear hown1 hg1; have HJ := Lib.hid (lib_join1 47 _ _ (ks ++ [[]]) w1 (Strs.own_holds R.out.1) (by have h9 := HFL.out; omega) (by have h9 := HJL.out; omega))) | (go_at_call 82; refine HJ.out.mono ?_; rintro e w2 ⟨rfl, hb2⟩; have HB2 := Lib.hid (Base.then_below R.out.2 hb2); clear hb2))
        all_goals simp only [Exit.jump]
        all_goals (try rw [Exit.noGoto_ret])
        go_ret
        exact ⟨ret_s (by rw [HPE.out] <;> rfl), HB2.out⟩
      rw [kstep_other e1 e2] at HSN HFN
      rw [if_neg (by rw [isdot_no e1 e2]; decide)] at HFN
      rw [HFN.out] at HPE HJL HFL
      clear HFN HSN
      have t1 : (p == [46]) = false := by simpa using e1
      have t2 : (p == [46, 46]) = false := by simpa using e2
      clear e1 e2
      go_wp2_with (fail)
      go_at_call 155
      refine HCT.out.mono ?_
      rintro e w0 ⟨rfl, hb0⟩
      have HO0 := Lib.hid (Rec.row_below HO.out hb0)
      have HB0 := Lib.hid (Base.then_below HB.out hb0)
      have hbs0 := HB0.out.size
      clear hb0
      have hadd := Tx.addtwo [47] (Lib.join (ks ++ [p]) [47]) (by have h9 := HJL.out; simp only [List.length_cons, List.length_nil]; omega)
      go_wp2_with (first | (at_builtin; refine wpList_append_own _ rfl (.tmp 18) (.tmp 20) 72 rfl w.heap.size 9 i0 (.string ⟨#[]⟩) 1 16 Tryz.underlying72 hi hz0 hz1 hz2 rfl (by decide) _ _ _ rfl (HO0.out.alloc _) ⟨w0.heap.size, 0, none⟩ 1 1 [.string ⟨p.toArray⟩] rfl rfl (Strs.news_one _ _ _) (by intro u hu; simp at hu; subst hu; rfl) (by have h9 := HKL.out; unfold maxLen; omega) (by have h9 := HKL.out; omega) (by rw [World.size_alloc]; omega) ?_; intro v1 w1 hown1 hg1 _; have R := Lib.hid (Strs.push_own (x := p) HO0.out HB0.out (Nat.le_refl _) hown1 hg1); clear hown1 hg1; have HJ := Lib.hid (lib_join1 47 _ _ (ks ++ [p]) w1 (Strs.own_holds R.out.1) (by have h9 := HFL.out; omega) (by have h9 := HJL.out; omega))) | (go_at_call 82; refine HJ.out.mono ?_; rintro e w2 ⟨rfl, hb2⟩; have HB2 := Lib.hid (Base.then_below R.out.2 hb2); clear hb2))
      all_goals simp only [Exit.jump]
      all_goals (try rw [Exit.noGoto_ret])
      go_ret
      exact ⟨ret_s (by rw [HPE.out] <;> rfl), HB2.out⟩
end Go.Proofs.YtndbhjgfaghelaaGreatDoor.Nt
