/-
  CONTRACTS AND PLAIN FACTS, several texts in one; each says in its own words what it proves.
-/
import Derived.Test.YtndbhjgfaghelaaGreatDoorPartH
import Derived.Test.YtndbhjgfaghelaaGreatDoorPartE
import Derived.ScopeJumps
import Derived.WalkMore
import Derived.IntWalk
import Derived.Test.YtndbhjgfaghelaaGreatDoorPartG
import Derived.Test.YtndbhjgfaghelaaGreatDoorPartB
import Derived.WalkSmall
set_option linter.unusedSimpArgs false
set_option linter.unusedVariables false

/-
  CONTRACT of the program's normalCodes (a loop by a jump); nothing that was there before is changed.
-/
namespace Go.Proofs.YtndbhjgfaghelaaGreatDoor.Nt
open Go Go.RowKit Bys
set_option linter.unusedVariables false
set_option maxRecDepth 1000000
set_option maxRecDepth 1000000

/-- What is left to read and what has been written. -/
def NQ (s sp : ByteArray) (out : List UInt8) : Prop := norm s.data.toList = (norm sp.data.toList).map (out ++ ·) ∧ out.length + sp.size ≤ s.size
theorem nq_start (s : ByteArray) : NQ s s [] := ⟨by cases norm s.data.toList <;> rfl, by simp⟩
theorem norm_pre : ∀ (p r : List UInt8), (∀ c ∈ p, c ≠ 37) → norm (p ++ r) = (norm r).map (p ++ ·)
  | [], r, _ => by rw [List.nil_append]; cases norm r <;> simp
  | c :: p, r, h => by
    rw [List.cons_append, norm_plain _ (h c (by simp)), norm_pre p r (fun d hd => h d (by simp [hd])), map_map]; rfl
theorem no_hit {l : List UInt8} (h : ¬ Tx.idx 37 l < l.length) : ∀ c ∈ l, c ≠ 37 := by
  intro c hc
  obtain ⟨j, hj, rfl⟩ := List.mem_iff_getElem.1 hc
  exact Tx.idx_before 37 l j (by have := Tx.idx_le 37 l; omega) hj
theorem pre_hit {l : List UInt8} : ∀ c ∈ l.take (Tx.idx 37 l), c ≠ 37 := by
  intro c hc
  obtain ⟨j, hj, rfl⟩ := List.mem_iff_getElem.1 hc
  rw [List.length_take] at hj
  rw [List.getElem_take]
  exact Tx.idx_before 37 l j (by omega) (by omega)
theorem drop_hit {l : List UInt8} (h : Tx.idx 37 l < l.length) : l.drop (Tx.idx 37 l) = 37 :: l.drop (Tx.idx 37 l + 1) := by
  rw [List.drop_eq_getElem_cons h, Tx.idx_at 37 l h]
theorem norm_at {l : List UInt8} : norm l = (norm (l.drop (Tx.idx 37 l))).map (l.take (Tx.idx 37 l) ++ ·) := by
  conv => lhs; rw [← List.take_append_drop (Tx.idx 37 l) l]
  exact norm_pre _ _ pre_hit
theorem nq_end {s sp : ByteArray} {out : List UInt8} (h : NQ s sp out) (hn : ¬ Tx.idx 37 sp.data.toList < sp.data.toList.length) : normp s.data.toList = (out ++ sp.data.toList, true) := by
  refine normp_some ?_
  rw [h.1]
  have := norm_pre sp.data.toList [] (no_hit hn)
  rw [List.append_nil, norm_nil] at this
  rw [this]; simp
theorem nq_short {s sp : ByteArray} {out : List UInt8} (h : NQ s sp out) (hi : Tx.idx 37 sp.data.toList < sp.data.toList.length) (hn : sp.data.toList.length < Tx.idx 37 sp.data.toList + 3) : normp s.data.toList = ([], false) := by
  refine normp_none ?_
  rw [h.1, norm_at, drop_hit hi, norm_short (by rw [List.length_drop]; omega)]; rfl
theorem drop_three {l : List UInt8} (hi : Tx.idx 37 l < l.length) (hn : ¬ l.length < Tx.idx 37 l + 3) : ∃ a b, l.drop (Tx.idx 37 l) = 37 :: a :: b :: l.drop (Tx.idx 37 l + 3) := by
  refine ⟨l[Tx.idx 37 l + 1]'(by omega), l[Tx.idx 37 l + 2]'(by omega), ?_⟩
  rw [drop_hit hi, List.drop_eq_getElem_cons (by omega), List.drop_eq_getElem_cons (by omega)]
theorem nq_bad {s sp : ByteArray} {out : List UInt8} {a b : UInt8} {t : List UInt8} (h : NQ s sp out) (hd : sp.data.toList.drop (Tx.idx 37 sp.data.toList) = 37 :: a :: b :: t) (hx : ¬ (hexn a < 16 ∧ hexn b < 16)) : normp s.data.toList = ([], false) := by
  refine normp_none ?_
  rw [h.1, norm_at, hd, norm_bad _ hx]; rfl
theorem nq_go {s sp : ByteArray} {out : List UInt8} {a b : UInt8} (h : NQ s sp out) (hi : Tx.idx 37 sp.data.toList + 3 ≤ sp.data.toList.length) (hd : sp.data.toList.drop (Tx.idx 37 sp.data.toList) = 37 :: a :: b :: sp.data.toList.drop (Tx.idx 37 sp.data.toList + 3)) (hx : hexn a < 16 ∧ hexn b < 16) :
    NQ s (sp.extract (Tx.idx 37 sp.data.toList + 3) sp.size) (out ++ (sp.data.toList.take (Tx.idx 37 sp.data.toList) ++ code (hexn a) (hexn b))) := by
  have hz : (sp.extract (Tx.idx 37 sp.data.toList + 3) sp.size).data.toList = sp.data.toList.drop (Tx.idx 37 sp.data.toList + 3) := by
    have hz0 : (sp.extract (Tx.idx 37 sp.data.toList + 3) sp.size).data.toList = (sp.data.toList.drop (Tx.idx 37 sp.data.toList + 3)).take (sp.size - (Tx.idx 37 sp.data.toList + 3)) := by simp
    rw [hz0]; exact List.take_of_length_le (by rw [List.length_drop, Tx.list_len]; omega)
  have hsz : (sp.extract (Tx.idx 37 sp.data.toList + 3) sp.size).size = sp.size - (Tx.idx 37 sp.data.toList + 3) := by
    rw [← Tx.list_len, hz, List.length_drop, Tx.list_len]
  refine ⟨?_, ?_⟩
  · rw [h.1, norm_at, hd, norm_code _ hx.1 hx.2, hz]
    cases norm (sp.data.toList.drop (Tx.idx 37 sp.data.toList + 3)) <;> simp
  · rw [hsz]
    have := h.2
    have := code_len (hexn a) (hexn b)
    rw [Tx.list_len] at hi
    simp only [List.length_append, List.length_take, Tx.list_len]; omega
theorem str_cells (s : ByteArray) : Lib.strCells s = bvs s.data.toList := rfl
theorem own_cat {w : World} {B : Nat} {v : Value} {l : List UInt8} {s : ByteArray} (h : w.ownsRow B 5 1 v (l.length + s.size) (bvs l ++ Lib.strCells s)) : Own w B v (l ++ s.data.toList) := by
  show w.ownsRow B 5 1 v (l ++ s.data.toList).length (bvs (l ++ s.data.toList))
  rw [show bvs (l ++ s.data.toList) = bvs l ++ Lib.strCells s by unfold bvs; rw [List.map_append]; rfl, List.length_append, Tx.list_len]; exact h
theorem ret_qn {a b : List UInt8} {x y : Bool} (h : (a, x) = (b, y)) : Ending.returned (.tuple #[.string ⟨a.toArray⟩, .bool x]) = .returned (.tuple #[.string ⟨b.toArray⟩, .bool y]) := by cases h; rfl
theorem ext_tail (s : ByteArray) (k : Nat) (hk : k ≤ s.size) : (s.extract k s.size).data.toList = s.data.toList.drop k ∧ (s.extract k s.size).size = s.size - k := by
  have hz0 : (s.extract k s.size).data.toList = (s.data.toList.drop k).take (s.size - k) := by simp
  have h1 : (s.extract k s.size).data.toList = s.data.toList.drop k := by rw [hz0]; exact List.take_of_length_le (by rw [List.length_drop, Tx.list_len]; omega)
  exact ⟨h1, by rw [← Tx.list_len, h1, List.length_drop, Tx.list_len]⟩
theorem ext_head (s : ByteArray) (k : Nat) : s.extract 0 k = ⟨(s.data.toList.take k).toArray⟩ := by rw [Tx.ext_eq]; simp
theorem ext_13 {s : ByteArray} {a b : UInt8} {t : List UInt8} (h : s.data.toList = 37 :: a :: b :: t) : s.extract 1 3 = ⟨#[a, b]⟩ ∧ s.extract 0 3 = ⟨#[37, a, b]⟩ := by
  rw [Tx.ext_eq, Tx.ext_eq, h]; exact ⟨rfl, rfl⟩
def lenOf : Value → Nat | .string s => s.size | _ => 0
def JN (w : World) (s : ByteArray) (a' : Act) (w' : World) : Prop := ∃ (sp : ByteArray) (out : List UInt8) (v4 u1 u2 u3 u5 u6 u7 u8 u9 u10 u11 u12 u13 u14 u15 u16 u17 u18 u19 u20 u21 u22 u23 u24 u25 u26 u27 u28 u29 u30 u31 u32 u33 u34 u35 u36 : Value), a' = { tmps := #[.string sp, u1, u2, u3, v4, u5, u6, u7, u8, u9, u10, u11, u12, u13, u14, u15, u16, u17, u18, u19, u20, u21, u22, u23, u24, u25, u26, u27, u28, u29, u30, u31, u32, u33, u34, u35, u36], defers := [] } ∧ NQ s sp out ∧ Own w' w.heap.size v4 out ∧ Below w.heap.size w w'

set_option maxHeartbeats 16000000 in
theorem codes_call (s : ByteArray) (w : World) (hs : s.size ≤ 4194304) (he : Par.Errs w) :
    Calls Tryz.prog 229 #[.string s] w (PairEnd (normp s.data.toList) w) := by
  obtain ⟨i0, hi, hz0, hz1, hz2⟩ := info_parts info_byte
  have HOI := Lib.hid (own_lit_nil w)
  have HER := Lib.hid (fun W (hb : Below w.heap.size w W) => Par.errs_below he hb)
  obtain ⟨p, hp⟩ : ∃ p, normp s.data.toList = p := ⟨_, rfl⟩
  have HPP : Hid (∀ q, normp s.data.toList = q → p = q) := Lib.hid (fun _ h => hp.symm.trans h)
  have HSZ := Lib.hid hs
  unfold PairEnd
  rw [hp]
  clear hp he hs
  obtain ⟨p1, p2⟩ := p
  go_enter Tryz.func229, Tryz.ntmps229
  go_wp2
  refine wp_scope_jumps 0 (JN w s) (fun a' _ => lenOf (a'.tmps.getD 0 undef)) rfl ?_ ?_
  · go_wp2
    go_step3
    have HB := Lib.hid ((Below.refl w.heap.size w).alloc (Nat.le_refl _) (.cells #[] 5))
    have HR := Lib.hid (nq_start s)
    have HO := HOI
    have HL : Hid (([] : List UInt8).length ≤ s.size) := Lib.hid (Nat.zero_le _)
    generalize ([] : List UInt8) = out at HR HO HL
    generalize Value.slice (some ⟨w.heap.size, 0, none⟩) 0 0 = v4 at HO ⊢
    generalize w.alloc (.cells #[] 5) = wr at HO HB ⊢
    clear HOI
    have hbs := HB.out.size
    have HIX := Lib.hid (fun W => Tryz.strings_IndexByte s 37 W)
    rw [show ((37 : Int).toNat.toUInt8) = 37 from rfl, Tx.indexByte_idx] at HIX
    have hln : s.data.toList.length = s.size := Tx.list_len s
    by_cases hidx : Tx.idx 37 s.data.toList < s.data.toList.length
    case neg =>
      have HE := Lib.hid (HPP.out _ (nq_end HR.out hidx))
      rw [if_neg hidx] at HIX
      clear hidx
      go_wp2_with (fail)
      go_at_call 211
      refine (HIX.out _).mono ?_
      rintro e w' ⟨rfl, rfl⟩
      go_wp2_with (at_builtin; go_loud (refine Lib.wpList_append_own_string _ rfl (.tmp 13) (.tmp 14) 22 9 rfl w.heap.size 5 i0 Tryz.underlying22 Tryz.underlying9 hi hz0 hz1 hz2 _ _ _ rfl HO.out _ rfl (by have := HL.out; have := HSZ.out; have := HSZ.out; unfold maxLen; omega) (by have := HL.out; have := HSZ.out; have := HSZ.out; omega) hbs ?_; intro v1 w1 hown1 hg1 _; have HO1 := Lib.hid (own_cat hown1); have HB1 := Lib.hid (HB.out.grown hg1 hbs (fun k e => (HO.out.lt k e).1)); have hcv := own_str HO1.out; clear hown1 hg1))
      all_goals simp only [Exit.jump]
      all_goals (try rw [Exit.noGoto_ret])
      go_ret2
      exact ⟨ret_qn HE.out.symm, HB1.out⟩
    rw [if_pos hidx] at HIX
    by_cases h3 : s.data.toList.length < Tx.idx 37 s.data.toList + 3
    · have HE := Lib.hid (HPP.out _ (nq_short HR.out hidx h3))
      have hes := (ext_tail s (Tx.idx 37 s.data.toList) (by omega)).2
      generalize Tx.idx 37 s.data.toList = k at *
      have hk1 : (k : Int) ≤ (s.size : Int) := by omega
      have HCS := Lib.hid (fun W => code_short (s.extract k s.size) W (by omega))
      unfold PairEnd at HCS
      clear h3 hes hidx
      go_wp2_with (fail)
      go_at_call 211
      refine (HIX.out _).mono ?_
      rintro e w' ⟨rfl, rfl⟩
      go_wp2_with (fail)
      go_at_call 265
      refine (HCS.out _).mono ?_
      rintro e w1 ⟨rfl, hb1⟩
      have HB1 := Lib.hid (Base.then_below HB.out hb1)
      clear hb1
      go_wp2
      all_goals simp only [Exit.jump]
      all_goals (try rw [Exit.noGoto_ret])
      go_ret2
      exact ⟨ret_qn HE.out.symm, HB1.out⟩
    obtain ⟨a, b, hd⟩ := drop_three hidx h3
    have het := ext_tail s (Tx.idx 37 s.data.toList) (by omega)
    have hex := ext_13 (het.1.trans hd)
    by_cases hx : hexn a < 16 ∧ hexn b < 16
    case neg =>
      have HE := Lib.hid (HPP.out _ (nq_bad HR.out hd hx))
      have hcp : codep a b = ([], false) := if_neg hx
      generalize Tx.idx 37 s.data.toList = k at *
      have hk1 : (k : Int) ≤ (s.size : Int) := by omega
      have HCC := Lib.hid (fun W (h : Below w.heap.size w W) => code_call a b (s.extract k s.size) W (by omega) hex.1 hex.2 (HER.out W h))
      rw [hcp] at HCC
      unfold PairEnd at HCC
      clear h3 het hex hd hidx hx hcp
      go_wp2_with (fail)
      go_at_call 211
      refine (HIX.out _).mono ?_
      rintro e w' ⟨rfl, rfl⟩
      go_wp2_with (fail)
      go_at_call 265
      refine (HCC.out _ HB.out).mono ?_
      rintro e w1 ⟨rfl, hb1⟩
      have HB1 := Lib.hid (Base.then_below HB.out hb1)
      clear hb1
      go_wp2
      all_goals simp only [Exit.jump]
      all_goals (try rw [Exit.noGoto_ret])
      go_ret2
      exact ⟨ret_qn HE.out.symm, HB1.out⟩
    have HQ := Lib.hid (nq_go HR.out (by omega) hd hx)
    have hcp : codep a b = (code (hexn a) (hexn b), true) := if_pos hx
    have hzl := code_len (hexn a) (hexn b)
    have he3 := (ext_tail s (Tx.idx 37 s.data.toList + 3) (by omega)).2
    have htl : (s.data.toList.take (Tx.idx 37 s.data.toList)).length ≤ s.size := by rw [List.length_take]; omega
    have he0 := ext_head s (Tx.idx 37 s.data.toList)
    have HCC := Lib.hid (fun W (h : Below w.heap.size w W) => code_call a b (s.extract (Tx.idx 37 s.data.toList) s.size) W (by omega) hex.1 hex.2 (HER.out W h))
    rw [hcp] at HCC
    unfold PairEnd at HCC
    generalize code (hexn a) (hexn b) = z at *
    generalize s.data.toList.take (Tx.idx 37 s.data.toList) = tk at *
    generalize Tx.idx 37 s.data.toList = k at *
    have hk0 : k + 3 ≤ s.size := by omega
    have hk1 : (k : Int) ≤ (s.size : Int) := by omega
    have hk2 : (k : Int) + 3 ≤ (s.size : Int) := by omega
    have hk3 : ((k : Int) + 3).toNat = k + 3 := by omega
    have hk4 : 0 ≤ (k : Int) + 3 := by omega
    have hsp : s.size ≤ 4194304 := by have := HSZ.out; omega
    have hw3 : IntKind.i64.wrap ((k : Int) + 3) = (k : Int) + 3 := IntWalk.i64_in _ (by omega)
    have hadd := Tx.addtwo tk z (by omega)
    have hcs : (⟨(tk ++ z).toArray⟩ : ByteArray).size = tk.length + z.length := by simp [ByteArray.size]
    have HCT : Hid (∀ {W : World} {v : Value}, W.ownsRow w.heap.size 5 1 v (out.length + (⟨(tk ++ z).toArray⟩ : ByteArray).size) (bvs out ++ Lib.strCells ⟨(tk ++ z).toArray⟩) → Own W w.heap.size v (out ++ (tk ++ z))) := Lib.hid (fun h => own_cat h)
    clear h3 het hex hd hx hcp hidx hln
    go_wp2_with (fail)
    go_at_call 211
    refine (HIX.out _).mono ?_
    rintro e w' ⟨rfl, rfl⟩
    go_wp2_with (fail)
    go_at_call 265
    refine (HCC.out _ HB.out).mono ?_
    rintro e w1 ⟨rfl, hb1⟩
    have HB1 := Lib.hid (Base.then_below HB.out hb1)
    have HO1 := Lib.hid (Rec.row_below HO.out hb1)
    have hbs1 := HB1.out.size
    clear hb1
    go_wp2_with (at_builtin; go_loud (refine Lib.wpList_append_own_string _ rfl (.tmp 26) (.tmp 31) 22 9 rfl w.heap.size 5 i0 Tryz.underlying22 Tryz.underlying9 hi hz0 hz1 hz2 _ _ _ rfl HO1.out _ rfl (by have := HL.out; have := HSZ.out; rw [hcs]; unfold maxLen; omega) (by have := HL.out; have := HSZ.out; rw [hcs]; omega) hbs1 ?_; intro v1 w2 hown1 hg1 _; have HO2 := Lib.hid (HCT.out hown1); have HB2 := Lib.hid (HB1.out.grown hg1 hbs1 (fun k e => (HO1.out.lt k e).1)); clear hown1 hg1))
    go_step3
    exact ⟨rfl, _, _, v1, _, _, _, _, _, _, _, _, _, _, _, _, _, _, _, _, _, _, _, _, _, _, _, _, _, _, _, _, _, _, _, _, _, _, _, rfl, HQ.out, HO2.out, HB2.out⟩
  · rintro a' wr ⟨sp, out, v4, u1, u2, u3, u5, u6, u7, u8, u9, u10, u11, u12, u13, u14, u15, u16, u17, u18, u19, u20, u21, u22, u23, u24, u25, u26, u27, u28, u29, u30, u31, u32, u33, u34, u35, u36, rfl, hnq, hown, hb⟩
    have HR := Lib.hid hnq
    have HB := Lib.hid hb
    have HO := Lib.hid hown
    have HL : Hid (out.length ≤ s.size) := Lib.hid (by have := hnq.2; omega)
    have HSS : Hid (sp.size ≤ s.size) := Lib.hid (by have := hnq.2; omega)
    clear HOI hnq hown hb
    have hbs := HB.out.size
    have HIX := Lib.hid (fun W => Tryz.strings_IndexByte sp 37 W)
    rw [show ((37 : Int).toNat.toUInt8) = 37 from rfl, Tx.indexByte_idx] at HIX
    have hln : sp.data.toList.length = sp.size := Tx.list_len sp
    by_cases hidx : Tx.idx 37 sp.data.toList < sp.data.toList.length
    case neg =>
      have HE := Lib.hid (HPP.out _ (nq_end HR.out hidx))
      rw [if_neg hidx] at HIX
      clear hidx
      go_wp2_with (fail)
      go_at_call 211
      refine (HIX.out _).mono ?_
      rintro e w' ⟨rfl, rfl⟩
      go_wp2_with (at_builtin; go_loud (refine Lib.wpList_append_own_string _ rfl (.tmp 13) (.tmp 14) 22 9 rfl w.heap.size 5 i0 Tryz.underlying22 Tryz.underlying9 hi hz0 hz1 hz2 _ _ _ rfl HO.out _ rfl (by have := HL.out; have := (Nat.le_trans HSS.out HSZ.out); have := HSZ.out; unfold maxLen; omega) (by have := HL.out; have := (Nat.le_trans HSS.out HSZ.out); have := HSZ.out; omega) hbs ?_; intro v1 w1 hown1 hg1 _; have HO1 := Lib.hid (own_cat hown1); have HB1 := Lib.hid (HB.out.grown hg1 hbs (fun k e => (HO.out.lt k e).1)); have hcv := own_str HO1.out; clear hown1 hg1))
      all_goals simp only [Exit.jump]
      all_goals (try rw [Exit.noGoto_ret])
      go_ret2
      exact ⟨ret_qn HE.out.symm, HB1.out⟩
    rw [if_pos hidx] at HIX
    by_cases h3 : sp.data.toList.length < Tx.idx 37 sp.data.toList + 3
    · have HE := Lib.hid (HPP.out _ (nq_short HR.out hidx h3))
      have hes := (ext_tail sp (Tx.idx 37 sp.data.toList) (by omega)).2
      generalize Tx.idx 37 sp.data.toList = k at *
      have hk1 : (k : Int) ≤ (sp.size : Int) := by omega
      have HCS := Lib.hid (fun W => code_short (sp.extract k sp.size) W (by omega))
      unfold PairEnd at HCS
      clear h3 hes hidx
      go_wp2_with (fail)
      go_at_call 211
      refine (HIX.out _).mono ?_
      rintro e w' ⟨rfl, rfl⟩
      go_wp2_with (fail)
      go_at_call 265
      refine (HCS.out _).mono ?_
      rintro e w1 ⟨rfl, hb1⟩
      have HB1 := Lib.hid (Base.then_below HB.out hb1)
      clear hb1
      go_wp2
      all_goals simp only [Exit.jump]
      all_goals (try rw [Exit.noGoto_ret])
      go_ret2
      exact ⟨ret_qn HE.out.symm, HB1.out⟩
    obtain ⟨a, b, hd⟩ := drop_three hidx h3
    have het := ext_tail sp (Tx.idx 37 sp.data.toList) (by omega)
    have hex := ext_13 (het.1.trans hd)
    by_cases hx : hexn a < 16 ∧ hexn b < 16
    case neg =>
      have HE := Lib.hid (HPP.out _ (nq_bad HR.out hd hx))
      have hcp : codep a b = ([], false) := if_neg hx
      generalize Tx.idx 37 sp.data.toList = k at *
      have hk1 : (k : Int) ≤ (sp.size : Int) := by omega
      have HCC := Lib.hid (fun W (h : Below w.heap.size w W) => code_call a b (sp.extract k sp.size) W (by omega) hex.1 hex.2 (HER.out W h))
      rw [hcp] at HCC
      unfold PairEnd at HCC
      clear h3 het hex hd hidx hx hcp
      go_wp2_with (fail)
      go_at_call 211
      refine (HIX.out _).mono ?_
      rintro e w' ⟨rfl, rfl⟩
      go_wp2_with (fail)
      go_at_call 265
      refine (HCC.out _ HB.out).mono ?_
      rintro e w1 ⟨rfl, hb1⟩
      have HB1 := Lib.hid (Base.then_below HB.out hb1)
      clear hb1
      go_wp2
      all_goals simp only [Exit.jump]
      all_goals (try rw [Exit.noGoto_ret])
      go_ret2
      exact ⟨ret_qn HE.out.symm, HB1.out⟩
    have HQ := Lib.hid (nq_go HR.out (by omega) hd hx)
    have hcp : codep a b = (code (hexn a) (hexn b), true) := if_pos hx
    have hzl := code_len (hexn a) (hexn b)
    have he3 := (ext_tail sp (Tx.idx 37 sp.data.toList + 3) (by omega)).2
    have htl : (sp.data.toList.take (Tx.idx 37 sp.data.toList)).length ≤ sp.size := by rw [List.length_take]; omega
    have he0 := ext_head sp (Tx.idx 37 sp.data.toList)
    have HCC := Lib.hid (fun W (h : Below w.heap.size w W) => code_call a b (sp.extract (Tx.idx 37 sp.data.toList) sp.size) W (by omega) hex.1 hex.2 (HER.out W h))
    rw [hcp] at HCC
    unfold PairEnd at HCC
    generalize code (hexn a) (hexn b) = z at *
    generalize sp.data.toList.take (Tx.idx 37 sp.data.toList) = tk at *
    generalize Tx.idx 37 sp.data.toList = k at *
    have hk0 : k + 3 ≤ sp.size := by omega
    have hk1 : (k : Int) ≤ (sp.size : Int) := by omega
    have hk2 : (k : Int) + 3 ≤ (sp.size : Int) := by omega
    have hk3 : ((k : Int) + 3).toNat = k + 3 := by omega
    have hk4 : 0 ≤ (k : Int) + 3 := by omega
    have hsp : sp.size ≤ 4194304 := by have := (Nat.le_trans HSS.out HSZ.out); omega
    have hw3 : IntKind.i64.wrap ((k : Int) + 3) = (k : Int) + 3 := IntWalk.i64_in _ (by omega)
    have hadd := Tx.addtwo tk z (by omega)
    have hcs : (⟨(tk ++ z).toArray⟩ : ByteArray).size = tk.length + z.length := by simp [ByteArray.size]
    have HCT : Hid (∀ {W : World} {v : Value}, W.ownsRow w.heap.size 5 1 v (out.length + (⟨(tk ++ z).toArray⟩ : ByteArray).size) (bvs out ++ Lib.strCells ⟨(tk ++ z).toArray⟩) → Own W w.heap.size v (out ++ (tk ++ z))) := Lib.hid (fun h => own_cat h)
    clear h3 het hex hd hx hcp hidx hln
    go_wp2_with (fail)
    go_at_call 211
    refine (HIX.out _).mono ?_
    rintro e w' ⟨rfl, rfl⟩
    go_wp2_with (fail)
    go_at_call 265
    refine (HCC.out _ HB.out).mono ?_
    rintro e w1 ⟨rfl, hb1⟩
    have HB1 := Lib.hid (Base.then_below HB.out hb1)
    have HO1 := Lib.hid (Rec.row_below HO.out hb1)
    have hbs1 := HB1.out.size
    clear hb1
    go_wp2_with (at_builtin; go_loud (refine Lib.wpList_append_own_string _ rfl (.tmp 26) (.tmp 31) 22 9 rfl w.heap.size 5 i0 Tryz.underlying22 Tryz.underlying9 hi hz0 hz1 hz2 _ _ _ rfl HO1.out _ rfl (by have := HL.out; have := HSZ.out; rw [hcs]; unfold maxLen; omega) (by have := HL.out; have := HSZ.out; rw [hcs]; omega) hbs1 ?_; intro v1 w2 hown1 hg1 _; have HO2 := Lib.hid (HCT.out hown1); have HB2 := Lib.hid (HB1.out.grown hg1 hbs1 (fun k e => (HO1.out.lt k e).1)); clear hown1 hg1))
    go_step3
    refine ⟨rfl, ⟨_, _, v1, _, _, _, _, _, _, _, _, _, _, _, _, _, _, _, _, _, _, _, _, _, _, _, _, _, _, _, _, _, _, _, _, _, _, _, rfl, HQ.out, HO2.out, HB2.out⟩, ?_⟩
    show (sp.extract (k + 3) sp.size).size < sp.size
    omega
end Go.Proofs.YtndbhjgfaghelaaGreatDoor.Nt

/-
  PLAIN FACTS on paths: components that are dots.
-/
namespace Go.Proofs.YtndbhjgfaghelaaGreatDoor.Nt
open Go Go.RowKit
set_option linter.unusedVariables false
set_option maxRecDepth 1000000

def isdot (c : List UInt8) : Bool := c == [46] || c == [46, 46]
def kstep (k : List (List UInt8)) (c : List UInt8) : List (List UInt8) := if c = [46] then k else if c = [46, 46] then k.dropLast else k ++ [c]
def kf (l : List (List UInt8)) : List (List UInt8) := l.foldl kstep []
def fin (l : List (List UInt8)) : List (List UInt8) := if isdot (l.getD (l.length - 1) []) = true then kf l ++ [[]] else kf l
def slash (l : List (List UInt8)) : List UInt8 := l.flatMap (fun c => 47 :: c)
/-- The path without dots. -/
def pathd (l : List UInt8) : List UInt8 := slash (fin (Spc.spl 47 (l.drop 1)))
theorem take_more {l : List (List UInt8)} {k : Nat} (h : k < l.length) : l.take (k + 1) = l.take k ++ [l.getD k []] := by
  rw [List.take_succ_eq_append_getElem h, show l.getD k [] = l[k] by simp [List.getD, h]]
theorem kf_more {l : List (List UInt8)} {k : Nat} (h : k < l.length) : kf (l.take (k + 1)) = kstep (kf (l.take k)) (l.getD k []) := by
  unfold kf; rw [take_more h, List.foldl_append]; rfl
theorem kstep_len (k : List (List UInt8)) (c : List UInt8) : (kstep k c).length ≤ k.length + 1 := by
  unfold kstep; split
  · omega
  · split
    · rw [List.length_dropLast]; omega
    · simp
theorem kf_len (l : List (List UInt8)) (k : Nat) (hk : k ≤ l.length) : (kf (l.take k)).length ≤ k := by
  induction k with
  | zero => simp [kf]
  | succ k ih => rw [kf_more (by omega)]; have := kstep_len (kf (l.take k)) (l.getD k []); have := ih (by omega); omega
theorem fin_len (l : List (List UInt8)) : (fin l).length ≤ l.length + 1 := by
  have h := kf_len l l.length (Nat.le_refl _)
  rw [List.take_of_length_le (Nat.le_refl _)] at h
  unfold fin; split
  · rw [List.length_append]; simp; omega
  · omega
/-- The bytes of a list with one more a component. -/
def ws (l : List (List UInt8)) : Nat := (slash l).length
theorem ws_app (a b : List (List UInt8)) : ws (a ++ b) = ws a + ws b := by unfold ws slash; rw [List.flatMap_append, List.length_append]
theorem ws_one (c : List UInt8) : ws [c] = c.length + 1 := by unfold ws slash; simp
theorem ws_drop (l : List (List UInt8)) : ws l.dropLast ≤ ws l := by
  rcases List.eq_nil_or_concat l with rfl | ⟨a, x, rfl⟩
  · simp
  · rw [List.concat_eq_append, List.dropLast_concat, ws_app]; omega
theorem ws_kstep (k : List (List UInt8)) (c : List UInt8) : ws (kstep k c) ≤ ws k + ws [c] := by
  unfold kstep; split
  · omega
  · split
    · have := ws_drop k; omega
    · rw [ws_app]; omega
theorem ws_kf (l : List (List UInt8)) (k : Nat) (hk : k ≤ l.length) : ws (kf (l.take k)) ≤ ws (l.take k) := by
  induction k with
  | zero => simp [kf]
  | succ k ih => rw [kf_more (by omega), take_more (by omega), ws_app]; have := ws_kstep (kf (l.take k)) (l.getD k []); have := ih (by omega); omega
theorem ws_fin (l : List (List UInt8)) : ws (fin l) ≤ ws l + 1 := by
  have h := ws_kf l l.length (Nat.le_refl _)
  rw [List.take_of_length_le (Nat.le_refl _)] at h
  unfold fin; split
  · rw [ws_app, ws_one]; simp; omega
  · omega
theorem ws_push (p : List UInt8) : ∀ L : List (List UInt8), L ≠ [] → ws (Tx.push p L) = p.length + ws L
  | [], h => absurd rfl h
  | a :: r, _ => by unfold Tx.push ws slash; simp; omega
theorem ws_spl (c : UInt8) : ∀ l : List UInt8, ws (Spc.spl c l) = l.length + 1
  | [] => by simp [Spc.spl, ws_one]
  | x :: l => by
    unfold Spc.spl; split
    · rw [show ([] : List UInt8) :: Spc.spl c l = [[]] ++ Spc.spl c l from rfl, ws_app, ws_one, ws_spl c l]; simp; omega
    · rw [ws_push _ _ (Spc.spl_ne c l), ws_spl c l]; simp; omega
theorem pathd_len (l : List UInt8) : (pathd l).length ≤ l.length + 2 := by
  have h1 := ws_fin (Spc.spl 47 (l.drop 1))
  rw [ws_spl, List.length_drop] at h1
  show ws _ ≤ _; omega
/-- What stands at place k of the walk. -/
def kl (l : List (List UInt8)) (k : Nat) : List (List UInt8) := if k < l.length then kf (l.take k) else fin l
theorem kl_start {l : List (List UInt8)} (h : 0 < l.length) : kl l 0 = [] := by unfold kl; rw [if_pos h]; rfl
theorem kl_at {l : List (List UInt8)} {k : Nat} (h : k < l.length) : kl l k = kf (l.take k) := if_pos h
theorem kl_mid {l : List (List UInt8)} {k : Nat} (h : k + 1 < l.length) : kl l (k + 1) = kstep (kl l k) (l.getD k []) := by rw [kl_at h, kl_at (by omega), kf_more (by omega)]
theorem kl_last {l : List (List UInt8)} {k : Nat} (h : k + 1 = l.length) : kl l (k + 1) = if isdot (l.getD k []) = true then kstep (kl l k) (l.getD k []) ++ [[]] else kstep (kl l k) (l.getD k []) := by
  have h1 := kf_more (l := l) (k := k) (by omega)
  rw [List.take_of_length_le (by omega)] at h1
  rw [kl_at (show k < l.length by omega), ← h1]
  unfold kl fin; rw [if_neg (by omega), show l.length - 1 = k by omega]
theorem kl_all {l : List (List UInt8)} {k : Nat} (h : ¬ k < l.length) : kl l k = fin l := if_neg h
theorem kl_len (l : List (List UInt8)) (k : Nat) (hk : k ≤ l.length) : (kl l k).length ≤ l.length + 1 := by
  unfold kl; split
  · have := kf_len l k hk; omega
  · exact fin_len l
theorem kstep_dot (k : List (List UInt8)) : kstep k [46] = k := if_pos rfl
theorem kstep_two (k : List (List UInt8)) : kstep k [46, 46] = k.dropLast := by unfold kstep; rw [if_neg (by decide), if_pos rfl]
theorem kstep_other {k : List (List UInt8)} {c : List UInt8} (h1 : c ≠ [46]) (h2 : c ≠ [46, 46]) : kstep k c = k ++ [c] := by unfold kstep; rw [if_neg h1, if_neg h2]
theorem isdot_no {c : List UInt8} (h1 : c ≠ [46]) (h2 : c ≠ [46, 46]) : isdot c = false := by unfold isdot; simp [h1, h2]
theorem slash_more {l : List (List UInt8)} {k : Nat} (h : k < l.length) : slash (l.take (k + 1)) = slash (l.take k) ++ 47 :: l.getD k [] := by
  rw [take_more h]; unfold slash; rw [List.flatMap_append]; simp
theorem slash_all {l : List (List UInt8)} {k : Nat} (h : ¬ k < l.length) : slash (l.take k) = slash l := by rw [List.take_of_length_le (by omega)]
theorem slash_take (l : List (List UInt8)) (k : Nat) : (slash (l.take k)).length ≤ (slash l).length := by
  have : slash l = slash (l.take k) ++ slash (l.drop k) := by unfold slash; rw [← List.flatMap_append, List.take_append_drop]
  rw [this, List.length_append]; omega

/-! an own row of texts, one shorter -/
theorem pop_own {w : World} {B : Nat} {v : Value} {ks : List (List UInt8)} {x : List UInt8} (h : Strs.Own w B v (ks ++ [x])) : ∃ g cap, v = .slice (some ⟨g, 0, none⟩) (ks.length + 1) cap ∧ ks.length + 1 ≤ cap ∧ Strs.Own w B (.slice (some ⟨g, 0, none⟩) ks.length cap) ks := by
  have h' : w.ownsRow B 9 1 v (ks.length + 1) (Strs.svs ks ++ [Strs.sv x]) := by
    have := h; unfold Strs.Own at this; rw [List.length_append, Strs.svs_more] at this; exact this
  rcases h'.2 with ⟨rfl, h0⟩ | ⟨g, cap, cur, rfl, hg, hh, hn, hcap, hsz, ht⟩
  · omega
  · exact ⟨g, cap, rfl, hn, ownsRow_pop (by rw [Strs.svs_len, Nat.mul_one]) h'⟩
end Go.Proofs.YtndbhjgfaghelaaGreatDoor.Nt
