/-
  CONTRACTS AND PLAIN FACTS, several texts in one; each says in its own words what it proves.
-/
import Derived.Test.YtbbpepghkhfcbaaDoorPartI
import Derived.Test.YtbbpepghkhfcbaaDoorPartJ
import Derived.Outline
import Derived.Test.YtbbpepghkhfcbaaDoorPartG
set_option linter.unusedSimpArgs false
set_option linter.unusedVariables false

/-
  CONTRACTS of ParseTagList, the model's and the program's: the tags of a list, in memory of their own; nothing that was there before is changed.
-/
namespace Go.Proofs.YtbbpepghkhfcbaaDoor.Tgs
open Go Go.RowKit
set_option linter.unusedVariables false
set_option maxRecDepth 1000000

def tgs (xs : List (List UInt8)) : List T := xs.map (fun x => (ptag x).1)
def allOk (xs : List (List UInt8)) : Bool := xs.all (fun x => (ptag x).2)
def ptl (s : List UInt8) : List T × Bool × Bool :=
  if Tx.trim s = [42] then ([], true, true) else if allOk (Tx.split s) = true ∧ (1 ≤ (Tx.split s).length ∧ (Tx.split s).length ≤ 8) then (tgs (Tx.split s), false, true) else ([], false, false)
theorem ptl_star {s : List UInt8} (h : Tx.trim s = [42]) : ptl s = ([], true, true) := by unfold ptl; rw [if_pos h]
theorem ptl_yes {s : List UInt8} {xs : List (List UInt8)} (hx : Tx.split s = xs) (h : Tx.trim s ≠ [42]) (h2 : allOk xs = true) (h3 : 1 ≤ xs.length) (h4 : xs.length ≤ 8) : ptl s = (tgs xs, false, true) := by unfold ptl; rw [if_neg h, hx, if_pos ⟨h2, h3, h4⟩]
theorem ptl_no {s : List UInt8} {xs : List (List UInt8)} (hx : Tx.split s = xs) (h : Tx.trim s ≠ [42]) (h2 : allOk xs = false ∨ xs.length < 1 ∨ 8 < xs.length) : ptl s = ([], false, false) := by
  unfold ptl; rw [if_neg h, hx, if_neg (by rintro ⟨a, b, c⟩; rcases h2 with h2 | h2 | h2; rw [h2] at a; cases a; omega; omega)]
theorem tgs_more {xs : List (List UInt8)} {k : Nat} (h : k < xs.length) : tgs (xs.take (k + 1)) = tgs (xs.take k) ++ [(ptag (xs.getD k [])).1] := by
  unfold tgs; rw [List.take_succ_eq_append_getElem h, List.map_append]; simp [List.getD, h]
theorem ok_more {xs : List (List UInt8)} {k : Nat} (h : k < xs.length) (ha : allOk (xs.take k) = true) (hb : (ptag (xs.getD k [])).2 = true) : allOk (xs.take (k + 1)) = true := by
  unfold allOk at *; rw [List.take_succ_eq_append_getElem h, List.all_append, ha]; simp [List.getD, h] at hb ⊢; exact hb
theorem ok_bad {xs : List (List UInt8)} {k : Nat} (h : k < xs.length) (hb : (ptag (xs.getD k [])).2 = false) : allOk xs = false := by
  unfold allOk
  rw [Bool.eq_false_iff]
  intro ha
  rw [List.all_eq_true] at ha
  have := ha (xs.getD k []) (by rw [show xs.getD k [] = xs[k] by simp [List.getD, h]]; exact List.getElem_mem _)
  rw [hb] at this; cases this
theorem tgs_len (xs : List (List UInt8)) : (tgs xs).length = xs.length := by unfold tgs; simp
theorem take_full {xs : List (List UInt8)} {k : Nat} (h : ¬ k < xs.length) : xs.take k = xs := List.take_of_length_le (by omega)
theorem ptl_len (s : List UInt8) : (ptl s).1.length ≤ 8 := by
  unfold ptl
  split
  · simp
  · split
    · rename_i h; show (tgs (Tx.split s)).length ≤ 8; rw [tgs_len]; exact h.2.2
    · simp
def LstEnd (s : List UInt8) (w : World) (e : Ending) (w' : World) : Prop := ∃ v, e = .returned (.tuple #[v, .bool (ptl s).2.1, .bool (ptl s).2.2]) ∧ Own w' w.heap.size v (ptl s).1 ∧ Below w.heap.size w w'
theorem lst_ret {s : List UInt8} {m : List T} {a b : Bool} {w w' : World} {v : Value} (h : ptl s = (m, a, b)) (ho : Own w' w.heap.size v m) (hb : Below w.heap.size w w') : LstEnd s w (.returned (.tuple #[v, .bool a, .bool b])) w' := by
  unfold LstEnd; rw [h]; exact ⟨v, rfl, ho, hb⟩
/-- An empty slice of the call's own, made late. -/
theorem nil_late {w w1 : World} (hb : Below w.heap.size w w1) : Own (w1.alloc (.cells #[] 25)) w.heap.size (.slice (some ⟨w1.heap.size, 0, none⟩) 0 0) [] := own_mono (own_lit_nil w1) hb.size
theorem par_x {x : List UInt8} {a b : Bool} {t : List UInt8} (h : ptag x = ((a, t), b)) (hl : x.length ≤ 1048576) (W : World) :
    Calls Tryd.prog 6 #[.string ⟨x.toArray⟩] W fun e w' => e = .returned (.tuple #[.agg #[.bool a, .string ⟨t.toArray⟩], .bool b]) ∧ Below W.heap.size W w' := by
  have c := impl_ptag x W hl
  unfold ParEnd at c
  rw [h] at c
  exact c
set_option maxRecDepth 1000000 in
set_option maxHeartbeats 4000000 in
theorem impl_lst (l : List UInt8) (w : World) (hl : l.length ≤ 1048576) :
    Calls Tryd.prog 9 #[.string ⟨l.toArray⟩] w (LstEnd l w) := by
  obtain ⟨i0, hi, hz0, hz1, hz2⟩ := info_parts info_r
  have HT : Hid (∀ W : World, Calls Tryd.prog 19 #[.string ⟨l.toArray⟩] W fun e w' => e = .returned (.string ⟨(Tx.trim l).toArray⟩) ∧ Below W.heap.size W w') := Lib.hid (fun W => Tx.impl_trim_list l W (Nat.le_trans hl (by decide)))
  have HS := Lib.hid (fun W => Tx.impl_split ⟨l.toArray⟩ W (Nat.le_trans hl (by decide)))
  have HEL := Lib.hid (Tx.split_elem l)
  by_cases hst : Tx.trim l = [42]
  · have HE := Lib.hid (ptl_star hst)
    rw [hst] at HT
    clear hst HS HEL
    go_enter Tryd.func9, Tryd.ntmps9
    go_wp2_with (fail)
    go_at_call 19
    refine (HT.out _).mono ?_
    rintro e w0 ⟨rfl, hb0⟩
    have HN := Lib.hid (nil_late hb0)
    have HB := Lib.hid (hb0.alloc hb0.size (.cells #[] 25))
    clear hb0
    go_wp2
    go_ret3
    exact lst_ret HE.out HN.out HB.out
  have HNS := Lib.hid hst
  have hq : (Tx.trim l == [42]) = false := by simpa using hst
  generalize htr : Tx.trim l = tr at HT hq
  clear hst htr
  go_enter Tryd.func9, Tryd.ntmps9
  go_wp2_with (fail)
  go_at_call 19
  refine (HT.out _).mono ?_
  rintro e w0 ⟨rfl, hb0⟩
  have HB0 := Lib.hid hb0
  clear hb0 HT
  go_wp2_with (fail)
  go_at_call 20
  refine (HS.out _).mono ?_
  rintro e w1 ⟨vx, rfl, ox, hb1⟩
  have HOX : Hid (w1.ownsRow w.heap.size 9 1 vx (Tx.split l).length (Strs.svs (Tx.split l))) := Lib.hid (Rec.own_mono ox HB0.out.size)
  have HB := Lib.hid (Base.then_below HB0.out hb1)
  clear ox hb1 HS HB0
  obtain ⟨xs, hxs⟩ : ∃ xs, Tx.split l = xs := ⟨_, rfl⟩
  rw [hxs] at HOX HEL
  have HSP := Lib.hid hxs
  clear hxs
  obtain ⟨ax, cx, rfl, hax⟩ := Rec.shape_at HOX.out
  have HAX := Lib.hid hax
  clear hax
  by_cases h1 : (xs.length : Int) < 1
  · have HE := Lib.hid (ptl_no HSP.out HNS.out (Or.inr (Or.inl (by omega))))
    have HN := Lib.hid (nil_late HB.out)
    have HB2 := Lib.hid (HB.out.alloc HB.out.size (.cells #[] 25))
    go_wp2
    go_ret3
    exact lst_ret HE.out HN.out HB2.out
  by_cases h8 : 8 < (xs.length : Int)
  · have HE := Lib.hid (ptl_no HSP.out HNS.out (Or.inr (Or.inr (by omega))))
    have HN := Lib.hid (nil_late HB.out)
    have HB2 := Lib.hid (HB.out.alloc HB.out.size (.cells #[] 25))
    go_wp2
    go_ret3
    exact lst_ret HE.out HN.out HB2.out
  have HO := Lib.hid (nil_late HB.out)
  have HOX2 := Lib.hid (Rec.row_below HOX.out ((Below.refl w1.heap.size w1).alloc (Nat.le_refl _) (.cells #[] 25)))
  have HB2 := Lib.hid (HB.out.alloc HB.out.size (.cells #[] 25))
  go_wp2
  go_loopw [6, 29] (fun u i wr => ∃ k : Nat, k ≤ xs.length ∧ i = .int .i64 (k : Int) ∧ wr.ownsRow w.heap.size 25 2 u (tgs (xs.take k)).length (fcs (tgs (xs.take k))) ∧ wr.ownsRow w.heap.size 9 1 (.slice ax xs.length cx) xs.length (Strs.svs xs) ∧ Hid (allOk (xs.take k) = true) ∧ Below w.heap.size w wr) (fun _ i _ => xs.length - (intOf i).toNat)
  case atStart => exact ⟨0, Nat.zero_le _, rfl, HO.out, HOX2.out, Lib.hid rfl, HB2.out⟩
  case round =>
    clear HO HOX HB HOX2 HB2
    obtain ⟨k, hk, rfl, hown, hox, HOK, hb⟩ := hrel
    have HB := Lib.hid hb
    have HOX := Lib.hid hox
    have HO := Lib.hid hown
    clear hown hox hb
    by_cases hlt : k < xs.length
    · obtain ⟨gx, rfl⟩ := HAX.out (by omega)
      have c0 := Strs.own_cell HOX.out hlt
      have HXL : Hid ((xs.getD k []).length ≤ 1048576) := Lib.hid (Nat.le_trans (HEL.out _ (Rec.getD_mem (z := []) hlt)) hl)
      have HDL : Hid ((tgs (xs.take k)).length ≤ 1048577) := Lib.hid (by rw [tgs_len, List.length_take]; omega)
      unfold Strs.sv at c0
      have HMO := Lib.hid (tgs_more hlt)
      have HBD := Lib.hid (fun h => ptl_no HSP.out HNS.out (Or.inl (ok_bad (k := k) hlt h)))
      have HGD := Lib.hid (fun h => ok_more hlt HOK.out h)
      generalize xs.getD k [] = x at c0 HXL HMO HBD HGD
      obtain ⟨r, hr⟩ : ∃ r, ptag x = r := ⟨_, rfl⟩
      obtain ⟨⟨a, t⟩, b⟩ := r
      have HP := Lib.hid (par_x hr HXL.out)
      rw [hr] at HMO HBD HGD
      dsimp only at HMO HBD HGD
      clear hr
      cases b with
      | false =>
        have HE := Lib.hid (HBD.out rfl)
        clear HBD HGD HMO
        go_wp2_with (fail)
        go_at_call 6
        refine (HP.out _).mono ?_
        rintro e w2 ⟨rfl, hb2⟩
        have HB2 := Lib.hid ((Base.then_below HB.out hb2).alloc (Nat.le_trans HB.out.size hb2.size) (.cells #[.bool a, .string ⟨t.toArray⟩] 25))
        have HN := Lib.hid (nil_late HB2.out)
        have HB3 := Lib.hid (HB2.out.alloc HB2.out.size (.cells #[] 25))
        clear hb2
        go_wp2
        go_ret3
        exact lst_ret HE.out (by have h := HN.out; simp only [World.size_alloc] at h; exact h) HB3.out
      | true =>
        have HM := Lib.hid (HGD.out rfl)
        clear HBD HGD
        go_wp2_with (fail)
        go_at_call 6
        refine (HP.out _).mono ?_
        rintro e w2 ⟨rfl, hb2⟩
        have HO := Lib.hid (row_below HO.out hb2)
        have HOX := Lib.hid (Rec.row_below HOX.out hb2)
        have HB := Lib.hid (Base.then_below HB.out hb2)
        clear hb2 HP
        generalize tgs (xs.take k) = ds at HO HMO HDL
        have HA : Hid (Below w2.heap.size w2 (w2.alloc (.cells #[.bool a, .string ⟨t.toArray⟩] 25))) := Lib.hid ((Below.refl _ _).alloc (Nat.le_refl _) _)
        have hown := row_below HO.out HA.out
        have HOX := Lib.hid (Rec.row_below HOX.out HA.out)
        have HB := Lib.hid (Base.then_below HB.out HA.out)
        have HNE := Lib.hid (Rec.row_apart HOX.out hown (by decide))
        have hL := fcs_len ds
        have HNW := Lib.hid (Rec.news (w2.alloc (.cells #[.bool a, .string ⟨t.toArray⟩] 25)) [.bool a, .string ⟨t.toArray⟩] 25)
        go_wp2_with (at_builtin; refine wpList_append_own _ rfl (.tmp 41) (.tmp 43) 32 rfl w.heap.size 25 i0 (.agg #[.bool false, .string ⟨#[]⟩]) 2 24 Tryd.underlying32 hi hz0 hz1 hz2 rfl (by decide) _ _ _ rfl (hown.alloc _) ⟨w2.heap.size + 1, 0, none⟩ 1 1 [.bool a, .string ⟨t.toArray⟩] rfl rfl (by have h := HNW.out; rw [World.size_alloc] at h; exact h) (cs_one (a, t)) (by have := HDL.out; unfold maxLen; omega) (by have := HDL.out; omega) (by have := HB.out.size; simp at this ⊢; omega) ?_; intro v1 w3 hown1 hg1 _)
        have R := Lib.hid (push_own (f := (a, t)) hown HB.out (Nat.le_refl _) hown1 hg1)
        have HA2 := Lib.hid ((Below.refl (w2.alloc (.cells #[.bool a, .string ⟨t.toArray⟩] 25)).heap.size (w2.alloc (.cells #[.bool a, .string ⟨t.toArray⟩] 25))).alloc (Nat.le_refl _) (.cells #[.bool a, .string ⟨t.toArray⟩] 25))
        have ROX := Lib.hid (Rec.row_grown (Rec.row_below HOX.out HA2.out) hg1 HNE.out)
        clear hown hown1 hg1
        go_wp2
        go_roundw
        case rel => exact ⟨k + 1, by omega, by go_num, by rw [HMO.out]; exact R.out.1, ROX.out, HM, R.out.2⟩
        case measure => simp [intOf]; omega
    · have HF := Lib.hid (take_full hlt)
      have HE := Lib.hid (ptl_yes HSP.out HNS.out (by have h := HOK.out; rw [HF.out] at h; exact h) (by omega) (by omega))
      have HOF := Lib.hid (show World.ownsRow _ _ _ _ _ _ _ from by have h := HO.out; rw [HF.out] at h; exact h)
      go_wp2
      go_ret3
      exact lst_ret HE.out HOF.out HB.out

end Go.Proofs.YtbbpepghkhfcbaaDoor.Tgs

/-
  CONTRACTS of both sides' StrongSame and WeakSame; nothing that was there before is changed.
-/
namespace Go.Proofs.YtbbpepghkhfcbaaDoor.Tgs
open Go Go.RowKit
set_option linter.unusedVariables false
set_option maxRecDepth 1000000

def samestrong (f g : T) : Bool := !f.1 && (!g.1 && f.2 == g.2)
def sameweak (f g : T) : Bool := f.2 == g.2
theorem two_boxes (w : World) (a b : Array Value) (T1 : TypeId) : Below w.heap.size w ((w.alloc (.cells a T1)).alloc (.cells b T1)) := ((Below.refl _ _).alloc (Nat.le_refl _) _).alloc (by simp) _
theorem text_ne {y v : List UInt8} (h : y ≠ v) : ((⟨y.toArray⟩ : ByteArray) = ⟨v.toArray⟩) = False := by
  apply eq_false; intro e
  apply h
  have := congrArg (fun s : ByteArray => s.data.toList) e
  simpa using this

set_option maxHeartbeats 1000000 in
theorem impl_strong (x : Bool) (y : List UInt8) (u : Bool) (v : List UInt8) (w : World) :
    Calls Tryd.prog 13 #[.agg #[.bool x, .string ⟨y.toArray⟩], .agg #[.bool u, .string ⟨v.toArray⟩]] w (BoolEnd (samestrong (x, y) (u, v)) w) := by
  have HB := Lib.hid (two_boxes w #[.bool x, .string ⟨y.toArray⟩] #[.bool u, .string ⟨v.toArray⟩] 25)
  by_cases hyv : y = v
  · subst hyv
    cases x <;> cases u
    all_goals
      go_enter Tryd.func13, Tryd.ntmps13
      go_wp2
      go_ret
      exact ⟨ret_bool (by simp [samestrong]), HB.out⟩
  have HN : Hid (∀ p q, samestrong (p, y) (q, v) = false) := Lib.hid (fun p q => by simp [samestrong, hyv])
  cases x <;> cases u
  all_goals
    go_enter Tryd.func13, Tryd.ntmps13
    go_wp2
    go_ret
    exact ⟨ret_bool (by rw [HN.out]), HB.out⟩

set_option maxHeartbeats 1000000 in
theorem impl_weak (x : Bool) (y : List UInt8) (u : Bool) (v : List UInt8) (w : World) :
    Calls Tryd.prog 14 #[.agg #[.bool x, .string ⟨y.toArray⟩], .agg #[.bool u, .string ⟨v.toArray⟩]] w (BoolEnd (sameweak (x, y) (u, v)) w) := by
  have HB := Lib.hid (two_boxes w #[.bool x, .string ⟨y.toArray⟩] #[.bool u, .string ⟨v.toArray⟩] 25)
  by_cases hyv : y = v
  · subst hyv
    go_enter Tryd.func14, Tryd.ntmps14
    go_wp2
    go_ret
    exact ⟨ret_bool (by simp [sameweak]), two_boxes _ _ _ _⟩
  · have HN : Hid (sameweak (x, y) (u, v) = false) := Lib.hid (by simp [sameweak, hyv])
    go_enter Tryd.func14, Tryd.ntmps14
    go_wp2
    go_ret
    exact ⟨ret_bool (by rw [HN.out]), two_boxes _ _ _ _⟩
end Go.Proofs.YtbbpepghkhfcbaaDoor.Tgs

/-
  PLAIN FACTS for the law of chapter 7: a tag that is written is read back; what a list of tags gives.
-/
namespace Go.Proofs.YtbbpepghkhfcbaaDoor.Tgs
open Go Go.RowKit
set_option linter.unusedVariables false
set_option maxRecDepth 1000000

theorem inner_q (y : List UInt8) : inner ([34] ++ y ++ [34]) = (true, y) := by
  unfold inner
  have h1 : ([34] ++ y ++ [34] : List UInt8).length = y.length + 2 := by simp
  have h2 : ([34] ++ y ++ [34] : List UInt8).head? = some 34 := rfl
  have h3 : ([34] ++ y ++ [34] : List UInt8).getLast? = some 34 := by first | exact List.getLast?_concat | (rw [List.getLast?_append]; rfl) | simp [List.getLast?_append]
  have h4 : (([34] ++ y ++ [34] : List UInt8).drop 1).take (([34] ++ y ++ [34] : List UInt8).length - 2) = y := by rw [h1]; simp
  rw [h2, h3, h4, h1]
  simp
theorem ptag_yes (x : Bool) {y : List UInt8} (h : okt y = true) : ptag (ftag (x, y)) = ((x, y), true) := by
  cases x with
  | true =>
    rw [ftag_weak h, ptag_weak (by simp) (by simp), show ([87, 47, 34] ++ y ++ [34] : List UInt8).drop 2 = [34] ++ y ++ [34] by simp, inner_q]
    simp [h]
  | false =>
    rw [ftag_strong h, ptag_strong (by intro h2; have := h2.2; simp at this), inner_q]
    simp [h]
theorem ptag_no (x : Bool) {y : List UInt8} (h : okt y = false) : ptag (ftag (x, y)) = ((false, []), false) := by
  rw [ftag_no h, ptag_strong (by simp)]
  simp [inner]
theorem ftag_len (x : Bool) (y : List UInt8) : (ftag (x, y)).length ≤ y.length + 4 := by
  cases h : okt y with
  | false => rw [ftag_no h]; simp
  | true => cases x with
    | true => rw [ftag_weak h]; simp
    | false => rw [ftag_strong h]; simp
theorem ptag_okt {l : List UInt8} (h : (ptag l).2 = true) : okt (ptag l).1.2 = true := by
  rw [ptag_inner] at h ⊢
  split at h
  · rename_i hh
    rw [if_pos hh]
    simp at hh
    exact hh.2
  · cases h
theorem okt_len {l : List UInt8} (h : okt l = true) : l.length ≤ 40 := by
  unfold okt at h; simp at h; exact h.2
theorem ptl_ok (s : List UInt8) : ∀ f ∈ (ptl s).1, okt f.2 = true := by
  intro f hf
  by_cases h : Tx.trim s = [42]
  · rw [ptl_star h] at hf; cases hf
  · by_cases h2 : allOk (Tx.split s) = true ∧ 1 ≤ (Tx.split s).length ∧ (Tx.split s).length ≤ 8
    · rw [ptl_yes rfl h h2.1 h2.2.1 h2.2.2] at hf
      unfold tgs at hf
      obtain ⟨x, hx, rfl⟩ := List.mem_map.1 hf
      have := h2.1
      unfold allOk at this
      exact ptag_okt (List.all_eq_true.1 this x hx)
    · rw [ptl_no rfl h (by cases ha : allOk (Tx.split s) with | false => exact Or.inl rfl | true => right; rw [ha] at h2; simp at h2; omega)] at hf
      cases hf
theorem ptl_any (s : List UInt8) : ((ptl s).2.1 = true → (ptl s).2.2 = true ∧ (ptl s).1.length = 0) ∧ ((ptl s).2.2 = false → (ptl s).1.length = 0) := by
  by_cases h : Tx.trim s = [42]
  · rw [ptl_star h]; exact ⟨(fun _ => ⟨rfl, rfl⟩), (fun _ => rfl)⟩
  · by_cases h2 : allOk (Tx.split s) = true ∧ 1 ≤ (Tx.split s).length ∧ (Tx.split s).length ≤ 8
    · rw [ptl_yes rfl h h2.1 h2.2.1 h2.2.2]
      exact ⟨(fun e => Bool.noConfusion e), (fun e => Bool.noConfusion e)⟩
    · rw [ptl_no rfl h (by cases ha : allOk (Tx.split s) with | false => exact Or.inl rfl | true => right; rw [ha] at h2; simp at h2; omega)]
      exact ⟨(fun e => Bool.noConfusion e), (fun _ => rfl)⟩
theorem strong_weak (f g : T) (h : samestrong f g = true) : sameweak f g = true := by
  unfold samestrong at h; unfold sameweak
  simp at h ⊢; exact h.2.2
end Go.Proofs.YtbbpepghkhfcbaaDoor.Tgs

/-
  CONTRACTS of the draws of chapter 7 that a law calls (DrawFormatTag, DrawStrongSame, DrawParseTagList); nothing that was there before is changed.
-/
namespace Go.Proofs.YtbbpepghkhfcbaaDoor.Cur
open Go Go.RowKit
set_option linter.unusedVariables false
set_option maxRecDepth 1000000

theorem box_far {W w' : World} {c g : Nat} {a b : Value} {T : TypeId} (hW : W.heap[g]? = some (.cells #[a, b] T (0, 0))) (hg : W.grownBy w' (some c)) (hne : g ≠ c) :
    (w'.cell? ⟨g, 0, none⟩ = some a ∧ w'.cell? ⟨g, 1, none⟩ = some b) ∧ (w'.frozen? ⟨g, 0, none⟩ = false ∧ w'.frozen? ⟨g, 1, none⟩ = false) := by
  have hb := (hg.block g (lt_of_block hW) (by simpa using hne)).trans hW
  simp [World.cell?, World.frozen?, hb]
theorem box_new (w : World) (a b : Value) (T : TypeId) : (w.alloc (.cells #[a, b] T)).heap[w.heap.size]? = some (.cells #[a, b] T (0, 0)) := by
  show (w.heap.push _)[w.heap.size]? = _; simp
def OneTag (w : World) (e : Ending) (w' : World) : Prop := ∃ (b : Bool) (x : List UInt8), x.length ≤ 41 ∧ e = .returned (.agg #[.bool b, .string ⟨x.toArray⟩]) ∧ Below w.heap.size w w'
def TwoTags (w : World) (e : Ending) (w' : World) : Prop := ∃ (b : Bool) (x : List UInt8) (d : Bool) (y : List UInt8), x.length ≤ 41 ∧ y.length ≤ 41 ∧ e = .returned (.tuple #[.agg #[.bool b, .string ⟨x.toArray⟩], .agg #[.bool d, .string ⟨y.toArray⟩]]) ∧ Below w.heap.size w w'
def OneTx (m : Nat) (w : World) (e : Ending) (w' : World) : Prop := ∃ x : List UInt8, x.length ≤ m ∧ e = .returned (.string ⟨x.toArray⟩) ∧ Below w.heap.size w w'

set_option maxHeartbeats 2000000 in
theorem draw_ft (B : Nat) (bv : Value) (w : World) (hby : Bytes w B bv) (hB : B ≤ w.heap.size) :
    Calls Tryd.prog 5 #[bv] w (OneTag w) := by
  have hy0 := bytes_alloc hby (.cells #[.bool false, .string ⟨#[]⟩] 25)
  have hbx := box_new w (.bool false) (.string ⟨#[]⟩) 25
  have hbw : Below w.heap.size w (w.alloc (.cells #[.bool false, .string ⟨#[]⟩] 25)) := (Below.refl _ _).alloc (Nat.le_refl _) _
  have hsz : (w.alloc (.cells #[.bool false, .string ⟨#[]⟩] 25)).heap.size = w.heap.size + 1 := by simp
  have HMC := Lib.hid (fun h => made_cur bv h (w.alloc (.cells #[.bool false, .string ⟨#[]⟩] 25)))
  rw [hsz] at HMC
  have HBX := Lib.hid hbx
  have HBW := Lib.hid hbw
  clear hbx hbw
  go_enter Tryd.func5, Tryd.ntmps5
  go_wp2_with (fail)
  go_at_call 15
  refine (new_any B bv _ hy0).mono ?_
  rintro e w1 ⟨h, rfl, rfl⟩
  have hcu := HMC.out h
  have hby1 := bytes_alloc hy0 (.cells #[bv, .int .i64 0, .int .i64 h] 52)
  have HB1 := Lib.hid (HBW.out.alloc (by rw [hsz]; omega) (.cells #[bv, .int .i64 0, .int .i64 h] 52))
  have HX1 := Lib.hid ((Below.heap_alloc _ (.cells #[bv, .int .i64 0, .int .i64 h] 52) _ (show w.heap.size < (w.alloc (.cells #[.bool false, .string ⟨#[]⟩] 25)).heap.size by rw [hsz]; omega)).trans HBX.out)
  clear hy0 HMC HBX HBW
  go_wp2_with (fail)
  go_at_call 16
  refine (tag_any (w.heap.size + 1) B bv _ hcu hby1 (by omega)).mono ?_
  rintro e w2 ⟨b, x, hx, rfl, hc2, hg2⟩
  obtain ⟨⟨x0, x1⟩, ⟨f0, f1⟩⟩ := box_far HX1.out hg2 (by omega)
  have HB2 := Lib.hid (below_gb HB1.out hg2 HB1.out.size (by omega))
  have HL := Lib.hid hx
  clear hcu hby1 hc2 hg2 hx
  go_wp2
  refine bodyPost_ret (v := .agg #[.bool b, .string ⟨x.toArray⟩]) (by simp [results, Tryd.results5, go_sem, x0, x1]) rfl ⟨b, x, HL.out, rfl, Bys.below_set _ (Bys.below_set _ HB2.out (Nat.le_refl _)) (Nat.le_refl _)⟩

set_option maxHeartbeats 4000000 in
theorem draw_two (B : Nat) (bv : Value) (w : World) (hby : Bytes w B bv) (hB : B ≤ w.heap.size) :
    Calls Tryd.prog 8 #[bv] w (TwoTags w) := by
  have hy0 := bytes_alloc (bytes_alloc hby (.cells #[.bool false, .string ⟨#[]⟩] 25)) (.cells #[.bool false, .string ⟨#[]⟩] 25)
  have hbx := box_new w (.bool false) (.string ⟨#[]⟩) 25
  have hby' := box_new (w.alloc (.cells #[.bool false, .string ⟨#[]⟩] 25)) (.bool false) (.string ⟨#[]⟩) 25
  have hsz1 : (w.alloc (.cells #[.bool false, .string ⟨#[]⟩] 25)).heap.size = w.heap.size + 1 := by simp
  have hsz : ((w.alloc (.cells #[.bool false, .string ⟨#[]⟩] 25)).alloc (.cells #[.bool false, .string ⟨#[]⟩] 25)).heap.size = w.heap.size + 2 := by simp
  rw [hsz1] at hby'
  have hbx2 := (Below.heap_alloc (w.alloc (.cells #[.bool false, .string ⟨#[]⟩] 25)) (.cells #[.bool false, .string ⟨#[]⟩] 25) _ (show w.heap.size < (w.alloc (.cells #[.bool false, .string ⟨#[]⟩] 25)).heap.size by rw [hsz1]; omega)).trans hbx
  have hbw : Below w.heap.size w ((w.alloc (.cells #[.bool false, .string ⟨#[]⟩] 25)).alloc (.cells #[.bool false, .string ⟨#[]⟩] 25)) := ((Below.refl _ _).alloc (Nat.le_refl _) _).alloc (by simp) _
  have HMC := Lib.hid (fun h => made_cur bv h ((w.alloc (.cells #[.bool false, .string ⟨#[]⟩] 25)).alloc (.cells #[.bool false, .string ⟨#[]⟩] 25)))
  rw [hsz] at HMC
  have HBX := Lib.hid (And.intro hbx2 hby')
  have HBW := Lib.hid hbw
  clear hbx hbw hbx2 hby' hsz1
  go_enter Tryd.func8, Tryd.ntmps8
  go_wp2_with (fail)
  go_at_call 15
  refine (new_any B bv _ hy0).mono ?_
  rintro e w1 ⟨h, rfl, rfl⟩
  have hcu := HMC.out h
  have hby1 := bytes_alloc hy0 (.cells #[bv, .int .i64 0, .int .i64 h] 52)
  have HB1 := Lib.hid (HBW.out.alloc (by rw [hsz]; omega) (.cells #[bv, .int .i64 0, .int .i64 h] 52))
  have HX1 := Lib.hid ((Below.heap_alloc _ (.cells #[bv, .int .i64 0, .int .i64 h] 52) _ (show w.heap.size < ((w.alloc (.cells #[.bool false, .string ⟨#[]⟩] 25)).alloc (.cells #[.bool false, .string ⟨#[]⟩] 25)).heap.size by rw [hsz]; omega)).trans HBX.out.1)
  have HX2 := Lib.hid ((Below.heap_alloc _ (.cells #[bv, .int .i64 0, .int .i64 h] 52) _ (show w.heap.size + 1 < ((w.alloc (.cells #[.bool false, .string ⟨#[]⟩] 25)).alloc (.cells #[.bool false, .string ⟨#[]⟩] 25)).heap.size by rw [hsz]; omega)).trans HBX.out.2)
  clear hy0 HMC HBX HBW
  go_wp2_with (fail)
  go_at_call 16
  refine (tag_any (w.heap.size + 2) B bv _ hcu hby1 (by omega)).mono ?_
  rintro e w2 ⟨b, x, hx, rfl, hc2, hg2⟩
  have hy2 := bytes_kept hby1 hg2 (by omega)
  have HG2 := Lib.hid hg2
  have HL := Lib.hid hx
  clear hcu hby1 hg2 hx
  go_wp2_with (fail)
  go_at_call 16
  refine (tag_any (w.heap.size + 2) B bv _ hc2 hy2 (by omega)).mono ?_
  rintro e w3 ⟨d, y, hy, rfl, hc3, hg3⟩
  have hg := gb_trans HG2.out hg3
  obtain ⟨⟨x0, x1⟩, ⟨f0, f1⟩⟩ := box_far HX1.out hg (by omega)
  obtain ⟨⟨y0, y1⟩, ⟨g0, g1⟩⟩ := box_far HX2.out hg (by omega)
  have HB2 := Lib.hid (below_gb HB1.out hg HB1.out.size (by omega))
  have HL2 := Lib.hid hy
  clear hc2 hc3 hg3 hg hy hy2
  go_wp2
  refine bodyPost_ret (v := .tuple #[.agg #[.bool b, .string ⟨x.toArray⟩], .agg #[.bool d, .string ⟨y.toArray⟩]]) (by simp [results, Tryd.results8, go_sem, x0, x1, y0, y1]) rfl ⟨b, x, d, y, HL.out, HL2.out, rfl, Bys.below_set _ (Bys.below_set _ (Bys.below_set _ (Bys.below_set _ HB2.out (Nat.le_refl _)) (Nat.le_refl _)) (by omega)) (by omega)⟩

set_option maxHeartbeats 4000000 in
theorem draw_lst (B : Nat) (bv : Value) (w : World) (hby : Bytes w B bv) (hB : B ≤ w.heap.size) :
    Calls Tryd.prog 10 #[bv] w (OneTx 200 w) := by
  go_enter Tryd.func10, Tryd.ntmps10
  go_wp2_with (fail)
  go_at_call 15
  refine (new_any B bv _ hby).mono ?_
  rintro e w1 ⟨h, rfl, rfl⟩
  have hcu := made_cur bv h w
  have hby1 := bytes_alloc hby (.cells #[bv, .int .i64 0, .int .i64 h] 52)
  have hbw : Below w.heap.size w (w.alloc (.cells #[bv, .int .i64 0, .int .i64 h] 52)) := (Below.refl _ _).alloc (Nat.le_refl _) _
  go_wp2_with (fail)
  go_at_call 21
  refine (below_any w.heap.size B bv 5 _ hcu hby1 hB (by omega)).mono ?_
  rintro e w2 ⟨x, hx, rfl, hc2, hg2⟩
  obtain ⟨n, rfl, hn⟩ : ∃ n : Nat, x = (n : Int) ∧ n ≤ 4 := ⟨x.toNat, by have := hx.1; omega, by have := hx.1; have := hx.2; omega⟩
  have HI := Lib.hid (And.intro hc2 (And.intro (bytes_kept hby1 hg2 hB) (below_gb hbw hg2 hbw.size (Nat.le_refl _))))
  clear hx hc2 hg2 hby1 hbw hcu
  go_wp2
  go_loopw [4, 5] (fun s i wr => ∃ (k : Nat) (l : List UInt8), i = .int .i64 (k : Int) ∧ s = .string ⟨l.toArray⟩ ∧ l.length + 48 * k ≤ 192 ∧ Hid (CurAt wr w.heap.size bv) ∧ Hid (Bytes wr B bv) ∧ Hid (Below w.heap.size w wr)) (fun _ i _ => (intOf i).toNat)
  case atStart => exact ⟨n, [], rfl, rfl, by simp; omega, Lib.hid HI.out.1, Lib.hid HI.out.2.1, Lib.hid HI.out.2.2⟩
  case round =>
    clear HI
    obtain ⟨k, l, rfl, rfl, hl, HC, HY, HB⟩ := hrel
    by_cases hz : 0 < k
    · have hzi : 0 < (k : Int) := by omega
      go_wp2_with (fail)
      go_at_call 16
      refine (tag_any w.heap.size B bv _ HC.out HY.out hB).mono ?_
      rintro e w3 ⟨b, x, hx, rfl, hc3, hg3⟩
      have HB3 := Lib.hid (below_gb HB.out hg3 HB.out.size (Nat.le_refl _))
      have HC3 := Lib.hid hc3
      have HY3 := Lib.hid (bytes_kept HY.out hg3 hB)
      have hfl := Tgs.ftag_len b x
      have HF := Lib.hid (Tgs.spec_fmt b x w3 (by omega))
      unfold Tgs.TxtEnd at HF
      generalize Tgs.ftag (b, x) = fx at HF hfl
      clear hc3 hg3 HC HY HB
      go_wp2_with (fail)
      go_at_call 22
      refine HF.out.mono ?_
      rintro e w4 ⟨rfl, b4⟩
      have hc4 := cur_same HC3.out (b4.block _ (cur_lt HC3.out))
      have hy4 := bytes_below HY3.out (b4.mono (Nat.le_trans hB HB3.out.size))
      have HB4 := Lib.hid (Base.then_below HB3.out b4)
      have hadd1 := Tx.addtwo l fx (by omega)
      have hl1 : (l ++ fx).length ≤ l.length + 45 := by rw [List.length_append]; omega
      generalize l ++ fx = l1 at hadd1 hl1
      have H := str_lits w.heap.size B bv tseps 3 rfl w4 hc4 hy4 hB (by decide) (by decide) 9
      clear b4 HC3 HY3 HB3 HF
      go_wp2_with (fail)
      go_at_call 23
      refine H.mono ?_
      rintro e w5 ⟨z, hz', rfl, hc5, hg5⟩
      have hz8 := tseps_len z hz'
      have hadd2 := Tx.addtwo l1 z (by omega)
      have HC5 := Lib.hid hc5
      have HY5 := Lib.hid (bytes_kept hy4 hg5 hB)
      have HB5 := Lib.hid (below_gb HB4.out hg5 HB4.out.size (Nat.le_refl _))
      have HE := Lib.hid (show (l1 ++ z).length + 48 * (k - 1) ≤ 192 by rw [List.length_append]; omega)
      have HK := Lib.hid (show (k : Int) - 1 = ((k - 1 : Nat) : Int) by omega)
      clear hz' hc4 hy4 hc5 hg5 H hz8 hl1 hfl hx HB4
      go_wp2
      go_roundw
      case rel => exact ⟨k - 1, l1 ++ z, by rw [← HK.out], by simp, HE.out, HC5, HY5, HB5⟩
      case measure => simp [intOf]; omega
    · have hzi : ¬ 0 < (k : Int) := by omega
      have HL := Lib.hid (show l.length ≤ 192 by omega)
      clear hl
      go_wp2_with (fail)
      go_at_call 24
      refine (once_any w.heap.size B bv 6 _ HC.out HY.out hB (by omega)).mono ?_
      rintro e w3 ⟨q, rfl, hc3, hg3⟩
      have hy3 := bytes_kept HY.out hg3 hB
      have HB3 := Lib.hid (below_gb HB.out hg3 HB.out.size (Nat.le_refl _))
      clear HC HY HB hg3
      cases q with
      | true =>
        have H := str_lits w.heap.size B bv tstars 4 rfl w3 hc3 hy3 hB (by decide) (by decide) 9
        go_wp2_with (fail)
        go_at_call 23
        refine H.mono ?_
        rintro e w4 ⟨z, hz', rfl, hc4, hg4⟩
        have HZ := Lib.hid (Nat.le_trans (tstars_len z hz') (by decide : _ ≤ 200))
        have HB4 := Lib.hid (below_gb HB3.out hg4 HB3.out.size (Nat.le_refl _))
        clear hz' hc3 hy3 hc4 hg4 H
        go_wp2
        go_ret
        exact ⟨z, HZ.out, rfl, HB4.out⟩
      | false =>
        go_wp2_with (fail)
        go_at_call 25
        refine (bent_any w.heap.size B bv l w3 hc3 hy3 hB (by have := HL.out; omega)).mono ?_
        rintro e w4 ⟨z, hz', rfl, hc4, hg4⟩
        have HZ := Lib.hid (show z.length ≤ 200 by have := HL.out; have h2 : z.length ≤ l.length + 1 := hz'; omega)
        have HB4 := Lib.hid (below_gb HB3.out hg4 HB3.out.size (Nat.le_refl _))
        clear hz' hc3 hy3 hc4 hg4
        go_wp2
        go_ret
        exact ⟨z, HZ.out, rfl, HB4.out⟩
end Go.Proofs.YtbbpepghkhfcbaaDoor.Cur
