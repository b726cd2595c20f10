/-
  CONTRACTS AND PLAIN FACTS, several texts in one; each says in its own words what it proves.
-/
import Derived.Test.YtddpfhcmifnagaaGreatDoorPcY
import Derived.Test.YtddpfhcmifnagaaGreatDoorPcZ
import Derived.Test.YtddpfhcmifnagaaGreatDoorPcAB
import Derived.Test.YtddpfhcmifnagaaGreatDoorPcAC
import Derived.Test.YtddpfhcmifnagaaGreatDoorPcAA
import Derived.Outline

/-
  CONTRACTS of ParseTagList, the model's and the program's: the tags of a list, in memory of their own; nothing that was there before is changed.
-/
namespace Go.Proofs.YtddpfhcmifnagaaGreatDoor.Tgs
open Go Go.RowKit
set_option linter.unusedVariables false
set_option maxRecDepth 1000000

def tgs (xs : List (List UInt8)) : List T := xs.map (fun x => (ptag x).1)
def allOk (xs : List (List UInt8)) : Bool := xs.all (fun x => (ptag x).2)
def ptl (s : List UInt8) : List T × Bool × Bool :=
  if Tx.trim s = [42] then ([], true, true) else if allOk (Tx.split s) = true ∧ (1 ≤ (Tx.split s).length ∧ (Tx.split s).length ≤ 8) then (tgs (Tx.split s), false, true) else ([], false, false)
theorem ptl_star {s : List UInt8} (h : Tx.trim s = [42]) : ptl s = ([], true, true) := by unfold ptl; rw [if_pos h]
theorem ptl_yes {s : List UInt8} {xs : List (List UInt8)} (hx : Tx.split s = xs) (h : Tx.trim s ≠ [42]) (h2 : allOk xs = true) (h3 : 1 ≤ xs.length) (h4 : xs.length ≤ 8) : ptl s = (tgs xs, false, true) := by unfold ptl; rw [if_neg h, hx, if_pos ⟨h2, h3, h4⟩]
theorem ptl_no {s : List UInt8} {xs : List (List UInt8)} (hx : Tx.split s = xs) (h : Tx.trim s ≠ [42]) (h2 : allOk xs = false ∨ xs.length < 1 ∨ 8 < xs.length) : ptl s = ([], false, false) := by
  unfold ptl; rw [if_neg h, hx, if_neg (by rintro ⟨a, b, c⟩; rcases h2 with h2 | h2 | h2; rw [h2] at a; cases a; omega; omega)]
theorem tgs_more {xs : List (List UInt8)} {k : Nat} (h : k < xs.length) : tgs (xs.take (k + 1)) = tgs (xs.take k) ++ [(ptag (xs.getD k [])).1] := by
  unfold tgs; rw [List.take_succ_eq_append_getElem h, List.map_append]; simp [List.getD, h]
theorem ok_more {xs : List (List UInt8)} {k : Nat} (h : k < xs.length) (ha : allOk (xs.take k) = true) (hb : (ptag (xs.getD k [])).2 = true) : allOk (xs.take (k + 1)) = true := by
  unfold allOk at *; rw [List.take_succ_eq_append_getElem h, List.all_append, ha]; simp [List.getD, h] at hb ⊢; exact hb
theorem ok_bad {xs : List (List UInt8)} {k : Nat} (h : k < xs.length) (hb : (ptag (xs.getD k [])).2 = false) : allOk xs = false := by
  unfold allOk
  rw [Bool.eq_false_iff]
  intro ha
  rw [List.all_eq_true] at ha
  have := ha (xs.getD k []) (by rw [show xs.getD k [] = xs[k] by simp [List.getD, h]]; exact List.getElem_mem _)
  rw [hb] at this; cases this
theorem tgs_len (xs : List (List UInt8)) : (tgs xs).length = xs.length := by unfold tgs; simp
theorem take_full {xs : List (List UInt8)} {k : Nat} (h : ¬ k < xs.length) : xs.take k = xs := List.take_of_length_le (by omega)
theorem ptl_len (s : List UInt8) : (ptl s).1.length ≤ 8 := by
  unfold ptl
  split
  · simp
  · split
    · rename_i h; show (tgs (Tx.split s)).length ≤ 8; rw [tgs_len]; exact h.2.2
    · simp
def LstEnd (s : List UInt8) (w : World) (e : Ending) (w' : World) : Prop := ∃ v, e = .returned (.tuple #[v, .bool (ptl s).2.1, .bool (ptl s).2.2]) ∧ Own w' w.heap.size v (ptl s).1 ∧ Below w.heap.size w w'
theorem lst_ret {s : List UInt8} {m : List T} {a b : Bool} {w w' : World} {v : Value} (h : ptl s = (m, a, b)) (ho : Own w' w.heap.size v m) (hb : Below w.heap.size w w') : LstEnd s w (.returned (.tuple #[v, .bool a, .bool b])) w' := by
  unfold LstEnd; rw [h]; exact ⟨v, rfl, ho, hb⟩
/-- An empty slice of the call's own, made late. -/
theorem nil_late {w w1 : World} (hb : Below w.heap.size w w1) : Own (w1.alloc (.cells #[] 62)) w.heap.size (.slice (some ⟨w1.heap.size, 0, none⟩) 0 0) [] := own_mono (own_lit_nil w1) hb.size
theorem par_x {x : List UInt8} {a b : Bool} {t : List UInt8} (h : ptag x = ((a, t), b)) (hl : x.length ≤ 1048576) (W : World) :
    Calls Tryz.prog 99 #[.string ⟨x.toArray⟩] W fun e w' => e = .returned (.tuple #[.agg #[.bool a, .string ⟨t.toArray⟩], .bool b]) ∧ Below W.heap.size W w' := by
  have c := impl_ptag x W hl
  unfold ParEnd at c
  rw [h] at c
  exact c
theorem par_s {x : List UInt8} {a b : Bool} {t : List UInt8} (h : ptag x = ((a, t), b)) (hl : x.length ≤ 1048576) (W : World) :
    Calls Tryz.prog 34 #[.string ⟨x.toArray⟩] W fun e w' => e = .returned (.tuple #[.agg #[.bool a, .string ⟨t.toArray⟩], .bool b]) ∧ Below W.heap.size W w' := by
  have c := spec_ptag x W hl
  unfold ParEnd at c
  rw [h] at c
  exact c

set_option maxRecDepth 1000000 in
set_option maxHeartbeats 4000000 in
theorem impl_lst (l : List UInt8) (w : World) (hl : l.length ≤ 1048576) :
    Calls Tryz.prog 69 #[.string ⟨l.toArray⟩] w (LstEnd l w) := by
  obtain ⟨i0, hi, hz0, hz1, hz2⟩ := info_parts info_r
  have HT : Hid (∀ W : World, Calls Tryz.prog 97 #[.string ⟨l.toArray⟩] W fun e w' => e = .returned (.string ⟨(Tx.trim l).toArray⟩) ∧ Below W.heap.size W w') := Lib.hid (fun W => Tx.impl_trim_list l W (Nat.le_trans hl (by decide)))
  have HS := Lib.hid (fun W => Tx.impl_split ⟨l.toArray⟩ W (Nat.le_trans hl (by decide)))
  have HEL := Lib.hid (Tx.split_elem l)
  by_cases hst : Tx.trim l = [42]
  · have HE := Lib.hid (ptl_star hst)
    rw [hst] at HT
    clear hst HS HEL
    go_enter Tryz.func69, Tryz.ntmps69
    go_wp2_with (fail)
    go_at_call 97
    refine (HT.out _).mono ?_
    rintro e w0 ⟨rfl, hb0⟩
    have HN := Lib.hid (nil_late hb0)
    have HB := Lib.hid (hb0.alloc hb0.size (.cells #[] 62))
    clear hb0
    go_wp2
    go_ret3
    exact lst_ret HE.out HN.out HB.out
  have HNS := Lib.hid hst
  have hq : (Tx.trim l == [42]) = false := by simpa using hst
  generalize htr : Tx.trim l = tr at HT hq
  clear hst htr
  go_enter Tryz.func69, Tryz.ntmps69
  go_wp2_with (fail)
  go_at_call 97
  refine (HT.out _).mono ?_
  rintro e w0 ⟨rfl, hb0⟩
  have HB0 := Lib.hid hb0
  clear hb0 HT
  go_wp2_with (fail)
  go_at_call 98
  refine (HS.out _).mono ?_
  rintro e w1 ⟨vx, rfl, ox, hb1⟩
  have HOX : Hid (w1.ownsRow w.heap.size 9 1 vx (Tx.split l).length (Strs.svs (Tx.split l))) := Lib.hid (Rec.own_mono ox HB0.out.size)
  have HB := Lib.hid (Base.then_below HB0.out hb1)
  clear ox hb1 HS HB0
  obtain ⟨xs, hxs⟩ : ∃ xs, Tx.split l = xs := ⟨_, rfl⟩
  rw [hxs] at HOX HEL
  have HSP := Lib.hid hxs
  clear hxs
  obtain ⟨ax, cx, rfl, hax⟩ := Rec.shape_at HOX.out
  have HAX := Lib.hid hax
  clear hax
  by_cases h1 : (xs.length : Int) < 1
  · have HE := Lib.hid (ptl_no HSP.out HNS.out (Or.inr (Or.inl (by omega))))
    have HN := Lib.hid (nil_late HB.out)
    have HB2 := Lib.hid (HB.out.alloc HB.out.size (.cells #[] 62))
    go_wp2
    go_ret3
    exact lst_ret HE.out HN.out HB2.out
  by_cases h8 : 8 < (xs.length : Int)
  · have HE := Lib.hid (ptl_no HSP.out HNS.out (Or.inr (Or.inr (by omega))))
    have HN := Lib.hid (nil_late HB.out)
    have HB2 := Lib.hid (HB.out.alloc HB.out.size (.cells #[] 62))
    go_wp2
    go_ret3
    exact lst_ret HE.out HN.out HB2.out
  have HO := Lib.hid (nil_late HB.out)
  have HOX2 := Lib.hid (Rec.row_below HOX.out ((Below.refl w1.heap.size w1).alloc (Nat.le_refl _) (.cells #[] 62)))
  have HB2 := Lib.hid (HB.out.alloc HB.out.size (.cells #[] 62))
  go_wp2
  go_loopw [6, 29] (fun u i wr => ∃ k : Nat, k ≤ xs.length ∧ i = .int .i64 (k : Int) ∧ wr.ownsRow w.heap.size 62 2 u (tgs (xs.take k)).length (fcs (tgs (xs.take k))) ∧ wr.ownsRow w.heap.size 9 1 (.slice ax xs.length cx) xs.length (Strs.svs xs) ∧ Hid (allOk (xs.take k) = true) ∧ Below w.heap.size w wr) (fun _ i _ => xs.length - (intOf i).toNat)
  case atStart => exact ⟨0, Nat.zero_le _, rfl, HO.out, HOX2.out, Lib.hid rfl, HB2.out⟩
  case round =>
    clear HO HOX HB HOX2 HB2
    obtain ⟨k, hk, rfl, hown, hox, HOK, hb⟩ := hrel
    have HB := Lib.hid hb
    have HOX := Lib.hid hox
    have HO := Lib.hid hown
    clear hown hox hb
    by_cases hlt : k < xs.length
    · obtain ⟨gx, rfl⟩ := HAX.out (by omega)
      have c0 := Strs.own_cell HOX.out hlt
      have HXL : Hid ((xs.getD k []).length ≤ 1048576) := Lib.hid (Nat.le_trans (HEL.out _ (Rec.getD_mem (z := []) hlt)) hl)
      have HDL : Hid ((tgs (xs.take k)).length ≤ 1048577) := Lib.hid (by rw [tgs_len, List.length_take]; omega)
      unfold Strs.sv at c0
      have HMO := Lib.hid (tgs_more hlt)
      have HBD := Lib.hid (fun h => ptl_no HSP.out HNS.out (Or.inl (ok_bad (k := k) hlt h)))
      have HGD := Lib.hid (fun h => ok_more hlt HOK.out h)
      generalize xs.getD k [] = x at c0 HXL HMO HBD HGD
      obtain ⟨r, hr⟩ : ∃ r, ptag x = r := ⟨_, rfl⟩
      obtain ⟨⟨a, t⟩, b⟩ := r
      have HP := Lib.hid (par_x hr HXL.out)
      rw [hr] at HMO HBD HGD
      dsimp only at HMO HBD HGD
      clear hr
      cases b with
      | false =>
        have HE := Lib.hid (HBD.out rfl)
        clear HBD HGD HMO
        go_wp2_with (fail)
        go_at_call 99
        refine (HP.out _).mono ?_
        rintro e w2 ⟨rfl, hb2⟩
        have HB2 := Lib.hid ((Base.then_below HB.out hb2).alloc (Nat.le_trans HB.out.size hb2.size) (.cells #[.bool a, .string ⟨t.toArray⟩] 62))
        have HN := Lib.hid (nil_late HB2.out)
        have HB3 := Lib.hid (HB2.out.alloc HB2.out.size (.cells #[] 62))
        clear hb2
        go_wp2
        go_ret3
        exact lst_ret HE.out (by have h := HN.out; simp only [World.size_alloc] at h; exact h) HB3.out
      | true =>
        have HM := Lib.hid (HGD.out rfl)
        clear HBD HGD
        go_wp2_with (fail)
        go_at_call 99
        refine (HP.out _).mono ?_
        rintro e w2 ⟨rfl, hb2⟩
        have HO := Lib.hid (row_below HO.out hb2)
        have HOX := Lib.hid (Rec.row_below HOX.out hb2)
        have HB := Lib.hid (Base.then_below HB.out hb2)
        clear hb2 HP
        generalize tgs (xs.take k) = ds at HO HMO HDL
        have HA : Hid (Below w2.heap.size w2 (w2.alloc (.cells #[.bool a, .string ⟨t.toArray⟩] 62))) := Lib.hid ((Below.refl _ _).alloc (Nat.le_refl _) _)
        have hown := row_below HO.out HA.out
        have HOX := Lib.hid (Rec.row_below HOX.out HA.out)
        have HB := Lib.hid (Base.then_below HB.out HA.out)
        have HNE := Lib.hid (Rec.row_apart HOX.out hown (by decide))
        have hL := fcs_len ds
        have HNW := Lib.hid (Rec.news (w2.alloc (.cells #[.bool a, .string ⟨t.toArray⟩] 62)) [.bool a, .string ⟨t.toArray⟩] 62)
        go_wp2_with (at_builtin; refine wpList_append_own _ rfl (.tmp 41) (.tmp 43) 95 rfl w.heap.size 62 i0 (.agg #[.bool false, .string ⟨#[]⟩]) 2 24 Tryz.underlying95 hi hz0 hz1 hz2 rfl (by decide) _ _ _ rfl (hown.alloc _) ⟨w2.heap.size + 1, 0, none⟩ 1 1 [.bool a, .string ⟨t.toArray⟩] rfl rfl (by have h := HNW.out; rw [World.size_alloc] at h; exact h) (cs_one (a, t)) (by have := HDL.out; unfold maxLen; omega) (by have := HDL.out; omega) (by have := HB.out.size; simp at this ⊢; omega) ?_; intro v1 w3 hown1 hg1 _)
        have R := Lib.hid (push_own (f := (a, t)) hown HB.out (Nat.le_refl _) hown1 hg1)
        have HA2 := Lib.hid ((Below.refl (w2.alloc (.cells #[.bool a, .string ⟨t.toArray⟩] 62)).heap.size (w2.alloc (.cells #[.bool a, .string ⟨t.toArray⟩] 62))).alloc (Nat.le_refl _) (.cells #[.bool a, .string ⟨t.toArray⟩] 62))
        have ROX := Lib.hid (Rec.row_grown (Rec.row_below HOX.out HA2.out) hg1 HNE.out)
        clear hown hown1 hg1
        go_wp2
        go_roundw
        case rel => exact ⟨k + 1, by omega, by go_num, by rw [HMO.out]; exact R.out.1, ROX.out, HM, R.out.2⟩
        case measure => simp [intOf]; omega
    · have HF := Lib.hid (take_full hlt)
      have HE := Lib.hid (ptl_yes HSP.out HNS.out (by have h := HOK.out; rw [HF.out] at h; exact h) (by omega) (by omega))
      have HOF := Lib.hid (show World.ownsRow _ _ _ _ _ _ _ from by have h := HO.out; rw [HF.out] at h; exact h)
      go_wp2
      go_ret3
      exact lst_ret HE.out HOF.out HB.out

set_option maxRecDepth 1000000 in
set_option maxHeartbeats 4000000 in
theorem spec_lst (l : List UInt8) (w : World) (hl : l.length ≤ 1048576) :
    Calls Tryz.prog 65 #[.string ⟨l.toArray⟩] w (LstEnd l w) := by
  obtain ⟨i0, hi, hz0, hz1, hz2⟩ := info_parts info_r
  have HT : Hid (∀ W : World, Calls Tryz.prog 93 #[.string ⟨l.toArray⟩] W fun e w' => e = .returned (.string ⟨(Tx.trim l).toArray⟩) ∧ w' = W) := Lib.hid (fun W => Tx.spec_trim' ⟨l.toArray⟩ W (by rw [bsz]; omega))
  have HS := Lib.hid (fun W => Tx.spec_split ⟨l.toArray⟩ W (Nat.le_trans hl (by decide)))
  have HEL := Lib.hid (Tx.split_elem l)
  have HO0 := Lib.hid (own_lit_nil w)
  have HB0 := Lib.hid ((Below.refl w.heap.size w).alloc (Nat.le_refl _) (.cells #[] 62))
  by_cases hst : Tx.trim l = [42]
  · have HE := Lib.hid (ptl_star hst)
    rw [hst] at HT
    clear hst HS HEL
    go_enter Tryz.func65, Tryz.ntmps65
    go_wp2_with (fail)
    go_at_call 93
    refine (HT.out _).mono ?_
    rintro e w0 ⟨rfl, hw⟩
    rw [hw]
    clear hw
    go_wp2
    go_ret3
    exact lst_ret HE.out HO0.out HB0.out
  have HNS := Lib.hid hst
  have hq : (Tx.trim l == [42]) = false := by simpa using hst
  generalize htr : Tx.trim l = tr at HT hq
  clear hst htr
  go_enter Tryz.func65, Tryz.ntmps65
  go_wp2_with (fail)
  go_at_call 93
  refine (HT.out _).mono ?_
  rintro e w0 ⟨rfl, hw⟩
  rw [hw]
  clear hw HT
  go_wp2_with (fail)
  go_at_call 77
  refine (HS.out _).mono ?_
  rintro e w1 ⟨vx, rfl, ox, hb1⟩
  have HOX : Hid (w1.ownsRow w.heap.size 9 1 vx (Tx.split l).length (Strs.svs (Tx.split l))) := Lib.hid (Rec.own_mono ox HB0.out.size)
  have HO := Lib.hid (row_below HO0.out hb1)
  have HB := Lib.hid (Base.then_below HB0.out hb1)
  clear ox hb1 HS HB0 HO0
  obtain ⟨xs, hxs⟩ : ∃ xs, Tx.split l = xs := ⟨_, rfl⟩
  rw [hxs] at HOX HEL
  have HSP := Lib.hid hxs
  clear hxs
  obtain ⟨ax, cx, rfl, hax⟩ := Rec.shape_at HOX.out
  have HAX := Lib.hid hax
  clear hax
  go_wp2
  go_loopw [5, 7] (fun u i wr => ∃ k : Nat, k ≤ xs.length ∧ k ≤ 8 ∧ i = .int .i64 (k : Int) ∧ wr.ownsRow w.heap.size 62 2 u (tgs (xs.take k)).length (fcs (tgs (xs.take k))) ∧ wr.ownsRow w.heap.size 9 1 (.slice ax xs.length cx) xs.length (Strs.svs xs) ∧ Hid (allOk (xs.take k) = true) ∧ Below w.heap.size w wr) (fun _ i _ => xs.length - (intOf i).toNat)
  case atStart => exact ⟨0, Nat.zero_le _, by omega, rfl, HO.out, HOX.out, Lib.hid rfl, HB.out⟩
  case round =>
    clear HO HOX HB
    obtain ⟨k, hk, hk8, rfl, hown, hox, HOK, hb⟩ := hrel
    have HB := Lib.hid hb
    have HOX := Lib.hid hox
    have HO := Lib.hid hown
    clear hown hox hb
    by_cases hlt : k < xs.length
    · obtain ⟨gx, rfl⟩ := HAX.out (by omega)
      have c0 := Strs.own_cell HOX.out hlt
      have HXL : Hid ((xs.getD k []).length ≤ 1048576) := Lib.hid (Nat.le_trans (HEL.out _ (Rec.getD_mem (z := []) hlt)) hl)
      have HDL : Hid ((tgs (xs.take k)).length ≤ 1048577) := Lib.hid (by rw [tgs_len, List.length_take]; omega)
      unfold Strs.sv at c0
      have HMO := Lib.hid (tgs_more hlt)
      have HBD := Lib.hid (fun h => ptl_no HSP.out HNS.out (Or.inl (ok_bad (k := k) hlt h)))
      have HGD := Lib.hid (fun h => ok_more hlt HOK.out h)
      generalize xs.getD k [] = x at c0 HXL HMO HBD HGD
      obtain ⟨r, hr⟩ : ∃ r, ptag x = r := ⟨_, rfl⟩
      obtain ⟨⟨a, t⟩, b⟩ := r
      have HP := Lib.hid (par_s hr HXL.out)
      rw [hr] at HMO HBD HGD
      dsimp only at HMO HBD HGD
      clear hr
      cases b with
      | false =>
        have HE := Lib.hid (HBD.out rfl)
        clear HBD HGD HMO
        go_wp2_with (fail)
        go_at_call 34
        refine (HP.out _).mono ?_
        rintro e w2 ⟨rfl, hb2⟩
        have HB2 := Lib.hid ((Base.then_below HB.out hb2).alloc (Nat.le_trans HB.out.size hb2.size) (.cells #[.bool a, .string ⟨t.toArray⟩] 62))
        have HN := Lib.hid (nil_late HB2.out)
        have HB3 := Lib.hid (HB2.out.alloc HB2.out.size (.cells #[] 62))
        clear hb2
        go_wp2
        go_ret3
        exact lst_ret HE.out (by have h := HN.out; simp only [World.size_alloc] at h; exact h) HB3.out
      | true =>
        have HM := Lib.hid (HGD.out rfl)
        clear HBD HGD
        by_cases h8 : (k : Int) < 8
        case neg =>
          have HE := Lib.hid (ptl_no HSP.out HNS.out (Or.inr (Or.inr (by omega))))
          go_wp2_with (fail)
          go_at_call 34
          refine (HP.out _).mono ?_
          rintro e w2 ⟨rfl, hb2⟩
          have HB2 := Lib.hid ((Base.then_below HB.out hb2).alloc (Nat.le_trans HB.out.size hb2.size) (.cells #[.bool a, .string ⟨t.toArray⟩] 62))
          have HN := Lib.hid (nil_late HB2.out)
          have HB3 := Lib.hid (HB2.out.alloc HB2.out.size (.cells #[] 62))
          clear hb2
          go_wp2
          go_ret3
          exact lst_ret HE.out (by have h := HN.out; simp only [World.size_alloc] at h; exact h) HB3.out
        go_wp2_with (fail)
        go_at_call 34
        refine (HP.out _).mono ?_
        rintro e w2 ⟨rfl, hb2⟩
        have HO := Lib.hid (row_below HO.out hb2)
        have HOX := Lib.hid (Rec.row_below HOX.out hb2)
        have HB := Lib.hid (Base.then_below HB.out hb2)
        clear hb2 HP
        generalize tgs (xs.take k) = ds at HO HMO HDL
        have HA : Hid (Below w2.heap.size w2 (w2.alloc (.cells #[.bool a, .string ⟨t.toArray⟩] 62))) := Lib.hid ((Below.refl _ _).alloc (Nat.le_refl _) _)
        have hown := row_below HO.out HA.out
        have HOX := Lib.hid (Rec.row_below HOX.out HA.out)
        have HB := Lib.hid (Base.then_below HB.out HA.out)
        have HNE := Lib.hid (Rec.row_apart HOX.out hown (by decide))
        have hL := fcs_len ds
        have HNW := Lib.hid (Rec.news (w2.alloc (.cells #[.bool a, .string ⟨t.toArray⟩] 62)) [.bool a, .string ⟨t.toArray⟩] 62)
        go_wp2_with (at_builtin; refine wpList_append_own _ rfl (.tmp 38) (.tmp 40) 95 rfl w.heap.size 62 i0 (.agg #[.bool false, .string ⟨#[]⟩]) 2 24 Tryz.underlying95 hi hz0 hz1 hz2 rfl (by decide) _ _ _ rfl (hown.alloc _) ⟨w2.heap.size + 1, 0, none⟩ 1 1 [.bool a, .string ⟨t.toArray⟩] rfl rfl (by have h := HNW.out; rw [World.size_alloc] at h; exact h) (cs_one (a, t)) (by have := HDL.out; unfold maxLen; omega) (by have := HDL.out; omega) (by have := HB.out.size; simp at this ⊢; omega) ?_; intro v1 w3 hown1 hg1 _)
        have R := Lib.hid (push_own (f := (a, t)) hown HB.out (Nat.le_refl _) hown1 hg1)
        have HA2 := Lib.hid ((Below.refl (w2.alloc (.cells #[.bool a, .string ⟨t.toArray⟩] 62)).heap.size (w2.alloc (.cells #[.bool a, .string ⟨t.toArray⟩] 62))).alloc (Nat.le_refl _) (.cells #[.bool a, .string ⟨t.toArray⟩] 62))
        have ROX := Lib.hid (Rec.row_grown (Rec.row_below HOX.out HA2.out) hg1 HNE.out)
        clear hown hown1 hg1
        go_wp2
        go_roundw
        case rel => exact ⟨k + 1, by omega, by omega, by go_num, by rw [HMO.out]; exact R.out.1, ROX.out, HM, R.out.2⟩
        case measure => simp [intOf]; omega
    · have HF := Lib.hid (take_full hlt)
      have HOF := Lib.hid (show World.ownsRow _ _ _ _ _ _ _ from by have h := HO.out; rw [HF.out] at h; exact h)
      obtain ⟨au, cu, rfl, _⟩ := Rec.shape_at HOF.out
      by_cases h0 : 0 < ((tgs xs).length : Int)
      · have HE := Lib.hid (ptl_yes HSP.out HNS.out (by have h := HOK.out; rw [HF.out] at h; exact h) (by rw [tgs_len] at h0; omega) (by omega))
        clear HO
        generalize tgs xs = ds at *
        go_wp2
        go_ret3
        exact lst_ret (by rw [decide_eq_true (by omega)]; exact HE.out) HOF.out HB.out
      · have HE := Lib.hid (ptl_no HSP.out HNS.out (Or.inr (Or.inl (by rw [tgs_len] at h0; omega))))
        have HOF : Hid (Own wr w.heap.size (.slice au (tgs xs).length cu) []) := Lib.hid (by have h := HOF.out; rw [show tgs xs = [] from List.eq_nil_of_length_eq_zero (by omega)] at h ⊢; exact h)
        clear HO
        generalize (tgs xs).length = n at *
        go_wp2
        go_ret3
        exact lst_ret (by rw [decide_eq_false (by omega)]; exact HE.out) HOF.out HB.out
end Go.Proofs.YtddpfhcmifnagaaGreatDoor.Tgs
