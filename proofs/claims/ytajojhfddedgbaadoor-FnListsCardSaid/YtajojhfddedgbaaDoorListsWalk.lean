/-
  THE WALK of the law of chapter 4.
-/
import Derived.Test.YtajojhfddedgbaaDoorDrawList
import Derived.Test.YtajojhfddedgbaaDoorSameTexts
import Derived.Test.YtajojhfddedgbaaDoorLowI
import Derived.Test.YtajojhfddedgbaaDoorQuoI
import Derived.Test.YtajojhfddedgbaaDoorUnqI
import Derived.Test.YtajojhfddedgbaaDoorJoinI
import Derived.Test.YtajojhfddedgbaaDoorPairFn
import Derived.Test.YtajojhfddedgbaaDoorSplImpl
import Derived.Test.YtajojhfddedgbaaDoorSplSpec
import Derived.Deep.RegionWith
import Derived.RegionTactic
namespace Go.Proofs.YtajojhfddedgbaaDoor.fnLists
open Go Go.RowKit Strs
set_option linter.unusedVariables false

theorem quote_l (l : List UInt8) (w : World) (h : l.length ≤ 1048576) : Calls Tryd.prog 10 #[.string ⟨l.toArray⟩] w fun e w' => e = .returned (.string ⟨(Tx.quo l).toArray⟩) ∧ Below w.heap.size w w' := Tx.impl_quote ⟨l.toArray⟩ w h
theorem unquote_l (l : List UInt8) (w : World) (h : l.length ≤ 500000) : Calls Tryd.prog 9 #[.string ⟨(Tx.quo l).toArray⟩] w fun e w' => e = .returned (.tuple #[.string ⟨l.toArray⟩, .bool true]) ∧ Below w.heap.size w w' := by
  have hq : (Tx.quo l).length ≤ 1048576 := by
    unfold Tx.quo; have := Tx.flat_len l; simp only [List.length_cons, List.length_append, List.length_nil]; omega
  have c := Tx.impl_unquote ⟨(Tx.quo l).toArray⟩ w hq
  obtain ⟨h1, h2⟩ := Tx.unq_of_quo l
  refine c.mono ?_
  rintro e w' ⟨he, hb⟩
  refine ⟨?_, hb⟩
  rw [he]
  show Ending.returned (.tuple #[.string ⟨(Tx.unqText (Tx.quo l)).toArray⟩, .bool (Tx.unqOk (Tx.quo l))]) = _
  rw [h1, h2]
theorem split_l (l : List UInt8) (w : World) (h : l.length ≤ 1048576) : Calls Tryd.prog 11 #[.string ⟨l.toArray⟩] w (Tx.SplitEnd l w) := Tx.impl_split ⟨l.toArray⟩ w h
theorem lower_l (l : List UInt8) (w : World) (h : l.length ≤ 1048576) : Calls Tryd.prog 18 #[.string ⟨l.toArray⟩] w fun e w' => e = .returned (.string ⟨(Tx.lower l).toArray⟩) ∧ Below w.heap.size w w' := Tx.impl_lower ⟨l.toArray⟩ w (Nat.le_trans h (by decide))
theorem pair_l (l : List UInt8) (w : World) (h : l.length ≤ 1048576) : Calls Tryd.prog 15 #[.string ⟨l.toArray⟩] w (Tx.PairEnd l w) := Tx.impl_pair ⟨l.toArray⟩ w (Nat.le_trans h (by decide))
theorem trim_l (l : List UInt8) (w : World) (h : l.length ≤ 1048576) (ht : Tx.trim l = l) : Calls Tryd.prog 14 #[.string ⟨l.toArray⟩] w fun e w' => e = .returned (.string ⟨l.toArray⟩) ∧ Below w.heap.size w w' := by
  have c := Tx.impl_trim_list l w (Nat.le_trans h (by decide))
  rw [ht] at c; exact c

theorem trim_len (l : List UInt8) : (Tx.trim l).length ≤ l.length := by
  unfold Tx.trim Tx.triml Tx.trimr
  have h1 := (List.dropWhile_sublist Tx.blk (l := (l.reverse.dropWhile Tx.blk).reverse)).length_le
  have h2 := (List.dropWhile_sublist Tx.blk (l := l.reverse)).length_le
  simp at h1 h2 ⊢; omega
theorem split_elem (l : List UInt8) : ∀ x ∈ Tx.split l, x.length ≤ l.length := by
  intro x hx
  unfold Tx.split Tx.keep at hx
  obtain ⟨y, hy, rfl⟩ := List.mem_map.1 (List.mem_filter.1 hx).1
  have h1 := Tx.cuts_elem _ false l (Nat.le_refl _) y hy
  have h2 := trim_len y
  omega
theorem split_count (l : List UInt8) : (Tx.split l).length ≤ l.length + 1 := by
  have h := Tx.cuts_count _ false l (Nat.le_refl _)
  have h2 := Tx.keep_len (Tx.cuts false l)
  unfold Tx.split; omega
theorem sum_le (xs : List (List UInt8)) (m : Nat) (h : ∀ x ∈ xs, x.length ≤ m) : (xs.map (·.length)).sum ≤ xs.length * m := by
  induction xs with
  | nil => simp
  | cons a r ih =>
    have h1 := h a (by simp)
    have h2 := ih (fun x hx => h x (by simp [hx]))
    simp only [List.map_cons, List.sum_cons, List.length_cons, Nat.add_mul, Nat.one_mul]; omega
theorem split_total {l : List UInt8} (h : l.length ≤ 96) : total (Tx.split l) ≤ 20000 ∧ (Tx.split l).length ≤ 97 := by
  have h1 := split_count l
  have h2 := sum_le (Tx.split l) 96 (fun x hx => by have := split_elem l x hx; omega)
  unfold total
  have : (Tx.split l).length * 96 ≤ 97 * 96 := Nat.mul_le_mul_right _ (by omega)
  omega
theorem join_small {xs : List (List UInt8)} (h : total xs ≤ 20000) : (Tx.join xs).length ≤ 60000 := by
  have h1 := Tx.join_len xs xs.length (Nat.le_refl _)
  rw [List.take_length] at h1
  have h2 := Tx.pre_le xs xs.length
  unfold total at h; omega
theorem pair_ok (l : List UInt8) : Tx.trim (Tx.pairs l).1 = (Tx.pairs l).1 ∧ ((Tx.pairs l).2.2 = false → (Tx.pairs l).2.1 = []) ∧ (Tx.pairs l).1.length ≤ l.length := by
  refine ⟨Tx.trim_trim _, ?_, ?_⟩
  · unfold Tx.pairs Tx.cutAt
    split
    · intro h; cases h
    · intro _; rfl
  · unfold Tx.pairs
    have h1 := trim_len (Tx.cutAt 61 l).1
    have h2 := (Tx.cutAt_len 61 l).1
    show (Tx.trim (Tx.cutAt 61 l).1).length ≤ l.length
    omega
theorem bcell' {B : Nat} {W w1 : World} (hb : Below B W w1) {b o : Nat} (h : b < B) : w1.cell? ⟨b, o, none⟩ = W.cell? ⟨b, o, none⟩ := hb.cell (p := ⟨b, o, none⟩) h
theorem below_of_drew {B : Nat} {w w' : World} (h : Below B w.drew w') : Below B w w' := ⟨h.os, h.tape, h.output, h.size, h.block⟩

set_option maxHeartbeats 4000000 in
theorem walk (b0 : Option Addr) (l0 c0 : Nat) (w0 : l0 ≤ maxLen) (w : World) (y0 : l0 ≤ 1048576 → Cur.Bytes w w.heap.size (.slice b0 l0 c0)) :
    Calls Tryd.prog 3 #[.slice b0 l0 c0] w fun e w' => e = .returned (.bool true) ∧ Below w.heap.size w w' := by
  clear w0
  by_cases hbig : 1048576 < (l0 : Int)
  · go_enter Tryd.func3, Tryd.ntmps3
    go_wp2_with (go_at_call 7; refine (Cur.big_yes _ _ _ _ hbig).mono ?_; rintro e w' ⟨rfl, rfl⟩)
    go_ret
    exact ⟨rfl, Below.refl _ _⟩
  have hby := y0 (by omega)
  clear y0
  go_enter Tryd.func3, Tryd.ntmps3
  go_wp2_with (fail)
  go_at_call 7
  refine (Cur.big_no _ _ _ _ (by omega)).mono ?_
  rintro e w' ⟨rfl, rfl⟩
  go_wp2_with (fail)
  go_at_call 8
  refine (Cur.draw_quote _ _ _ hby (Nat.le_refl _)).mono ?_
  rintro e w1 ⟨s, hs, rfl, b1⟩
  have B1 := Lib.hid b1
  clear b1
  go_wp2_with (fail)
  go_at_call 10
  refine (quote_l s _ (by omega)).mono ?_
  rintro e w2 ⟨rfl, b2⟩
  have B2 := Lib.hid (Base.then_below B1.out b2)
  clear b2 B1
  go_wp2_with (fail)
  go_at_call 9
  refine (unquote_l s _ (by omega)).mono ?_
  rintro e w3 ⟨rfl, b3⟩
  have B3 := Lib.hid (Base.then_below B2.out b3)
  clear b3 B2
  go_wp2_with (fail)
  go_at_call 12
  refine (Cur.draw_list _ _ _ (Cur.bytes_below hby B3.out) B3.out.size).mono ?_
  rintro e w4 ⟨y, hy, rfl, b4⟩
  have B4 := Lib.hid (Base.then_below B3.out b4)
  clear b4 B3
  have HT := Lib.hid (split_total hy)
  have HSJ := Lib.hid (Tx.split_join y)
  have HOK := Lib.hid (fun x (hx : x ∈ Tx.split y) => And.intro (Tx.split_ok hx) (split_elem y x hx))
  have cs := Lib.hid (fun W => split_l y W (by omega))
  unfold Tx.SplitEnd at cs
  generalize Tx.split y = xs at HT HSJ HOK cs
  go_wp2_with (fail)
  go_at_call 11
  refine (cs.out _).mono ?_
  rintro e w5 ⟨v5, rfl, o5, b5⟩
  have H5 := Lib.hid (Strs.own_holds o5)
  have B5 := Lib.hid (Base.then_below B4.out b5)
  clear o5 b5 B4 cs
  go_wp2_with (fail)
  go_at_call 13
  refine (Tx.impl_join v5 _ xs _ H5.out (by have := HT.out.1; omega)).mono ?_
  rintro e w6 ⟨rfl, b6⟩
  have hs6 := b6.size
  have H6 := Lib.hid (Strs.holds_below H5.out b6)
  have B6 := Lib.hid (Base.then_below B5.out b6)
  clear b6 B5 H5
  have cs := split_l (Tx.join xs) w6 (by have := join_small HT.out.1; omega)
  unfold Tx.SplitEnd at cs
  rw [HSJ.out] at cs
  have HJ := Lib.hid (join_small HT.out.1)
  generalize Tx.join xs = z at cs HJ
  clear HSJ
  go_wp2_with (fail)
  go_at_call 11
  refine cs.mono ?_
  rintro e w7 ⟨v7, rfl, o7, b7⟩
  have hs7 := b7.size
  have H7 := Lib.hid (Strs.own_holds o7)
  have H6 := Lib.hid (Strs.holds_below H6.out (b7.mono (by omega)))
  have B7 := Lib.hid (Base.then_below B6.out b7)
  clear o7 b7 B6 cs
  have hxl : xs.length ≤ 97 := HT.out.2
  obtain ⟨a5, c5, hv5⟩ : ∃ a5 c5, v5 = .slice a5 xs.length c5 := by
    rcases H6.out with ⟨e, a, cap, rfl⟩ | ⟨_, b, off, cap, rfl, _⟩
    · exact ⟨a, cap, by rw [e]; rfl⟩
    · exact ⟨_, cap, rfl⟩
  subst hv5
  go_wp2
  go_loopw [8] (fun i wr => ∃ k : Nat, k ≤ xs.length ∧ i = .int .i64 (k : Int) ∧ Below w7.heap.size w7 wr) (fun i _ => xs.length - (intOf i).toNat)
  case atStart => exact ⟨0, Nat.zero_le _, rfl, Below.refl _ _⟩
  case round =>
    obtain ⟨k, hk, rfl, hb⟩ := hrel
    have hbs := hb.size
    have HB := Lib.hid hb
    clear hb
    by_cases hlt : k < xs.length
    · obtain ⟨b, off, rfl, hbl, hat⟩ : ∃ b off, a5 = some ⟨b, off, none⟩ ∧ b < w7.heap.size ∧ Strs.At w7 b off xs := by
        rcases H6.out with ⟨e, _⟩ | ⟨_, b, off, cap, hv, hbB, _, hat⟩
        · rw [e] at hlt; simp at hlt
        · injection hv with h1; subst h1; exact ⟨b, off, rfl, by omega, hat⟩
      have hcell : wr.cell? ⟨b, off + k, none⟩ = some (Strs.sv (xs.getD k [])) := Strs.at_below hat HB.out hbl k hlt
      have HX := Lib.hid (HOK.out (xs.getD k []) (by rw [show xs.getD k [] = xs[k] by simp [List.getD, hlt]]; exact List.getElem_mem _))
      generalize xs.getD k [] = x at hcell HX
      unfold Strs.sv at hcell
      obtain ⟨c, r, rfl⟩ : ∃ c r, x = c :: r := by
        cases x with
        | nil => exact absurd rfl HX.out.1.1
        | cons c r => exact ⟨c, r, rfl⟩
      have hcell' : wr.drew.cell? ⟨b, off + k, none⟩ = some (.string ⟨(c :: r).toArray⟩) := hcell
      have c1 := trim_l (c :: r) wr.drew (by have := HX.out.2; omega) HX.out.1.2
      clear hat
      go_wp2
      go_region_with (go_at_call 14; refine c1.mono ?_; rintro e wt ⟨rfl, hb1⟩; have hc1 : wt.cell? ⟨b, off + k, none⟩ = some (.string ⟨(c :: r).toArray⟩) := (bcell' hb1 (by show b < wr.heap.size; omega)).trans hcell'; have H1 := Lib.hid (HB.out.trans ((below_of_drew hb1).mono (by show w7.heap.size ≤ wr.heap.size; omega))); clear hb1)
      all_goals go_wp2
      all_goals go_roundw
      all_goals first | exact ⟨k + 1, by omega, by go_num, H1.out⟩ | (simp [intOf]; omega)
    · have H6 := Lib.hid (Strs.holds_below H6.out (HB.out.mono (by omega)))
      have H7 := Lib.hid (Strs.holds_below H7.out HB.out)
      have B8 := Lib.hid (Base.then_below B7.out HB.out)
      clear HB B7 HOK
      go_wp2_with (fail)
      go_at_call 16
      refine (Cur.draw_pair _ _ _ (Cur.bytes_below hby B8.out) B8.out.size).mono ?_
      rintro e w9 ⟨p, hp, rfl, b9⟩
      have hs9 := b9.size
      have H6 := Lib.hid (Strs.holds_below H6.out (b9.mono (by omega)))
      have H7 := Lib.hid (Strs.holds_below H7.out (b9.mono (by omega)))
      have B9 := Lib.hid (Base.then_below B8.out b9)
      clear b9 B8
      have cp := pair_l p w9 (by omega)
      have HP := Lib.hid (pair_ok p)
      unfold Tx.PairEnd at cp
      generalize (Tx.pairs p).1 = pa, (Tx.pairs p).2.1 = pb, (Tx.pairs p).2.2 = ph at cp HP
      go_wp2_with (fail)
      go_at_call 15
      refine cp.mono ?_
      rintro e w10 ⟨rfl, b10⟩
      have hs10 := b10.size
      have H6 := Lib.hid (Strs.holds_below H6.out (b10.mono (by omega)))
      have H7 := Lib.hid (Strs.holds_below H7.out (b10.mono (by omega)))
      have B10 := Lib.hid (Base.then_below B9.out b10)
      clear b10 B9 cp
      have HPB := Lib.hid HP.out.2.1
      cases ph with
      | false =>
        have hpb : pb = [] := HPB.out rfl
        subst hpb
        go_wp2_with (fail)
        go_at_call 17
        refine (Same.eq_same _ v7 _ _ xs _ H6.out H7.out (by omega)).mono ?_
        rintro e w11 ⟨rfl, b11⟩
        have B11 := Lib.hid (Base.then_below B10.out b11)
        clear b11 B10
        go_wp2_with (fail)
        go_at_call 14
        refine (trim_l pa _ (by have := HP.out.2.2; omega) HP.out.1).mono ?_
        rintro e w12 ⟨rfl, b12⟩
        have B12 := Lib.hid (Base.then_below B11.out b12)
        clear b12 B11
        have cl1 := lower_l s
        have cl2 := lower_l (Tx.lower s)
        rw [Tx.lower_lower, show (Tx.lower s).length = s.length by unfold Tx.lower; simp] at cl2
        generalize Tx.lower s = q at cl1 cl2
        go_wp2_with (fail)
        go_at_call 18
        refine (cl1 _ (by omega)).mono ?_
        rintro e w13 ⟨rfl, b13⟩
        have B13 := Lib.hid (Base.then_below B12.out b13)
        clear b13 B12
        go_wp2_with (fail)
        go_at_call 18
        refine (cl2 _ (by omega)).mono ?_
        rintro e w14 ⟨rfl, b14⟩
        have B14 := Lib.hid (Base.then_below B13.out b14)
        clear b14 B13
        go_wp2_with (fail)
        go_at_call 18
        refine (cl1 _ (by omega)).mono ?_
        rintro e w15 ⟨rfl, b15⟩
        have HE := Lib.hid (Base.then_below B14.out b15)
        clear b15 B14
        go_wp2
        go_ret
        exact ⟨rfl, HE.out⟩
      | true =>
        go_wp2_with (fail)
        go_at_call 17
        refine (Same.eq_same _ v7 _ _ xs _ H6.out H7.out (by omega)).mono ?_
        rintro e w11 ⟨rfl, b11⟩
        have B11 := Lib.hid (Base.then_below B10.out b11)
        clear b11 B10
        go_wp2_with (fail)
        go_at_call 14
        refine (trim_l pa _ (by have := HP.out.2.2; omega) HP.out.1).mono ?_
        rintro e w12 ⟨rfl, b12⟩
        have B12 := Lib.hid (Base.then_below B11.out b12)
        clear b12 B11
        have cl1 := lower_l s
        have cl2 := lower_l (Tx.lower s)
        rw [Tx.lower_lower, show (Tx.lower s).length = s.length by unfold Tx.lower; simp] at cl2
        generalize Tx.lower s = q at cl1 cl2
        go_wp2_with (fail)
        go_at_call 18
        refine (cl1 _ (by omega)).mono ?_
        rintro e w13 ⟨rfl, b13⟩
        have B13 := Lib.hid (Base.then_below B12.out b13)
        clear b13 B12
        go_wp2_with (fail)
        go_at_call 18
        refine (cl2 _ (by omega)).mono ?_
        rintro e w14 ⟨rfl, b14⟩
        have B14 := Lib.hid (Base.then_below B13.out b14)
        clear b14 B13
        go_wp2_with (fail)
        go_at_call 18
        refine (cl1 _ (by omega)).mono ?_
        rintro e w15 ⟨rfl, b15⟩
        have HE := Lib.hid (Base.then_below B14.out b15)
        clear b15 B14
        go_wp2
        go_ret
        exact ⟨rfl, HE.out⟩
end Go.Proofs.YtajojhfddedgbaaDoor.fnLists
