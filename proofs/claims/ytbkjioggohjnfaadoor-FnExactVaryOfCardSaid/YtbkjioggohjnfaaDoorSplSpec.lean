/-
  CONTRACTS of the model's l4Cut (at a comma) and SplitList: at every text they return the parts between the commas outside quoted strings, and the trimmed ones that are not empty, in memory of their own; nothing that was there before is changed.
-/
import Derived.Test.YtbkjioggohjnfaaDoorSplImpl
namespace Go.Proofs.YtbkjioggohjnfaaDoor.Tx
open Go Go.RowKit
set_option linter.unusedVariables false
set_option maxRecDepth 1000000

/-- The state of l4Cut. -/
def CP (s : ByteArray) (k f : Nat) (q : Bool) (xs : List (List UInt8)) : Prop := f ≤ k ∧ f ≤ s.size ∧ xs.length ≤ k ∧ xs ++ push (seg s.data.toList f k) (cuts q (s.data.toList.drop k)) = cuts false s.data.toList
theorem cp_start (s : ByteArray) : CP s 0 0 false [] := ⟨Nat.le_refl _, Nat.zero_le _, Nat.le_refl _, by rw [seg_same, push_nil, List.drop_zero]; rfl⟩
theorem cp_esc {s : ByteArray} {k f : Nat} {xs : List (List UInt8)} (h : CP s k f true xs) (hk : k < s.size) (h1 : s[k] = 92) : CP s (k + 1 + 1) f true xs := by
  obtain ⟨a, b, b', c⟩ := h
  refine ⟨by omega, b, by omega, ?_⟩
  rw [drop_cons s k hk, cuts_esc _ h1, push_push] at c
  have e2 : s.data.toList.drop (k + (1 + 1)) = (s.data.toList.drop (k + 1)).drop 1 := by rw [List.drop_drop]
  rw [show k + 1 + 1 = k + (1 + 1) by omega, seg_more a, e2, drop_cons s k hk, List.take_succ_cons]
  exact c
theorem cp_quote {s : ByteArray} {k f : Nat} {q : Bool} {xs : List (List UInt8)} (h : CP s k f q xs) (hk : k < s.size) (h1 : s[k] = 34) : CP s (k + 1) f (!q) xs := by
  obtain ⟨a, b, b', c⟩ := h
  refine ⟨by omega, b, by omega, ?_⟩
  rw [drop_cons s k hk, cuts_quote q _ h1, push_push] at c
  rw [seg_more a, drop_cons s k hk]
  exact c
theorem cp_comma {s : ByteArray} {k f : Nat} {xs : List (List UInt8)} (h : CP s k f false xs) (hk : k < s.size) (h1 : s[k] = 44) : CP s (k + 1) (k + 1) false (xs ++ [(s.extract f k).data.toList]) := by
  obtain ⟨a, b, b', c⟩ := h
  refine ⟨Nat.le_refl _, by omega, by rw [List.length_append]; simp; omega, ?_⟩
  rw [drop_cons s k hk, cuts_comma _ h1] at c
  rw [seg_same, push_nil, seg_ext, List.append_assoc]
  simpa [push] using c
theorem cp_plain {s : ByteArray} {k f : Nat} {q : Bool} {xs : List (List UInt8)} (h : CP s k f q xs) (hk : k < s.size) (h1 : q = true → s[k] ≠ 92) (h2 : s[k] ≠ 34) (h3 : q = false → s[k] ≠ 44) : CP s (k + 1) f q xs := by
  obtain ⟨a, b, b', c⟩ := h
  refine ⟨by omega, b, by omega, ?_⟩
  rw [drop_cons s k hk, cuts_plain q _ h1 h2 h3, push_push] at c
  rw [seg_more a, drop_cons s k hk]
  exact c
theorem cp_end {s : ByteArray} {k f : Nat} {q : Bool} {xs : List (List UInt8)} (h : CP s k f q xs) (hk : s.size ≤ k) : xs ++ [(s.extract f s.size).data.toList] = cuts false s.data.toList := by
  obtain ⟨a, b, b', c⟩ := h
  rw [List.drop_eq_nil_of_le (by rw [list_len]; exact hk), cuts_nil] at c
  rw [seg_tail hk]
  simpa [push] using c
theorem cuts_len {s : ByteArray} {k f : Nat} {q : Bool} {xs : List (List UInt8)} (h : CP s k f q xs) (hk : s.size ≤ k) (hk2 : k ≤ s.size + 1) : (cuts false s.data.toList).length ≤ s.size + 2 := by
  rw [← cp_end h hk, List.length_append]
  have := h.2.2.1
  simp; omega

theorem push_len {p : List UInt8} {L : List (List UInt8)} {n : Nat} (h : ∀ y ∈ L, y.length ≤ n) : ∀ x ∈ push p L, x.length ≤ p.length + n := by
  cases L with
  | nil => intro x hx; cases hx
  | cons a r =>
    intro x hx
    rcases List.mem_cons.1 hx with rfl | hx
    · rw [List.length_append]; have := h a (by simp); omega
    · have := h x (by simp [hx]); omega
theorem cuts_elem : ∀ n q (l : List UInt8), l.length ≤ n → ∀ x ∈ cuts q l, x.length ≤ l.length := by
  intro n
  induction n with
  | zero =>
    intro q l hl x hx
    rw [List.length_eq_zero_iff.1 (by omega : l.length = 0), cuts_nil] at hx
    simp at hx; subst hx; simp
  | succ n ih =>
    intro q l hl x hx
    cases l with
    | nil => rw [cuts_nil] at hx; simp at hx; subst hx; simp
    | cons c r =>
      simp at hl
      rw [cuts_cons] at hx
      split at hx
      · have := push_len (ih true (r.drop 1) (by simp; omega)) x hx
        simp at this ⊢; omega
      · split at hx
        · have := push_len (ih _ r hl) x hx
          simp at this ⊢; omega
        · split at hx
          · rcases List.mem_cons.1 hx with rfl | hx
            · simp
            · have := ih _ r hl x hx; simp; omega
          · have := push_len (ih _ r hl) x hx
            simp at this ⊢; omega
theorem push_count (p : List UInt8) (L : List (List UInt8)) : (push p L).length = L.length := by cases L <;> rfl
theorem cuts_count : ∀ n q (l : List UInt8), l.length ≤ n → (cuts q l).length ≤ l.length + 1 := by
  intro n
  induction n with
  | zero => intro q l hl; rw [List.length_eq_zero_iff.1 (by omega : l.length = 0), cuts_nil]; simp
  | succ n ih =>
    intro q l hl
    cases l with
    | nil => rw [cuts_nil]; simp
    | cons c r =>
      simp at hl
      rw [cuts_cons]
      split
      · rw [push_count]; have := ih true (r.drop 1) (by simp; omega); simp at this ⊢; omega
      · split
        · rw [push_count]; have := ih (!q) r hl; simp; omega
        · split
          · have := ih false r hl; simp; omega
          · rw [push_count]; have := ih q r hl; simp; omega
theorem own_mono {w : World} {B B' : Nat} {v : Value} {xs : List (List UInt8)} (h : Strs.Own w B v xs) (hB : B' ≤ B) : Strs.Own w B' v xs := by
  obtain ⟨hl, hc⟩ := h
  refine ⟨hl, ?_⟩
  rcases hc with h0 | ⟨g, cap, cur, rfl, h1, h2, h3⟩
  · exact Or.inl h0
  · exact Or.inr ⟨g, cap, cur, rfl, by omega, h2, h3⟩
theorem sv_ext (x : ByteArray) : Strs.sv x.data.toList = .string x := by unfold Strs.sv; simp
/-- How l4Cut ends. -/
def CutsEnd (l : List UInt8) (w : World) (e : Ending) (w' : World) : Prop := ∃ v, e = .returned v ∧ Strs.Own w' w.heap.size v (cuts false l) ∧ (cuts false l).length ≤ l.length + 2 ∧ Below w.heap.size w w'

set_option maxHeartbeats 2000000 in
theorem spec_cut (s : ByteArray) (w : World) (hs : s.size ≤ 4194304) :
    Calls Tryd.prog 24 #[.string s, .int .u8 44] w (CutsEnd s.data.toList w) := by
  obtain ⟨i0, hi, hz0, hz1, hz2⟩ := info_parts Strs.info_str
  have HO := Lib.hid (Strs.own_lit_nil w)
  go_enter Tryd.func24, Tryd.ntmps24
  go_wp2
  go_loopw [5, 6, 7, 8] (fun v f b i wr => ∃ (k fr : Nat) (q : Bool) (xs : List (List UInt8)), k ≤ s.size + 1 ∧ i = .int .i64 (k : Int) ∧ f = .int .i64 (fr : Int) ∧ b = .bool q ∧ Strs.Own wr w.heap.size v xs ∧ CP s k fr q xs ∧ Below w.heap.size w wr) (fun _ _ _ i _ => s.size + 1 - (intOf i).toNat)
  case atStart => exact ⟨0, 0, false, [], by omega, rfl, rfl, rfl, HO.out, cp_start s, (Below.refl _ _).alloc (Nat.le_refl _) _⟩
  case round =>
    clear HO
    obtain ⟨k, fr, q, xs, hk, rfl, rfl, rfl, hown, hsp, hb⟩ := hrel
    have HS := Lib.hid hsp
    have hf1 : fr ≤ k := hsp.1
    have hf2 : fr ≤ s.size := hsp.2.1
    have hfi : (fr : Int) ≤ (k : Int) := by omega
    have HX := Lib.hid hsp.2.2.1
    have hsl : (Strs.svs xs).length = xs.length := Strs.svs_len xs
    have hbs := hb.size
    have HB := Lib.hid hb
    clear hsp hb
    by_cases hlt : k < s.size
    · by_cases hc1 : q = true ∧ s[k] = 92
      · obtain ⟨rfl, hc⟩ := hc1
        have h92 : ((s[k].toNat : Int) == 92) = true := by rw [e92]; simp [hc]
        have HE := Lib.hid (cp_esc HS.out hlt hc)
        have HO := Lib.hid hown
        clear hc hown
        go_wp2
        go_roundw
        case rel => exact ⟨k + 1 + 1, fr, true, xs, by omega, by go_num, rfl, rfl, HO.out, HE.out, HB.out⟩
        case measure => simp [intOf]; omega
      · by_cases hc2 : s[k] = 34
        · have h34 : ((s[k].toNat : Int) == 34) = true := by rw [e34]; simp [hc2]
          have h92 : ((s[k].toNat : Int) == 92) = false := by rw [e92, hc2]; decide
          have HE := Lib.hid (cp_quote HS.out hlt hc2)
          have HO := Lib.hid hown
          clear hc2 hown hc1
          cases q
          all_goals
            go_wp2
            go_roundw
            case rel => exact ⟨k + 1, fr, _, xs, by omega, by go_num, rfl, rfl, HO.out, HE.out, HB.out⟩
            case measure => simp [intOf]; omega
        · have h34 : ((s[k].toNat : Int) == 34) = false := by rw [e34]; simpa using hc2
          by_cases hc3 : q = false ∧ s[k] = 44
          · obtain ⟨rfl, hc⟩ := hc3
            have h44 : ((s[k].toNat : Int) == 44) = true := by rw [e44]; simp [hc]
            have HE := Lib.hid (cp_comma HS.out hlt hc)
            clear hc hc2 hc1
            go_wp2_with (at_builtin; refine wpList_append_own _ rfl (.tmp 43) (.tmp 48) 24 rfl w.heap.size 9 i0 (.string ⟨#[]⟩) 1 16 Tryd.underlying24 hi hz0 hz1 hz2 rfl (by decide) _ _ _ rfl (hown.alloc _) ⟨wr.heap.size, 0, none⟩ 1 1 [.string (s.extract fr k)] rfl rfl (Strs.news_one _ _ _) (by intro u hu; simp at hu; subst hu; rfl) (by have := HX.out; unfold maxLen; omega) (by have := HX.out; omega) (by simp; omega) ?_; intro v1 w1 hown1 hg1 _)
            have R := Lib.hid (Strs.push_own (x := (s.extract fr k).data.toList) hown HB.out (Nat.le_refl _) (by rw [sv_ext]; exact hown1) hg1)
            clear hown hown1 hg1
            go_wp2
            go_roundw
            case rel => exact ⟨k + 1, k + 1, false, _, by omega, by go_num, by go_num, rfl, R.out.1, HE.out, R.out.2⟩
            case measure => simp [intOf]; omega
          · have HE := Lib.hid (cp_plain HS.out hlt (fun h1 h2 => hc1 ⟨h1, h2⟩) hc2 (fun h1 h2 => hc3 ⟨h1, h2⟩))
            have HO := Lib.hid hown
            have HC1 := Lib.hid hc1
            have HC3 := Lib.hid hc3
            clear hc2 hc1 hc3 hown
            cases q
            · have h44 : ((s[k].toNat : Int) == 44) = false := by rw [e44]; simp; intro h; exact HC3.out ⟨rfl, h⟩
              go_wp2
              go_roundw
              case rel => exact ⟨k + 1, fr, false, xs, by omega, by go_num, rfl, rfl, HO.out, HE.out, HB.out⟩
              case measure => simp [intOf]; omega
            · have h92 : ((s[k].toNat : Int) == 92) = false := by rw [e92]; simp; intro h; exact HC1.out ⟨rfl, h⟩
              go_wp2
              go_roundw
              case rel => exact ⟨k + 1, fr, true, xs, by omega, by go_num, rfl, rfl, HO.out, HE.out, HB.out⟩
              case measure => simp [intOf]; omega
    · have HE := Lib.hid (cp_end HS.out (by omega))
      have HL := Lib.hid (cuts_len HS.out (by omega) hk)
      go_wp2_with (at_builtin; refine wpList_append_own _ rfl (.tmp 52) (.tmp 56) 24 rfl w.heap.size 9 i0 (.string ⟨#[]⟩) 1 16 Tryd.underlying24 hi hz0 hz1 hz2 rfl (by decide) _ _ _ rfl (hown.alloc _) ⟨wr.heap.size, 0, none⟩ 1 1 [.string (s.extract fr s.size)] rfl rfl (Strs.news_one _ _ _) (by intro u hu; simp at hu; subst hu; rfl) (by have := HX.out; unfold maxLen; omega) (by have := HX.out; omega) (by simp; omega) ?_; intro v1 w1 hown1 hg1 _)
      have R := Lib.hid (Strs.push_own (x := (s.extract fr s.size).data.toList) hown HB.out (Nat.le_refl _) (by rw [sv_ext]; exact hown1) hg1)
      clear hown hown1 hg1
      go_wp2
      go_ret
      exact ⟨_, rfl, by rw [← HE.out]; exact R.out.1, by rw [list_len]; exact HL.out, R.out.2⟩

theorem take_keep {L : List (List UInt8)} {k : Nat} (h : k < L.length) : keep (L.take (k + 1)) = keep (L.take k) ++ keep [L.getD k []] := by
  rw [List.take_succ_eq_append_getElem h, keep_append]; simp [List.getD, h]
theorem keep_len (L : List (List UInt8)) : (keep L).length ≤ L.length := by unfold keep; exact Nat.le_trans (List.length_filter_le _ _) (by simp)

set_option maxHeartbeats 2000000 in
theorem spec_split (s : ByteArray) (w : World) (hs : s.size ≤ 4194304) :
    Calls Tryd.prog 14 #[.string s] w (SplitEnd s.data.toList w) := by
  obtain ⟨i0, hi, hz0, hz1, hz2⟩ := info_parts Strs.info_str
  go_enter Tryd.func14, Tryd.ntmps14
  go_wp2_with (fail)
  go_at_call 24
  refine (spec_cut s _ hs).mono ?_
  rintro e w1 ⟨vl, rfl, hown, hlen, hb1⟩
  have HX := Lib.hid (show s.data.toList.length ≤ 4194304 by rw [list_len]; exact hs)
  have HSP : Hid (split s.data.toList = keep (cuts false s.data.toList)) := Lib.hid rfl
  have HH := Lib.hid (Strs.own_holds hown)
  have hne := cuts_ne false s.data.toList
  have HEL := Lib.hid (cuts_elem _ false s.data.toList (Nat.le_refl _))
  generalize cuts false s.data.toList = L at *
  have HB := Lib.hid hb1
  have hbs := hb1.size
  have h0 : 0 < L.length := List.length_pos_iff.2 hne
  have HO := Lib.hid (Strs.own_lit_nil w1)
  obtain ⟨b, off, cap, hv, hbl, hcap, hat⟩ : ∃ b off cap, vl = .slice (some ⟨b, off, none⟩) L.length cap ∧ b < w1.heap.size ∧ L.length ≤ cap ∧ Strs.At w1 b off L := by
    rcases HH.out with ⟨h, _⟩ | ⟨_, b, off, cap, h1, h2, h3, h4⟩
    · exact absurd h hne
    · exact ⟨b, off, cap, h1, h2, h3, h4⟩
  subst hv
  have HA := Lib.hid hat
  have HL := Lib.hid hlen
  clear hown hat hb1 hlen hne
  go_wp2
  go_loopw [4, 5] (fun v i wr => ∃ k : Nat, k ≤ L.length ∧ i = .int .i64 (k : Int) ∧ Strs.Own wr w1.heap.size v (keep (L.take k)) ∧ Below w1.heap.size w1 wr) (fun _ i _ => L.length - (intOf i).toNat)
  case atStart => exact ⟨0, Nat.zero_le _, rfl, by rw [List.take_zero]; exact HO.out, (Below.refl _ _).alloc (Nat.le_refl _) _⟩
  case round =>
    clear HO
    obtain ⟨k, hk, rfl, hown, hb⟩ := hrel
    have hl2 : L.length ≤ 4194306 := by have := HL.out; have := HX.out; omega
    by_cases hlt : k < L.length
    · have hcell : wr.cell? ⟨b, off + k, none⟩ = some (Strs.sv (L.getD k [])) := Strs.at_below HA.out hb hbl k hlt
      have HM := Lib.hid (take_keep hlt)
      rw [keep_one] at HM
      have HC := Lib.hid (show (keep (L.take k)).length ≤ 4194306 by have h1 := keep_len (L.take k); have h2 := List.length_take_le k L; omega)
      have HZ : Hid ((L.getD k []).length ≤ 4194304) := Lib.hid (by
        have hm : L.getD k [] ∈ L := by
          rw [show L.getD k [] = L[k] by simp [List.getD, hlt]]; exact List.getElem_mem _
        have h1 := HEL.out _ hm; have h2 := HX.out; omega)
      generalize L.getD k [] = x at hcell HM HZ
      have c1 : Calls Tryd.prog 25 #[.string ⟨x.toArray⟩] wr fun e w' => e = .returned (.string ⟨(trim x).toArray⟩) ∧ wr = w' := spec_trim ⟨x.toArray⟩ wr (Nat.le_trans HZ.out (by decide))
      generalize trim x = y at c1 HM
      unfold Strs.sv at hcell
      have HBR := Lib.hid hb
      have hbr := hb.size
      have hsl := Strs.svs_len (keep (L.take k))
      clear hb
      cases y with
      | nil =>
        rw [if_pos rfl, List.append_nil] at HM
        have HO := Lib.hid hown
        clear hown
        go_wp2_with (fail)
        go_at_call 25
        refine c1.mono ?_
        rintro e w' ⟨rfl, rfl⟩
        go_wp2
        go_roundw
        case rel => exact ⟨k + 1, by omega, by go_num, by rw [HM.out]; exact HO.out, HBR.out⟩
        case measure => simp [intOf]; omega
      | cons c r =>
        rw [if_neg (by simp)] at HM
        go_wp2_with (fail)
        go_at_call 25
        refine c1.mono ?_
        rintro e w' ⟨rfl, rfl⟩
        go_wp2_with (at_builtin; refine wpList_append_own _ rfl (.tmp 23) (.tmp 25) 24 rfl w1.heap.size 9 i0 (.string ⟨#[]⟩) 1 16 Tryd.underlying24 hi hz0 hz1 hz2 rfl (by decide) _ _ _ rfl (hown.alloc _) ⟨wr.heap.size, 0, none⟩ 1 1 [Strs.sv (c :: r)] rfl rfl (Strs.news_one _ _ _) (Strs.sv_one _) (by have := HC.out; unfold maxLen; omega) (by have := HC.out; omega) (by simp; omega) ?_; intro v1 w2 hown1 hg1 _)
        have R := Lib.hid (Strs.push_own (x := c :: r) hown HBR.out (Nat.le_refl _) hown1 hg1)
        clear hown hown1 hg1
        go_wp2
        go_roundw
        case rel => exact ⟨k + 1, by omega, by go_num, by rw [HM.out]; exact R.out.1, R.out.2⟩
        case measure => simp [intOf]; omega
    · obtain rfl : k = L.length := by omega
      rw [List.take_length] at hown
      have HE := Lib.hid (And.intro hown hb)
      clear hown hb
      go_wp2
      go_ret
      exact ⟨_, rfl, by rw [HSP.out]; exact own_mono HE.out.1 hbs, HB.out.trans (HE.out.2.mono hbs)⟩
end Go.Proofs.YtbkjioggohjnfaaDoor.Tx
