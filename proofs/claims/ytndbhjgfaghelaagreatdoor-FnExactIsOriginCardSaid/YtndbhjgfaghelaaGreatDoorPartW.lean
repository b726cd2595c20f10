/-
  CONTRACTS AND PLAIN FACTS, several texts in one; each says in its own words what it proves.
-/
import Derived.Test.YtndbhjgfaghelaaGreatDoorPartV
import Derived.Test.YtndbhjgfaghelaaGreatDoorPartS
import Derived.Test.YtndbhjgfaghelaaGreatDoorPartO
import Derived.Test.YtndbhjgfaghelaaGreatDoorPartE
import Derived.Test.YtndbhjgfaghelaaGreatDoorPartD
import Derived.Test.YtndbhjgfaghelaaGreatDoorPartT
import Derived.Test.YtndbhjgfaghelaaGreatDoorPartU
import Derived.Test.YtndbhjgfaghelaaGreatDoorPartC
set_option linter.unusedSimpArgs false
set_option linter.unusedVariables false

/-
  CONTRACTS of the model's l4Cut (at a comma) and SplitList: at every text they return the parts between the commas outside quoted strings, and the trimmed ones that are not empty, in memory of their own; nothing that was there before is changed.
-/
namespace Go.Proofs.YtndbhjgfaghelaaGreatDoor.Tx
open Go Go.RowKit
set_option linter.unusedVariables false
set_option maxRecDepth 1000000

/-- The state of l4Cut. -/
def CP (s : ByteArray) (k f : Nat) (q : Bool) (xs : List (List UInt8)) : Prop := f ≤ k ∧ f ≤ s.size ∧ xs.length ≤ k ∧ xs ++ push (seg s.data.toList f k) (cuts q (s.data.toList.drop k)) = cuts false s.data.toList
theorem cp_start (s : ByteArray) : CP s 0 0 false [] := ⟨Nat.le_refl _, Nat.zero_le _, Nat.le_refl _, by rw [seg_same, push_nil, List.drop_zero]; rfl⟩
theorem cp_esc {s : ByteArray} {k f : Nat} {xs : List (List UInt8)} (h : CP s k f true xs) (hk : k < s.size) (h1 : s[k] = 92) : CP s (k + 1 + 1) f true xs := by
  obtain ⟨a, b, b', c⟩ := h
  refine ⟨by omega, b, by omega, ?_⟩
  rw [drop_cons s k hk, cuts_esc _ h1, push_push] at c
  have e2 : s.data.toList.drop (k + (1 + 1)) = (s.data.toList.drop (k + 1)).drop 1 := by rw [List.drop_drop]
  rw [show k + 1 + 1 = k + (1 + 1) by omega, seg_more a, e2, drop_cons s k hk, List.take_succ_cons]
  exact c
theorem cp_quote {s : ByteArray} {k f : Nat} {q : Bool} {xs : List (List UInt8)} (h : CP s k f q xs) (hk : k < s.size) (h1 : s[k] = 34) : CP s (k + 1) f (!q) xs := by
  obtain ⟨a, b, b', c⟩ := h
  refine ⟨by omega, b, by omega, ?_⟩
  rw [drop_cons s k hk, cuts_quote q _ h1, push_push] at c
  rw [seg_more a, drop_cons s k hk]
  exact c
theorem cp_comma {s : ByteArray} {k f : Nat} {xs : List (List UInt8)} (h : CP s k f false xs) (hk : k < s.size) (h1 : s[k] = 44) : CP s (k + 1) (k + 1) false (xs ++ [(s.extract f k).data.toList]) := by
  obtain ⟨a, b, b', c⟩ := h
  refine ⟨Nat.le_refl _, by omega, by rw [List.length_append]; simp; omega, ?_⟩
  rw [drop_cons s k hk, cuts_comma _ h1] at c
  rw [seg_same, push_nil, seg_ext, List.append_assoc]
  simpa [push] using c
theorem cp_plain {s : ByteArray} {k f : Nat} {q : Bool} {xs : List (List UInt8)} (h : CP s k f q xs) (hk : k < s.size) (h1 : q = true → s[k] ≠ 92) (h2 : s[k] ≠ 34) (h3 : q = false → s[k] ≠ 44) : CP s (k + 1) f q xs := by
  obtain ⟨a, b, b', c⟩ := h
  refine ⟨by omega, b, by omega, ?_⟩
  rw [drop_cons s k hk, cuts_plain q _ h1 h2 h3, push_push] at c
  rw [seg_more a, drop_cons s k hk]
  exact c
theorem cp_end {s : ByteArray} {k f : Nat} {q : Bool} {xs : List (List UInt8)} (h : CP s k f q xs) (hk : s.size ≤ k) : xs ++ [(s.extract f s.size).data.toList] = cuts false s.data.toList := by
  obtain ⟨a, b, b', c⟩ := h
  rw [List.drop_eq_nil_of_le (by rw [list_len]; exact hk), cuts_nil] at c
  rw [seg_tail hk]
  simpa [push] using c
theorem cuts_len {s : ByteArray} {k f : Nat} {q : Bool} {xs : List (List UInt8)} (h : CP s k f q xs) (hk : s.size ≤ k) (hk2 : k ≤ s.size + 1) : (cuts false s.data.toList).length ≤ s.size + 2 := by
  rw [← cp_end h hk, List.length_append]
  have := h.2.2.1
  simp; omega

theorem push_len {p : List UInt8} {L : List (List UInt8)} {n : Nat} (h : ∀ y ∈ L, y.length ≤ n) : ∀ x ∈ push p L, x.length ≤ p.length + n := by
  cases L with
  | nil => intro x hx; cases hx
  | cons a r =>
    intro x hx
    rcases List.mem_cons.1 hx with rfl | hx
    · rw [List.length_append]; have := h a (by simp); omega
    · have := h x (by simp [hx]); omega
theorem cuts_elem : ∀ n q (l : List UInt8), l.length ≤ n → ∀ x ∈ cuts q l, x.length ≤ l.length := by
  intro n
  induction n with
  | zero =>
    intro q l hl x hx
    rw [List.length_eq_zero_iff.1 (by omega : l.length = 0), cuts_nil] at hx
    simp at hx; subst hx; simp
  | succ n ih =>
    intro q l hl x hx
    cases l with
    | nil => rw [cuts_nil] at hx; simp at hx; subst hx; simp
    | cons c r =>
      simp at hl
      rw [cuts_cons] at hx
      split at hx
      · have := push_len (ih true (r.drop 1) (by simp; omega)) x hx
        simp at this ⊢; omega
      · split at hx
        · have := push_len (ih _ r hl) x hx
          simp at this ⊢; omega
        · split at hx
          · rcases List.mem_cons.1 hx with rfl | hx
            · simp
            · have := ih _ r hl x hx; simp; omega
          · have := push_len (ih _ r hl) x hx
            simp at this ⊢; omega
theorem push_count (p : List UInt8) (L : List (List UInt8)) : (push p L).length = L.length := by cases L <;> rfl
theorem cuts_count : ∀ n q (l : List UInt8), l.length ≤ n → (cuts q l).length ≤ l.length + 1 := by
  intro n
  induction n with
  | zero => intro q l hl; rw [List.length_eq_zero_iff.1 (by omega : l.length = 0), cuts_nil]; simp
  | succ n ih =>
    intro q l hl
    cases l with
    | nil => rw [cuts_nil]; simp
    | cons c r =>
      simp at hl
      rw [cuts_cons]
      split
      · rw [push_count]; have := ih true (r.drop 1) (by simp; omega); simp at this ⊢; omega
      · split
        · rw [push_count]; have := ih (!q) r hl; simp; omega
        · split
          · have := ih false r hl; simp; omega
          · rw [push_count]; have := ih q r hl; simp; omega
theorem own_mono {w : World} {B B' : Nat} {v : Value} {xs : List (List UInt8)} (h : Strs.Own w B v xs) (hB : B' ≤ B) : Strs.Own w B' v xs := by
  obtain ⟨hl, hc⟩ := h
  refine ⟨hl, ?_⟩
  rcases hc with h0 | ⟨g, cap, cur, rfl, h1, h2, h3⟩
  · exact Or.inl h0
  · exact Or.inr ⟨g, cap, cur, rfl, by omega, h2, h3⟩
theorem sv_ext (x : ByteArray) : Strs.sv x.data.toList = .string x := by unfold Strs.sv; simp
/-- How l4Cut ends. -/
def CutsEnd (l : List UInt8) (w : World) (e : Ending) (w' : World) : Prop := ∃ v, e = .returned v ∧ Strs.Own w' w.heap.size v (cuts false l) ∧ (cuts false l).length ≤ l.length + 2 ∧ Below w.heap.size w w'

set_option maxHeartbeats 2000000 in
theorem spec_cut (s : ByteArray) (w : World) (hs : s.size ≤ 4194304) :
    Calls Tryz.prog 272 #[.string s, .int .u8 44] w (CutsEnd s.data.toList w) := by
  obtain ⟨i0, hi, hz0, hz1, hz2⟩ := info_parts Strs.info_str
  have HO := Lib.hid (Strs.own_lit_nil w)
  go_enter Tryz.func272, Tryz.ntmps272
  go_wp2
  go_loopw [5, 6, 7, 8] (fun v f b i wr => ∃ (k fr : Nat) (q : Bool) (xs : List (List UInt8)), k ≤ s.size + 1 ∧ i = .int .i64 (k : Int) ∧ f = .int .i64 (fr : Int) ∧ b = .bool q ∧ Strs.Own wr w.heap.size v xs ∧ CP s k fr q xs ∧ Below w.heap.size w wr) (fun _ _ _ i _ => s.size + 1 - (intOf i).toNat)
  case atStart => exact ⟨0, 0, false, [], by omega, rfl, rfl, rfl, HO.out, cp_start s, (Below.refl _ _).alloc (Nat.le_refl _) _⟩
  case round =>
    clear HO
    obtain ⟨k, fr, q, xs, hk, rfl, rfl, rfl, hown, hsp, hb⟩ := hrel
    have HS := Lib.hid hsp
    have hf1 : fr ≤ k := hsp.1
    have hf2 : fr ≤ s.size := hsp.2.1
    have hfi : (fr : Int) ≤ (k : Int) := by omega
    have HX := Lib.hid hsp.2.2.1
    have hsl : (Strs.svs xs).length = xs.length := Strs.svs_len xs
    have hbs := hb.size
    have HB := Lib.hid hb
    clear hsp hb
    by_cases hlt : k < s.size
    · by_cases hc1 : q = true ∧ s[k] = 92
      · obtain ⟨rfl, hc⟩ := hc1
        have h92 : ((s[k].toNat : Int) == 92) = true := by rw [e92]; simp [hc]
        have HE := Lib.hid (cp_esc HS.out hlt hc)
        have HO := Lib.hid hown
        clear hc hown
        go_wp2
        go_roundw
        case rel => exact ⟨k + 1 + 1, fr, true, xs, by omega, by go_num, rfl, rfl, HO.out, HE.out, HB.out⟩
        case measure => simp [intOf]; omega
      · by_cases hc2 : s[k] = 34
        · have h34 : ((s[k].toNat : Int) == 34) = true := by rw [e34]; simp [hc2]
          have h92 : ((s[k].toNat : Int) == 92) = false := by rw [e92, hc2]; decide
          have HE := Lib.hid (cp_quote HS.out hlt hc2)
          have HO := Lib.hid hown
          clear hc2 hown hc1
          cases q
          all_goals
            go_wp2
            go_roundw
            case rel => exact ⟨k + 1, fr, _, xs, by omega, by go_num, rfl, rfl, HO.out, HE.out, HB.out⟩
            case measure => simp [intOf]; omega
        · have h34 : ((s[k].toNat : Int) == 34) = false := by rw [e34]; simpa using hc2
          by_cases hc3 : q = false ∧ s[k] = 44
          · obtain ⟨rfl, hc⟩ := hc3
            have h44 : ((s[k].toNat : Int) == 44) = true := by rw [e44]; simp [hc]
            have HE := Lib.hid (cp_comma HS.out hlt hc)
            clear hc hc2 hc1
            go_wp2_with (at_builtin; refine wpList_append_own _ rfl (.tmp 43) (.tmp 48) 72 rfl w.heap.size 9 i0 (.string ⟨#[]⟩) 1 16 Tryz.underlying72 hi hz0 hz1 hz2 rfl (by decide) _ _ _ rfl (hown.alloc _) ⟨wr.heap.size, 0, none⟩ 1 1 [.string (s.extract fr k)] rfl rfl (Strs.news_one _ _ _) (by intro u hu; simp at hu; subst hu; rfl) (by have := HX.out; unfold maxLen; omega) (by have := HX.out; omega) (by simp; omega) ?_; intro v1 w1 hown1 hg1 _)
            have R := Lib.hid (Strs.push_own (x := (s.extract fr k).data.toList) hown HB.out (Nat.le_refl _) (by rw [sv_ext]; exact hown1) hg1)
            clear hown hown1 hg1
            go_wp2
            go_roundw
            case rel => exact ⟨k + 1, k + 1, false, _, by omega, by go_num, by go_num, rfl, R.out.1, HE.out, R.out.2⟩
            case measure => simp [intOf]; omega
          · have HE := Lib.hid (cp_plain HS.out hlt (fun h1 h2 => hc1 ⟨h1, h2⟩) hc2 (fun h1 h2 => hc3 ⟨h1, h2⟩))
            have HO := Lib.hid hown
            have HC1 := Lib.hid hc1
            have HC3 := Lib.hid hc3
            clear hc2 hc1 hc3 hown
            cases q
            · have h44 : ((s[k].toNat : Int) == 44) = false := by rw [e44]; simp; intro h; exact HC3.out ⟨rfl, h⟩
              go_wp2
              go_roundw
              case rel => exact ⟨k + 1, fr, false, xs, by omega, by go_num, rfl, rfl, HO.out, HE.out, HB.out⟩
              case measure => simp [intOf]; omega
            · have h92 : ((s[k].toNat : Int) == 92) = false := by rw [e92]; simp; intro h; exact HC1.out ⟨rfl, h⟩
              go_wp2
              go_roundw
              case rel => exact ⟨k + 1, fr, true, xs, by omega, by go_num, rfl, rfl, HO.out, HE.out, HB.out⟩
              case measure => simp [intOf]; omega
    · have HE := Lib.hid (cp_end HS.out (by omega))
      have HL := Lib.hid (cuts_len HS.out (by omega) hk)
      go_wp2_with (at_builtin; refine wpList_append_own _ rfl (.tmp 52) (.tmp 56) 72 rfl w.heap.size 9 i0 (.string ⟨#[]⟩) 1 16 Tryz.underlying72 hi hz0 hz1 hz2 rfl (by decide) _ _ _ rfl (hown.alloc _) ⟨wr.heap.size, 0, none⟩ 1 1 [.string (s.extract fr s.size)] rfl rfl (Strs.news_one _ _ _) (by intro u hu; simp at hu; subst hu; rfl) (by have := HX.out; unfold maxLen; omega) (by have := HX.out; omega) (by simp; omega) ?_; intro v1 w1 hown1 hg1 _)
      have R := Lib.hid (Strs.push_own (x := (s.extract fr s.size).data.toList) hown HB.out (Nat.le_refl _) (by rw [sv_ext]; exact hown1) hg1)
      clear hown hown1 hg1
      go_wp2
      go_ret
      exact ⟨_, rfl, by rw [← HE.out]; exact R.out.1, by rw [list_len]; exact HL.out, R.out.2⟩

theorem take_keep {L : List (List UInt8)} {k : Nat} (h : k < L.length) : keep (L.take (k + 1)) = keep (L.take k) ++ keep [L.getD k []] := by
  rw [List.take_succ_eq_append_getElem h, keep_append]; simp [List.getD, h]
theorem keep_len (L : List (List UInt8)) : (keep L).length ≤ L.length := by unfold keep; exact Nat.le_trans (List.length_filter_le _ _) (by simp)

set_option maxHeartbeats 2000000 in
theorem spec_split (s : ByteArray) (w : World) (hs : s.size ≤ 4194304) :
    Calls Tryz.prog 239 #[.string s] w (SplitEnd s.data.toList w) := by
  obtain ⟨i0, hi, hz0, hz1, hz2⟩ := info_parts Strs.info_str
  go_enter Tryz.func239, Tryz.ntmps239
  go_wp2_with (fail)
  go_at_call 272
  refine (spec_cut s _ hs).mono ?_
  rintro e w1 ⟨vl, rfl, hown, hlen, hb1⟩
  have HX := Lib.hid (show s.data.toList.length ≤ 4194304 by rw [list_len]; exact hs)
  have HSP : Hid (split s.data.toList = keep (cuts false s.data.toList)) := Lib.hid rfl
  have HH := Lib.hid (Strs.own_holds hown)
  have hne := cuts_ne false s.data.toList
  have HEL := Lib.hid (cuts_elem _ false s.data.toList (Nat.le_refl _))
  generalize cuts false s.data.toList = L at *
  have HB := Lib.hid hb1
  have hbs := hb1.size
  have h0 : 0 < L.length := List.length_pos_iff.2 hne
  have HO := Lib.hid (Strs.own_lit_nil w1)
  obtain ⟨b, off, cap, hv, hbl, hcap, hat⟩ : ∃ b off cap, vl = .slice (some ⟨b, off, none⟩) L.length cap ∧ b < w1.heap.size ∧ L.length ≤ cap ∧ Strs.At w1 b off L := by
    rcases HH.out with ⟨h, _⟩ | ⟨_, b, off, cap, h1, h2, h3, h4⟩
    · exact absurd h hne
    · exact ⟨b, off, cap, h1, h2, h3, h4⟩
  subst hv
  have HA := Lib.hid hat
  have HL := Lib.hid hlen
  clear hown hat hb1 hlen hne
  go_wp2
  go_loopw [4, 5] (fun v i wr => ∃ k : Nat, k ≤ L.length ∧ i = .int .i64 (k : Int) ∧ Strs.Own wr w1.heap.size v (keep (L.take k)) ∧ Below w1.heap.size w1 wr) (fun _ i _ => L.length - (intOf i).toNat)
  case atStart => exact ⟨0, Nat.zero_le _, rfl, by rw [List.take_zero]; exact HO.out, (Below.refl _ _).alloc (Nat.le_refl _) _⟩
  case round =>
    clear HO
    obtain ⟨k, hk, rfl, hown, hb⟩ := hrel
    have hl2 : L.length ≤ 4194306 := by have := HL.out; have := HX.out; omega
    by_cases hlt : k < L.length
    · have hcell : wr.cell? ⟨b, off + k, none⟩ = some (Strs.sv (L.getD k [])) := Strs.at_below HA.out hb hbl k hlt
      have HM := Lib.hid (take_keep hlt)
      rw [keep_one] at HM
      have HC := Lib.hid (show (keep (L.take k)).length ≤ 4194306 by have h1 := keep_len (L.take k); have h2 := List.length_take_le k L; omega)
      have HZ : Hid ((L.getD k []).length ≤ 4194304) := Lib.hid (by
        have hm : L.getD k [] ∈ L := by
          rw [show L.getD k [] = L[k] by simp [List.getD, hlt]]; exact List.getElem_mem _
        have h1 := HEL.out _ hm; have h2 := HX.out; omega)
      generalize L.getD k [] = x at hcell HM HZ
      have c1 : Calls Tryz.prog 162 #[.string ⟨x.toArray⟩] wr fun e w' => e = .returned (.string ⟨(trim x).toArray⟩) ∧ wr = w' := spec_trim ⟨x.toArray⟩ wr (Nat.le_trans HZ.out (by decide))
      generalize trim x = y at c1 HM
      unfold Strs.sv at hcell
      have HBR := Lib.hid hb
      have hbr := hb.size
      have hsl := Strs.svs_len (keep (L.take k))
      clear hb
      cases y with
      | nil =>
        rw [if_pos rfl, List.append_nil] at HM
        have HO := Lib.hid hown
        clear hown
        go_wp2_with (fail)
        go_at_call 162
        refine c1.mono ?_
        rintro e w' ⟨rfl, rfl⟩
        go_wp2
        go_roundw
        case rel => exact ⟨k + 1, by omega, by go_num, by rw [HM.out]; exact HO.out, HBR.out⟩
        case measure => simp [intOf]; omega
      | cons c r =>
        rw [if_neg (by simp)] at HM
        go_wp2_with (fail)
        go_at_call 162
        refine c1.mono ?_
        rintro e w' ⟨rfl, rfl⟩
        go_wp2_with (at_builtin; refine wpList_append_own _ rfl (.tmp 23) (.tmp 25) 72 rfl w1.heap.size 9 i0 (.string ⟨#[]⟩) 1 16 Tryz.underlying72 hi hz0 hz1 hz2 rfl (by decide) _ _ _ rfl (hown.alloc _) ⟨wr.heap.size, 0, none⟩ 1 1 [Strs.sv (c :: r)] rfl rfl (Strs.news_one _ _ _) (Strs.sv_one _) (by have := HC.out; unfold maxLen; omega) (by have := HC.out; omega) (by simp; omega) ?_; intro v1 w2 hown1 hg1 _)
        have R := Lib.hid (Strs.push_own (x := c :: r) hown HBR.out (Nat.le_refl _) hown1 hg1)
        clear hown hown1 hg1
        go_wp2
        go_roundw
        case rel => exact ⟨k + 1, by omega, by go_num, by rw [HM.out]; exact R.out.1, R.out.2⟩
        case measure => simp [intOf]; omega
    · obtain rfl : k = L.length := by omega
      rw [List.take_length] at hown
      have HE := Lib.hid (And.intro hown hb)
      clear hown hb
      go_wp2
      go_ret
      exact ⟨_, rfl, by rw [HSP.out]; exact own_mono HE.out.1 hbs, HB.out.trans (HE.out.2.mono hbs)⟩
end Go.Proofs.YtndbhjgfaghelaaGreatDoor.Tx

/-
  PLAIN FACTS: how long the elements of a list that is divided are, and how many.
-/
namespace Go.Proofs.YtndbhjgfaghelaaGreatDoor.Tx
set_option linter.unusedVariables false
set_option maxRecDepth 1000000
theorem trim_short (l : List UInt8) : (trim l).length ≤ l.length := by
  unfold trim triml trimr
  have h1 := (List.dropWhile_sublist blk (l := (l.reverse.dropWhile blk).reverse)).length_le
  have h2 := (List.dropWhile_sublist blk (l := l.reverse)).length_le
  simp at h1 h2 ⊢; omega
theorem split_elem (l : List UInt8) : ∀ x ∈ split l, x.length ≤ l.length := by
  intro x hx
  unfold split keep at hx
  obtain ⟨y, hy, rfl⟩ := List.mem_map.1 (List.mem_filter.1 hx).1
  have h1 := cuts_elem _ false l (Nat.le_refl _) y hy
  have h2 := trim_short y
  omega
theorem split_count (l : List UInt8) : (split l).length ≤ l.length + 1 := by
  have h := cuts_count _ false l (Nat.le_refl _)
  have h2 := keep_len (cuts false l)
  unfold split; omega
end Go.Proofs.YtndbhjgfaghelaaGreatDoor.Tx

/-
  CONTRACTS of how a selecting field is read (the program's selectingValue) and of both sides' VisitorOf; nothing that was there before is changed.
-/
namespace Go.Proofs.YtndbhjgfaghelaaGreatDoor.Sel
open Go Go.RowKit
set_option linter.unusedVariables false
set_option maxRecDepth 1000000

/-- The value of a selecting field. -/
def selv (n : List UInt8) (l : List Flds.Fld) : List UInt8 := Tx.join (Tx.split (Flds.got n l))
def TxtEnd (t : List UInt8) (w : World) (e : Ending) (w' : World) : Prop := e = .returned (.string ⟨t.toArray⟩) ∧ Below w.heap.size w w'
theorem push_sum (p : List UInt8) (L : List (List UInt8)) : ((Tx.push p L).map (·.length)).sum ≤ p.length + (L.map (·.length)).sum := by
  cases L with
  | nil => simp [Tx.push]
  | cons a r => simp [Tx.push]; omega
theorem cuts_sum : ∀ n q (l : List UInt8), l.length ≤ n → ((Tx.cuts q l).map (·.length)).sum ≤ l.length := by
  intro n
  induction n with
  | zero => intro q l hl; rw [List.length_eq_zero_iff.1 (by omega : l.length = 0), Tx.cuts_nil]; simp
  | succ n ih =>
    intro q l hl
    cases l with
    | nil => rw [Tx.cuts_nil]; simp
    | cons c r =>
      simp at hl
      rw [Tx.cuts_cons]
      split
      · have h1 := push_sum (c :: r.take 1) (Tx.cuts true (r.drop 1))
        have h2 := ih true (r.drop 1) (by simp; omega)
        have h3 : (r.take 1).length + (r.drop 1).length = r.length := by simp; omega
        rw [List.length_cons] at h1 ⊢; omega
      · split
        · have h1 := push_sum [c] (Tx.cuts (!q) r); have h2 := ih (!q) r hl; rw [List.length_cons] at h1 ⊢; rw [List.length_nil] at h1; omega
        · split
          · have h2 := ih false r hl; rw [List.map_cons, List.sum_cons, List.length_nil, List.length_cons]; omega
          · have h1 := push_sum [c] (Tx.cuts q r); have h2 := ih q r hl; rw [List.length_cons] at h1 ⊢; rw [List.length_nil] at h1; omega
theorem keep_sum : ∀ L : List (List UInt8), ((Tx.keep L).map (·.length)).sum ≤ (L.map (·.length)).sum
  | [] => by simp [Tx.keep]
  | x :: r => by
    have h := keep_sum r
    have e : Tx.keep (x :: r) = Tx.keep [x] ++ Tx.keep r := Tx.keep_append [x] r
    have h2 := Tx.trim_short x
    rw [e, Tx.keep_one, List.map_append, List.sum_append, List.map_cons, List.sum_cons]
    split
    · simp; omega
    · simp; omega
theorem split_total (l : List UInt8) : Strs.total (Tx.split l) ≤ 2 * l.length + 1 := by
  have h1 := keep_sum (Tx.cuts false l)
  have h2 := cuts_sum _ false l (Nat.le_refl _)
  have h3 := Tx.split_count l
  unfold Strs.total
  unfold Tx.split at h3 ⊢
  omega
theorem selv_len (n : List UInt8) (l : List Flds.Fld) : (selv n l).length ≤ 20 * Flds.total l + 20 := by
  have h1 := Tx.join_len (Tx.split (Flds.got n l)) (Tx.split (Flds.got n l)).length (Nat.le_refl _)
  rw [List.take_length] at h1
  have h2 := Tx.pre_le (Tx.split (Flds.got n l)) (Tx.split (Flds.got n l)).length
  have h3 := split_total (Flds.got n l)
  have h4 := Flds.got_len n l
  unfold Strs.total at h3
  unfold selv
  omega
theorem big (n : List UInt8) {l : List Flds.Fld} (hl : Flds.total l ≤ 1048576) : (⟨(Flds.got n l).toArray⟩ : ByteArray).size ≤ 4194304 ∧ Strs.total (Tx.split (Flds.got n l)) ≤ 67108864 := by
  have h4 := Flds.got_len n l
  have h3 := split_total (Flds.got n l)
  refine ⟨by simp [ByteArray.size]; omega, by omega⟩

end Go.Proofs.YtndbhjgfaghelaaGreatDoor.Sel

/-
  CONTRACTS of both sides' VisitorOf; nothing that was there before is changed.
-/
namespace Go.Proofs.YtndbhjgfaghelaaGreatDoor.Sel
open Go Go.RowKit
set_option linter.unusedVariables false
set_option maxRecDepth 1000000
def visN : List UInt8 := [97, 117, 116, 104, 111, 114, 105, 122, 97, 116, 105, 111, 110]
/-- The visitor that a request names. -/
def vis (l : List Flds.Fld) : List UInt8 := if Tx.token (selv visN l) = true ∧ (selv visN l).length ≤ 20 then selv visN l else []
theorem vis_len (l : List Flds.Fld) : (vis l).length ≤ 20 := by unfold vis; split; omega; simp
theorem ret_v {a b : List UInt8} (h : a = b) : Ending.returned (.string ⟨a.toArray⟩) = .returned (.string ⟨b.toArray⟩) := by rw [h]
theorem spec_tok (l : List UInt8) (w : World) (hl : l.length ≤ 4000000000) : Calls Tryz.prog 116 #[.string ⟨l.toArray⟩] w fun e w' => e = .returned (.bool (Tx.token l)) ∧ w = w' := by
  have := Tx.spec_token ⟨l.toArray⟩ w (by simp [ByteArray.size]; omega)
  simpa using this
theorem impl_tok (l : List UInt8) (w : World) (hl : l.length ≤ 4000000000) : Calls Tryz.prog 108 #[.string ⟨l.toArray⟩] w fun e w' => e = .returned (.bool (Tx.token l)) ∧ w = w' := by
  have := Tx.impl_token ⟨l.toArray⟩ w (by simp [ByteArray.size]; omega)
  simpa using this

set_option maxHeartbeats 1000000 in
theorem spec_vis (m ho t : List UInt8) (v : Value) (B : Nat) (l : List Flds.Fld) (w : World) (h : Flds.Holds w B v l) (hB : B ≤ w.heap.size) (hl : Flds.total l ≤ 1048576) :
    Calls Tryz.prog 185 #[.agg #[.string ⟨m.toArray⟩, .string ⟨ho.toArray⟩, .string ⟨t.toArray⟩, v]] w (TxtEnd (vis l) w) := by
  have HB0 : Hid (Below w.heap.size w (w.alloc (.cells #[.string ⟨m.toArray⟩, .string ⟨ho.toArray⟩, .string ⟨t.toArray⟩, v] 48))) := Lib.hid ((Below.refl _ _).alloc (Nat.le_refl _) _)
  have HG := Lib.hid (Flds.spec_lget v B l visN _ (Flds.holds_below h (HB0.out.mono hB)) (by omega))
  obtain ⟨b1, b2⟩ := big visN hl
  have HSP := Lib.hid (fun W => Tx.spec_split ⟨(Flds.got visN l).toArray⟩ W b1)
  have HJ := Lib.hid (fun u B W (h : Strs.Holds W B u (Tx.split (Flds.got visN l))) => Tx.spec_join u B _ W h b2)
  have HTK := Lib.hid (fun W => spec_tok (selv visN l) W (by have := selv_len visN l; omega))
  have HLE := selv_len visN l
  have HE1 : Hid (Tx.token (selv visN l) = false → vis l = []) := Lib.hid (fun h => by unfold vis; rw [h]; simp)
  have HE2 : Hid (Tx.token (selv visN l) = true → 20 < (selv visN l).length → vis l = []) := Lib.hid (fun h h2 => by unfold vis; rw [if_neg (by omega)])
  have HE3 : Hid (Tx.token (selv visN l) = true → (selv visN l).length ≤ 20 → vis l = selv visN l) := Lib.hid (fun h h2 => by unfold vis; rw [if_pos ⟨h, h2⟩])
  unfold Flds.GotEnd at HG
  unfold Tx.SplitEnd at HSP
  unfold Tx.JoinEnd at HJ
  unfold TxtEnd
  have hsv : selv visN l = Tx.join (Tx.split (Flds.got visN l)) := rfl
  rw [← hsv] at HJ
  have hrl : (selv visN l).length ≤ 4000000000 := by omega
  clear h hl b1 b2 HLE hsv
  generalize selv visN l = r at HJ HTK HE1 HE2 HE3 hrl
  generalize vis l = z at HE1 HE2 HE3 ⊢
  generalize Flds.got visN l = g at HG HSP HJ
  have he : (⟨g.toArray⟩ : ByteArray).data.toList = g := by simp
  rw [he] at HSP
  clear he
  generalize Tx.split g = xs at HSP HJ
  unfold visN at HG
  cases hk : Tx.token r
  all_goals
    rw [hk] at HTK HE1 HE2 HE3
    clear hk
    go_enter Tryz.func185, Tryz.ntmps185
    go_wp2_with (fail)
    go_at_call 50
    refine HG.out.mono ?_
    rintro e w1 ⟨rfl, hb1⟩
    have HB1 := Lib.hid (HB0.out.trans (hb1.mono HB0.out.size))
    clear hb1
    go_wp2_with (fail)
    go_at_call 239
    refine (HSP.out _).mono ?_
    rintro e w2 ⟨u, rfl, ho2, hb2⟩
    have HB2 := Lib.hid (Base.then_below HB1.out hb2)
    have HO := Lib.hid (HJ.out u _ _ (Strs.own_holds ho2))
    clear hb2 ho2
    go_wp2_with (fail)
    go_at_call 138
    refine HO.out.mono ?_
    rintro e w3 ⟨rfl, hb3⟩
    have HB3 := Lib.hid (Base.then_below HB2.out hb3)
    clear hb3
    go_wp2_with (fail)
    go_at_call 116
    refine (HTK.out _).mono ?_
    rintro e w4 ⟨rfl, rfl⟩
  · go_wp2
    go_ret
    exact ⟨ret_v (HE1.out (by trivial)).symm, HB3.out⟩
  · have hsz : (⟨r.toArray⟩ : ByteArray).size = r.length := by simp [ByteArray.size]
    by_cases h20 : 20 < (r.length : Int)
    · go_wp2
      go_ret
      exact ⟨ret_v (HE2.out (by trivial) (by omega)).symm, HB3.out⟩
    · go_wp2
      go_ret
      exact ⟨ret_v (HE3.out (by trivial) (by omega)).symm, HB3.out⟩

end Go.Proofs.YtndbhjgfaghelaaGreatDoor.Sel

/-
  CONTRACTS of the program's tests of a page's keys and languages (areKeys, areLangs, areDistinct); nothing that was there before is changed.
-/
namespace Go.Proofs.YtndbhjgfaghelaaGreatDoor.Orc
open Go Go.RowKit
set_option linter.unusedVariables false
set_option maxRecDepth 1000000
set_option maxRecDepth 1000000

theorem ret_bb {a b : Bool} (h : a = b) : Ending.returned (.bool a) = .returned (.bool b) := by rw [h]
theorem split_call (s : List UInt8) (w : World) (hs : s.length ≤ 4194304) (hm : Sh.MxL w) :
    Calls Tryz.prog 173 #[.string ⟨s.toArray⟩, .string ⟨#[32]⟩] w fun e w' => e = .returned (.slice (some ⟨w.heap.size, 0, none⟩) (Spc.spl 32 s).length (Spc.spl 32 s).length) ∧ w' = w.alloc (.cells ((Lib.splitB ⟨#[32]⟩ 0 (Lib.countB ⟨s.toArray⟩ ⟨#[32]⟩) ⟨s.toArray⟩).map Value.string).toArray 9) := by
  obtain ⟨hg, m, hc⟩ := hm
  have hl := Spc.split_len 32 ⟨s.toArray⟩
  have ha := Lib.splitB_all ⟨#[32]⟩ (by decide) 0 _ ⟨s.toArray⟩ rfl
  rw [hl] at ha
  have h := Tryz.strings_Split ⟨s.toArray⟩ ⟨#[32]⟩ m w (by simp [ByteArray.size]; omega) hc (by decide)
  rw [← ha] at h
  exact h
theorem split_holds (s : List UInt8) (u : World) : Strs.Holds (u.alloc (.cells ((Lib.splitB ⟨#[32]⟩ 0 (Lib.countB ⟨s.toArray⟩ ⟨#[32]⟩) ⟨s.toArray⟩).map Value.string).toArray 9)) (u.heap.size + 1) (.slice (some ⟨u.heap.size, 0, none⟩) (Spc.spl 32 s).length (Spc.spl 32 s).length) (Spc.spl 32 s) := by
  have hp := Spc.split_spl 32 ⟨s.toArray⟩
  have hne := Spc.spl_ne 32 s
  rw [show (⟨s.toArray⟩ : ByteArray).data.toList = s from rfl] at hp
  refine Or.inr ⟨List.length_pos_iff.2 hne, _, 0, _, rfl, Nat.lt_succ_self _, Nat.le_refl _, fun j hj => ?_⟩
  rw [World.cell?_alloc_new, ← hp]
  rw [← hp, List.length_map] at hj
  generalize Lib.splitB ⟨#[32]⟩ 0 (Lib.countB ⟨s.toArray⟩ ⟨#[32]⟩) ⟨s.toArray⟩ = zs at hj ⊢
  have h1 : (zs.map (fun x : ByteArray => x.data.toList)).getD j [] = zs[j].data.toList := by simp [List.getD, hj]
  rw [h1, Spc.sv_ext]
  simp [hj]

/-- The closure of areKeys. -/
theorem clo_key (x : List UInt8) (w : World) (hx : x.length ≤ 1048576) :
    Calls Tryz.prog 175 #[.string ⟨x.toArray⟩] w fun e w' => e = .returned (.bool (!Tx.token x)) ∧ Below w.heap.size w w' := by
  have HT := Lib.hid (fun W => Sel.impl_tok x W (by omega))
  generalize Tx.token x = q at HT ⊢
  cases q with
  | false =>
    go_enter Tryz.func175, Tryz.ntmps175
    go_wp2_with (fail)
    go_at_call 108
    refine (HT.out _).mono ?_
    rintro e w' ⟨rfl, rfl⟩
    go_wp2
    go_ret
    exact ⟨rfl, Below.refl _ _⟩
  | true =>
    go_enter Tryz.func175, Tryz.ntmps175
    go_wp2_with (fail)
    go_at_call 108
    refine (HT.out _).mono ?_
    rintro e w' ⟨rfl, rfl⟩
    go_wp2
    go_ret
    exact ⟨rfl, Below.refl _ _⟩
theorem not_any (l : List (List UInt8)) (f : List UInt8 → Bool) : (!l.any (fun x => !f x)) = l.all f := by
  induction l with
  | nil => rfl
  | cons a r ih => simp only [List.any_cons, List.all_cons, Bool.not_or, Bool.not_not, ih]

set_option maxHeartbeats 4000000 in
theorem impl_keys (s : List UInt8) (w : World) (hs : s.length ≤ 1048576) (hm : Sh.MxL w) :
    Calls Tryz.prog 125 #[.string ⟨s.toArray⟩] w fun e w' => e = .returned (.bool (keysOk s)) ∧ Below w.heap.size w w' := by
  by_cases h0 : s = []
  · subst h0
    go_enter Tryz.func125, Tryz.ntmps125
    go_wp2
    go_ret
    exact ⟨rfl, Below.refl _ _⟩
  · have hsb : (s == []) = false := by simpa using h0
    have HSP := Lib.hid (split_call s w (by omega) hm)
    have hll := Spc.spl_len 32 s
    have HOW : Hid (∀ W, W = w.alloc (.cells ((Lib.splitB ⟨#[32]⟩ 0 (Lib.countB ⟨s.toArray⟩ ⟨#[32]⟩) ⟨s.toArray⟩).map Value.string).toArray 9) → Below w.heap.size w W ∧ Strs.Holds W (w.heap.size + 1) (.slice (some ⟨w.heap.size, 0, none⟩) (Spc.spl 32 s).length (Spc.spl 32 s).length) (Spc.spl 32 s)) := Lib.hid (fun W e => by
      subst e
      exact ⟨(Below.refl _ _).alloc (Nat.le_refl _) _, split_holds s w⟩)
    have HXL : Hid (∀ x ∈ Spc.spl 32 s, x.length ≤ 1048576) := Lib.hid (fun x hx => Nat.le_trans (Spc.spl_mem 32 s x hx) hs)
    have HK : Hid (keysOk s = ((Spc.spl 32 s).all Tx.token && decide ((Spc.spl 32 s).length ≤ 4))) := Lib.hid (by unfold keysOk; rw [show s.isEmpty = false by simpa using h0]; rfl)
    generalize keysOk s = res at HK ⊢
    generalize Spc.spl 32 s = L at *
    generalize w.alloc (.cells ((Lib.splitB ⟨#[32]⟩ 0 (Lib.countB ⟨s.toArray⟩ ⟨#[32]⟩) ⟨s.toArray⟩).map Value.string).toArray 9) = W1 at HSP HOW
    have HOW1 := Lib.hid (HOW.out W1 rfl)
    have HC := Lib.hid (Cts.cont_any 175 (fun x => !Tx.token x) _ _ L W1 (fun args w => rfl) (fun x hx W hb => clo_key x W (HXL.out x hx)) HOW1.out.2 (by omega))
    rw [show L.any (fun x => !Tx.token x) = !L.all Tx.token by rw [← not_any, Bool.not_not]] at HC
    clear HOW hm HXL
    go_enter Tryz.func125, Tryz.ntmps125
    go_wp2_with (fail)
    go_at_call 173
    refine HSP.out.mono ?_
    rintro e w1 ⟨rfl, rfl⟩
    by_cases h4 : L.length ≤ 4
    · have h4i : (L.length : Int) ≤ 4 := by omega
      have HZ : Hid (res = L.all Tx.token) := Lib.hid (by rw [HK.out, decide_eq_true h4, Bool.and_true])
      generalize L.all Tx.token = q at HC HZ
      clear HK
      cases q with
      | false =>
        go_wp2_with (fail)
        go_at_call 174
        refine HC.out.mono ?_
        rintro e w2 ⟨rfl, b2⟩
        have HB2 := Lib.hid (Base.then_below HOW1.out.1 b2)
        clear b2
        go_wp2
        go_ret
        exact ⟨ret_bb HZ.out.symm, HB2.out⟩
      | true =>
        go_wp2_with (fail)
        go_at_call 174
        refine HC.out.mono ?_
        rintro e w2 ⟨rfl, b2⟩
        have HB2 := Lib.hid (Base.then_below HOW1.out.1 b2)
        clear b2
        go_wp2
        go_ret
        exact ⟨ret_bb HZ.out.symm, HB2.out⟩
    · have h4i : ¬ (L.length : Int) ≤ 4 := by omega
      have HZ : Hid (res = false) := Lib.hid (by rw [HK.out, decide_eq_false h4, Bool.and_false])
      clear HK
      go_wp2
      go_ret
      exact ⟨ret_bb HZ.out.symm, HOW1.out.1⟩

/-- All texts of the list differ. -/
theorem impl_dist (v : Value) (B : Nat) (xs : List (List UInt8)) (w : World) (h : Strs.Holds w B v xs) (hB : B ≤ w.heap.size) (hl : xs.length ≤ 8000000) (hx : ∀ x ∈ xs, x.length ≤ 4194304) :
    Calls Tryz.prog 75 #[v] w fun e w' => e = .returned (.bool (decide (onceN xs = xs.length))) ∧ Below w.heap.size w w' := by
  obtain ⟨a, cap, rfl, _⟩ := Onc.shape_s h
  have HC := Lib.hid (Onc.impl_once _ B xs w h hB hl hx)
  have hn : (Onc.once xs).length = onceN xs := rfl
  have hle := Onc.once_len xs
  unfold Onc.OncEnd at HC
  have HR : Hid (decide (onceN xs = xs.length) = decide ((Onc.once xs).length = xs.length)) := Lib.hid rfl
  generalize decide (onceN xs = xs.length) = res at HR ⊢
  clear h hx hn
  go_enter Tryz.func75, Tryz.ntmps75
  go_wp2_with (fail)
  go_at_call 128
  refine HC.out.mono ?_
  rintro e w1 ⟨u, rfl, ho, b1⟩
  obtain ⟨g, cap1, rfl⟩ : ∃ g c, u = .slice g (Onc.once xs).length c := by
    rcases Strs.own_holds ho with ⟨he, a, cap, rfl⟩ | ⟨_, b, off, cap, rfl, _⟩
    · exact ⟨a, cap, by rw [he]; rfl⟩
    · exact ⟨_, _, rfl⟩
  have HB1 := Lib.hid b1
  clear b1 ho
  generalize (Onc.once xs).length = m at *
  by_cases hq : m = xs.length
  · have hqi : (m : Int) = (xs.length : Int) := by omega
    go_wp2
    go_ret
    exact ⟨ret_bb (by rw [HR.out]; simp [hq]), HB1.out⟩
  · have hqi : ¬ (m : Int) = (xs.length : Int) := by omega
    have hqb : ((m : Int) == (xs.length : Int)) = false := by simp; omega
    go_wp2
    go_ret
    exact ⟨ret_bb (by rw [HR.out]; simp [hq]), HB1.out⟩

/-- The closure of areLangs. -/
theorem clo_lang (x : List UInt8) (w : World) (hx : x.length ≤ 1048576) :
    Calls Tryz.prog 176 #[.string ⟨x.toArray⟩] w fun e w' => e = .returned (.bool (!langForm x)) ∧ Below w.heap.size w w' := by
  by_cases h8 : x.length ≤ 8
  · have h8i : ¬ (8 : Int) < (x.length : Int) := by omega
    by_cases hst : x = [42]
    · subst hst
      go_enter Tryz.func176, Tryz.ntmps176
      go_wp2
      go_ret
      exact ⟨ret_bb (by decide), Below.refl _ _⟩
    · have hsb : (x == [42]) = false := by simpa using hst
      have HT := Lib.hid (fun W => Tx.impl_name x W (by omega))
      have HZ : Hid ((!langForm x) = !Tx.nameOk x) := Lib.hid (by unfold langForm; rw [hsb, decide_eq_true h8]; simp)
      generalize (!langForm x) = res at HZ ⊢
      generalize Tx.nameOk x = q at HT HZ
      cases q with
      | false =>
        go_enter Tryz.func176, Tryz.ntmps176
        go_wp2_with (fail)
        go_at_call 177
        refine (HT.out _).mono ?_
        rintro e w' ⟨rfl, b1⟩
        have HB := Lib.hid b1
        clear b1
        go_wp2
        go_ret
        exact ⟨ret_bb HZ.out.symm, HB.out⟩
      | true =>
        go_enter Tryz.func176, Tryz.ntmps176
        go_wp2_with (fail)
        go_at_call 177
        refine (HT.out _).mono ?_
        rintro e w' ⟨rfl, b1⟩
        have HB := Lib.hid b1
        clear b1
        go_wp2
        go_ret
        exact ⟨ret_bb HZ.out.symm, HB.out⟩
  · have h8i : (8 : Int) < (x.length : Int) := by omega
    have HZ : Hid ((!langForm x) = true) := Lib.hid (by unfold langForm; rw [decide_eq_false h8]; simp)
    generalize (!langForm x) = res at HZ ⊢
    go_enter Tryz.func176, Tryz.ntmps176
    go_wp2
    go_ret
    exact ⟨ret_bb HZ.out.symm, Below.refl _ _⟩

set_option maxHeartbeats 4000000 in
theorem impl_langs (v : Value) (B : Nat) (gs : List (List UInt8)) (w : World) (h : Strs.Holds w B v gs) (hB : B ≤ w.heap.size) (hl : gs.length ≤ 1048576) (hx : ∀ x ∈ gs, x.length ≤ 1048576) :
    Calls Tryz.prog 126 #[v] w fun e w' => e = .returned (.bool (decide (gs.length ≤ 4) && (decide (onceN gs = gs.length) && gs.all langForm))) ∧ Below w.heap.size w w' := by
  obtain ⟨a, cap, rfl, _⟩ := Onc.shape_s h
  have HD := Lib.hid (impl_dist _ B gs w h hB (by omega) (fun x hq => by have := hx x hq; omega))
  have HC := Lib.hid (fun W (hb : Below w.heap.size w W) => Cts.cont_any 176 (fun x => !langForm x) _ _ gs W (fun args w => rfl) (fun x hq W hb => clo_lang x W (hx x hq)) (Strs.holds_below h (hb.mono hB)) (by omega))
  rw [show gs.any (fun x => !langForm x) = !gs.all langForm by rw [← not_any, Bool.not_not]] at HC
  generalize gs.all langForm = q at HC ⊢
  clear h hx
  by_cases h4 : gs.length ≤ 4
  · have h4i : (gs.length : Int) ≤ 4 := by omega
    rw [decide_eq_true h4, Bool.true_and]
    generalize decide (onceN gs = gs.length) = p at HD ⊢
    cases p with
    | false =>
      go_enter Tryz.func126, Tryz.ntmps126
      go_wp2_with (fail)
      go_at_call 75
      refine HD.out.mono ?_
      rintro e w1 ⟨rfl, b1⟩
      have HB := Lib.hid b1
      clear b1
      go_wp2
      go_ret
      exact ⟨rfl, HB.out⟩
    | true =>
      go_enter Tryz.func126, Tryz.ntmps126
      go_wp2_with (fail)
      go_at_call 75
      refine HD.out.mono ?_
      rintro e w1 ⟨rfl, b1⟩
      have HB := Lib.hid b1
      clear b1
      cases q with
      | false =>
        go_wp2_with (fail)
        go_at_call 174
        refine (HC.out _ HB.out).mono ?_
        rintro e w2 ⟨rfl, b2⟩
        have HB2 := Lib.hid (Base.then_below HB.out b2)
        clear b2
        go_wp2
        go_ret
        exact ⟨rfl, HB2.out⟩
      | true =>
        go_wp2_with (fail)
        go_at_call 174
        refine (HC.out _ HB.out).mono ?_
        rintro e w2 ⟨rfl, b2⟩
        have HB2 := Lib.hid (Base.then_below HB.out b2)
        clear b2
        go_wp2
        go_ret
        exact ⟨rfl, HB2.out⟩
  · have h4i : ¬ (gs.length : Int) ≤ 4 := by omega
    rw [decide_eq_false h4, Bool.false_and]
    go_enter Tryz.func126, Tryz.ntmps126
    go_wp2
    go_ret
    exact ⟨rfl, Below.refl _ _⟩
end Go.Proofs.YtndbhjgfaghelaaGreatDoor.Orc
