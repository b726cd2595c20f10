/-
  CONTRACTS AND PLAIN FACTS, several texts in one; each says in its own words what it proves.
-/
import Derived.Test.YtobhdfkhfmpdlaaGreatDoorPartK
import Derived.Test.YtobhdfkhfmpdlaaGreatDoorPartF
import Derived.Laws.DeepStrings4
set_option linter.unusedSimpArgs false
set_option linter.unusedVariables false

/-
  CONTRACTS of the model's l4Cut (at a comma) and SplitList: at every text they return the parts between the commas outside quoted strings, and the trimmed ones that are not empty, in memory of their own; nothing that was there before is changed.
-/
namespace Go.Proofs.YtobhdfkhfmpdlaaGreatDoor.Tx
open Go Go.RowKit
set_option linter.unusedVariables false
set_option maxRecDepth 1000000

/-- The state of l4Cut. -/
def CP (s : ByteArray) (k f : Nat) (q : Bool) (xs : List (List UInt8)) : Prop := f ≤ k ∧ f ≤ s.size ∧ xs.length ≤ k ∧ xs ++ push (seg s.data.toList f k) (cuts q (s.data.toList.drop k)) = cuts false s.data.toList
theorem cp_start (s : ByteArray) : CP s 0 0 false [] := ⟨Nat.le_refl _, Nat.zero_le _, Nat.le_refl _, by rw [seg_same, push_nil, List.drop_zero]; rfl⟩
theorem cp_esc {s : ByteArray} {k f : Nat} {xs : List (List UInt8)} (h : CP s k f true xs) (hk : k < s.size) (h1 : s[k] = 92) : CP s (k + 1 + 1) f true xs := by
  obtain ⟨a, b, b', c⟩ := h
  refine ⟨by omega, b, by omega, ?_⟩
  rw [drop_cons s k hk, cuts_esc _ h1, push_push] at c
  have e2 : s.data.toList.drop (k + (1 + 1)) = (s.data.toList.drop (k + 1)).drop 1 := by rw [List.drop_drop]
  rw [show k + 1 + 1 = k + (1 + 1) by omega, seg_more a, e2, drop_cons s k hk, List.take_succ_cons]
  exact c
theorem cp_quote {s : ByteArray} {k f : Nat} {q : Bool} {xs : List (List UInt8)} (h : CP s k f q xs) (hk : k < s.size) (h1 : s[k] = 34) : CP s (k + 1) f (!q) xs := by
  obtain ⟨a, b, b', c⟩ := h
  refine ⟨by omega, b, by omega, ?_⟩
  rw [drop_cons s k hk, cuts_quote q _ h1, push_push] at c
  rw [seg_more a, drop_cons s k hk]
  exact c
theorem cp_comma {s : ByteArray} {k f : Nat} {xs : List (List UInt8)} (h : CP s k f false xs) (hk : k < s.size) (h1 : s[k] = 44) : CP s (k + 1) (k + 1) false (xs ++ [(s.extract f k).data.toList]) := by
  obtain ⟨a, b, b', c⟩ := h
  refine ⟨Nat.le_refl _, by omega, by rw [List.length_append]; simp; omega, ?_⟩
  rw [drop_cons s k hk, cuts_comma _ h1] at c
  rw [seg_same, push_nil, seg_ext, List.append_assoc]
  simpa [push] using c
theorem cp_plain {s : ByteArray} {k f : Nat} {q : Bool} {xs : List (List UInt8)} (h : CP s k f q xs) (hk : k < s.size) (h1 : q = true → s[k] ≠ 92) (h2 : s[k] ≠ 34) (h3 : q = false → s[k] ≠ 44) : CP s (k + 1) f q xs := by
  obtain ⟨a, b, b', c⟩ := h
  refine ⟨by omega, b, by omega, ?_⟩
  rw [drop_cons s k hk, cuts_plain q _ h1 h2 h3, push_push] at c
  rw [seg_more a, drop_cons s k hk]
  exact c
theorem cp_end {s : ByteArray} {k f : Nat} {q : Bool} {xs : List (List UInt8)} (h : CP s k f q xs) (hk : s.size ≤ k) : xs ++ [(s.extract f s.size).data.toList] = cuts false s.data.toList := by
  obtain ⟨a, b, b', c⟩ := h
  rw [List.drop_eq_nil_of_le (by rw [list_len]; exact hk), cuts_nil] at c
  rw [seg_tail hk]
  simpa [push] using c
theorem cuts_len {s : ByteArray} {k f : Nat} {q : Bool} {xs : List (List UInt8)} (h : CP s k f q xs) (hk : s.size ≤ k) (hk2 : k ≤ s.size + 1) : (cuts false s.data.toList).length ≤ s.size + 2 := by
  rw [← cp_end h hk, List.length_append]
  have := h.2.2.1
  simp; omega

theorem push_len {p : List UInt8} {L : List (List UInt8)} {n : Nat} (h : ∀ y ∈ L, y.length ≤ n) : ∀ x ∈ push p L, x.length ≤ p.length + n := by
  cases L with
  | nil => intro x hx; cases hx
  | cons a r =>
    intro x hx
    rcases List.mem_cons.1 hx with rfl | hx
    · rw [List.length_append]; have := h a (by simp); omega
    · have := h x (by simp [hx]); omega
theorem cuts_elem : ∀ n q (l : List UInt8), l.length ≤ n → ∀ x ∈ cuts q l, x.length ≤ l.length := by
  intro n
  induction n with
  | zero =>
    intro q l hl x hx
    rw [List.length_eq_zero_iff.1 (by omega : l.length = 0), cuts_nil] at hx
    simp at hx; subst hx; simp
  | succ n ih =>
    intro q l hl x hx
    cases l with
    | nil => rw [cuts_nil] at hx; simp at hx; subst hx; simp
    | cons c r =>
      simp at hl
      rw [cuts_cons] at hx
      split at hx
      · have := push_len (ih true (r.drop 1) (by simp; omega)) x hx
        simp at this ⊢; omega
      · split at hx
        · have := push_len (ih _ r hl) x hx
          simp at this ⊢; omega
        · split at hx
          · rcases List.mem_cons.1 hx with rfl | hx
            · simp
            · have := ih _ r hl x hx; simp; omega
          · have := push_len (ih _ r hl) x hx
            simp at this ⊢; omega
theorem push_count (p : List UInt8) (L : List (List UInt8)) : (push p L).length = L.length := by cases L <;> rfl
theorem cuts_count : ∀ n q (l : List UInt8), l.length ≤ n → (cuts q l).length ≤ l.length + 1 := by
  intro n
  induction n with
  | zero => intro q l hl; rw [List.length_eq_zero_iff.1 (by omega : l.length = 0), cuts_nil]; simp
  | succ n ih =>
    intro q l hl
    cases l with
    | nil => rw [cuts_nil]; simp
    | cons c r =>
      simp at hl
      rw [cuts_cons]
      split
      · rw [push_count]; have := ih true (r.drop 1) (by simp; omega); simp at this ⊢; omega
      · split
        · rw [push_count]; have := ih (!q) r hl; simp; omega
        · split
          · have := ih false r hl; simp; omega
          · rw [push_count]; have := ih q r hl; simp; omega
theorem own_mono {w : World} {B B' : Nat} {v : Value} {xs : List (List UInt8)} (h : Strs.Own w B v xs) (hB : B' ≤ B) : Strs.Own w B' v xs := by
  obtain ⟨hl, hc⟩ := h
  refine ⟨hl, ?_⟩
  rcases hc with h0 | ⟨g, cap, cur, rfl, h1, h2, h3⟩
  · exact Or.inl h0
  · exact Or.inr ⟨g, cap, cur, rfl, by omega, h2, h3⟩
theorem sv_ext (x : ByteArray) : Strs.sv x.data.toList = .string x := by unfold Strs.sv; simp
/-- How l4Cut ends. -/
def CutsEnd (l : List UInt8) (w : World) (e : Ending) (w' : World) : Prop := ∃ v, e = .returned v ∧ Strs.Own w' w.heap.size v (cuts false l) ∧ (cuts false l).length ≤ l.length + 2 ∧ Below w.heap.size w w'

set_option maxHeartbeats 2000000 in
theorem spec_cut (s : ByteArray) (w : World) (hs : s.size ≤ 4194304) :
    Calls Tryz.prog 40 #[.string s, .int .u8 44] w (CutsEnd s.data.toList w) := by
  obtain ⟨i0, hi, hz0, hz1, hz2⟩ := info_parts Strs.info_str
  have HO := Lib.hid (Strs.own_lit_nil w)
  go_enter Tryz.func40, Tryz.ntmps40
  go_wp2
  go_loopw [5, 6, 7, 8] (fun v f b i wr => ∃ (k fr : Nat) (q : Bool) (xs : List (List UInt8)), k ≤ s.size + 1 ∧ i = .int .i64 (k : Int) ∧ f = .int .i64 (fr : Int) ∧ b = .bool q ∧ Strs.Own wr w.heap.size v xs ∧ CP s k fr q xs ∧ Below w.heap.size w wr) (fun _ _ _ i _ => s.size + 1 - (intOf i).toNat)
  case atStart => exact ⟨0, 0, false, [], by omega, rfl, rfl, rfl, HO.out, cp_start s, (Below.refl _ _).alloc (Nat.le_refl _) _⟩
  case round =>
    clear HO
    obtain ⟨k, fr, q, xs, hk, rfl, rfl, rfl, hown, hsp, hb⟩ := hrel
    have HS := Lib.hid hsp
    have hf1 : fr ≤ k := hsp.1
    have hf2 : fr ≤ s.size := hsp.2.1
    have hfi : (fr : Int) ≤ (k : Int) := by omega
    have HX := Lib.hid hsp.2.2.1
    have hsl : (Strs.svs xs).length = xs.length := Strs.svs_len xs
    have hbs := hb.size
    have HB := Lib.hid hb
    clear hsp hb
    by_cases hlt : k < s.size
    · by_cases hc1 : q = true ∧ s[k] = 92
      · obtain ⟨rfl, hc⟩ := hc1
        have h92 : ((s[k].toNat : Int) == 92) = true := by rw [e92]; simp [hc]
        have HE := Lib.hid (cp_esc HS.out hlt hc)
        have HO := Lib.hid hown
        clear hc hown
        go_wp2
        go_roundw
        case rel => exact ⟨k + 1 + 1, fr, true, xs, by omega, by go_num, rfl, rfl, HO.out, HE.out, HB.out⟩
        case measure => simp [intOf]; omega
      · by_cases hc2 : s[k] = 34
        · have h34 : ((s[k].toNat : Int) == 34) = true := by rw [e34]; simp [hc2]
          have h92 : ((s[k].toNat : Int) == 92) = false := by rw [e92, hc2]; decide
          have HE := Lib.hid (cp_quote HS.out hlt hc2)
          have HO := Lib.hid hown
          clear hc2 hown hc1
          cases q
          all_goals
            go_wp2
            go_roundw
            case rel => exact ⟨k + 1, fr, _, xs, by omega, by go_num, rfl, rfl, HO.out, HE.out, HB.out⟩
            case measure => simp [intOf]; omega
        · have h34 : ((s[k].toNat : Int) == 34) = false := by rw [e34]; simpa using hc2
          by_cases hc3 : q = false ∧ s[k] = 44
          · obtain ⟨rfl, hc⟩ := hc3
            have h44 : ((s[k].toNat : Int) == 44) = true := by rw [e44]; simp [hc]
            have HE := Lib.hid (cp_comma HS.out hlt hc)
            clear hc hc2 hc1
            go_wp2_with (at_builtin; refine wpList_append_own _ rfl (.tmp 43) (.tmp 48) 41 rfl w.heap.size 9 i0 (.string ⟨#[]⟩) 1 16 Tryz.underlying41 hi hz0 hz1 hz2 rfl (by decide) _ _ _ rfl (hown.alloc _) ⟨wr.heap.size, 0, none⟩ 1 1 [.string (s.extract fr k)] rfl rfl (Strs.news_one _ _ _) (by intro u hu; simp at hu; subst hu; rfl) (by have := HX.out; unfold maxLen; omega) (by have := HX.out; omega) (by simp; omega) ?_; intro v1 w1 hown1 hg1 _)
            have R := Lib.hid (Strs.push_own (x := (s.extract fr k).data.toList) hown HB.out (Nat.le_refl _) (by rw [sv_ext]; exact hown1) hg1)
            clear hown hown1 hg1
            go_wp2
            go_roundw
            case rel => exact ⟨k + 1, k + 1, false, _, by omega, by go_num, by go_num, rfl, R.out.1, HE.out, R.out.2⟩
            case measure => simp [intOf]; omega
          · have HE := Lib.hid (cp_plain HS.out hlt (fun h1 h2 => hc1 ⟨h1, h2⟩) hc2 (fun h1 h2 => hc3 ⟨h1, h2⟩))
            have HO := Lib.hid hown
            have HC1 := Lib.hid hc1
            have HC3 := Lib.hid hc3
            clear hc2 hc1 hc3 hown
            cases q
            · have h44 : ((s[k].toNat : Int) == 44) = false := by rw [e44]; simp; intro h; exact HC3.out ⟨rfl, h⟩
              go_wp2
              go_roundw
              case rel => exact ⟨k + 1, fr, false, xs, by omega, by go_num, rfl, rfl, HO.out, HE.out, HB.out⟩
              case measure => simp [intOf]; omega
            · have h92 : ((s[k].toNat : Int) == 92) = false := by rw [e92]; simp; intro h; exact HC1.out ⟨rfl, h⟩
              go_wp2
              go_roundw
              case rel => exact ⟨k + 1, fr, true, xs, by omega, by go_num, rfl, rfl, HO.out, HE.out, HB.out⟩
              case measure => simp [intOf]; omega
    · have HE := Lib.hid (cp_end HS.out (by omega))
      have HL := Lib.hid (cuts_len HS.out (by omega) hk)
      go_wp2_with (at_builtin; refine wpList_append_own _ rfl (.tmp 52) (.tmp 56) 41 rfl w.heap.size 9 i0 (.string ⟨#[]⟩) 1 16 Tryz.underlying41 hi hz0 hz1 hz2 rfl (by decide) _ _ _ rfl (hown.alloc _) ⟨wr.heap.size, 0, none⟩ 1 1 [.string (s.extract fr s.size)] rfl rfl (Strs.news_one _ _ _) (by intro u hu; simp at hu; subst hu; rfl) (by have := HX.out; unfold maxLen; omega) (by have := HX.out; omega) (by simp; omega) ?_; intro v1 w1 hown1 hg1 _)
      have R := Lib.hid (Strs.push_own (x := (s.extract fr s.size).data.toList) hown HB.out (Nat.le_refl _) (by rw [sv_ext]; exact hown1) hg1)
      clear hown hown1 hg1
      go_wp2
      go_ret
      exact ⟨_, rfl, by rw [← HE.out]; exact R.out.1, by rw [list_len]; exact HL.out, R.out.2⟩

theorem take_keep {L : List (List UInt8)} {k : Nat} (h : k < L.length) : keep (L.take (k + 1)) = keep (L.take k) ++ keep [L.getD k []] := by
  rw [List.take_succ_eq_append_getElem h, keep_append]; simp [List.getD, h]
theorem keep_len (L : List (List UInt8)) : (keep L).length ≤ L.length := by unfold keep; exact Nat.le_trans (List.length_filter_le _ _) (by simp)

set_option maxHeartbeats 2000000 in
theorem spec_split (s : ByteArray) (w : World) (hs : s.size ≤ 4194304) :
    Calls Tryz.prog 22 #[.string s] w (SplitEnd s.data.toList w) := by
  obtain ⟨i0, hi, hz0, hz1, hz2⟩ := info_parts Strs.info_str
  go_enter Tryz.func22, Tryz.ntmps22
  go_wp2_with (fail)
  go_at_call 40
  refine (spec_cut s _ hs).mono ?_
  rintro e w1 ⟨vl, rfl, hown, hlen, hb1⟩
  have HX := Lib.hid (show s.data.toList.length ≤ 4194304 by rw [list_len]; exact hs)
  have HSP : Hid (split s.data.toList = keep (cuts false s.data.toList)) := Lib.hid rfl
  have HH := Lib.hid (Strs.own_holds hown)
  have hne := cuts_ne false s.data.toList
  have HEL := Lib.hid (cuts_elem _ false s.data.toList (Nat.le_refl _))
  generalize cuts false s.data.toList = L at *
  have HB := Lib.hid hb1
  have hbs := hb1.size
  have h0 : 0 < L.length := List.length_pos_iff.2 hne
  have HO := Lib.hid (Strs.own_lit_nil w1)
  obtain ⟨b, off, cap, hv, hbl, hcap, hat⟩ : ∃ b off cap, vl = .slice (some ⟨b, off, none⟩) L.length cap ∧ b < w1.heap.size ∧ L.length ≤ cap ∧ Strs.At w1 b off L := by
    rcases HH.out with ⟨h, _⟩ | ⟨_, b, off, cap, h1, h2, h3, h4⟩
    · exact absurd h hne
    · exact ⟨b, off, cap, h1, h2, h3, h4⟩
  subst hv
  have HA := Lib.hid hat
  have HL := Lib.hid hlen
  clear hown hat hb1 hlen hne
  go_wp2
  go_loopw [4, 5] (fun v i wr => ∃ k : Nat, k ≤ L.length ∧ i = .int .i64 (k : Int) ∧ Strs.Own wr w1.heap.size v (keep (L.take k)) ∧ Below w1.heap.size w1 wr) (fun _ i _ => L.length - (intOf i).toNat)
  case atStart => exact ⟨0, Nat.zero_le _, rfl, by rw [List.take_zero]; exact HO.out, (Below.refl _ _).alloc (Nat.le_refl _) _⟩
  case round =>
    clear HO
    obtain ⟨k, hk, rfl, hown, hb⟩ := hrel
    have hl2 : L.length ≤ 4194306 := by have := HL.out; have := HX.out; omega
    by_cases hlt : k < L.length
    · have hcell : wr.cell? ⟨b, off + k, none⟩ = some (Strs.sv (L.getD k [])) := Strs.at_below HA.out hb hbl k hlt
      have HM := Lib.hid (take_keep hlt)
      rw [keep_one] at HM
      have HC := Lib.hid (show (keep (L.take k)).length ≤ 4194306 by have h1 := keep_len (L.take k); have h2 := List.length_take_le k L; omega)
      have HZ : Hid ((L.getD k []).length ≤ 4194304) := Lib.hid (by
        have hm : L.getD k [] ∈ L := by
          rw [show L.getD k [] = L[k] by simp [List.getD, hlt]]; exact List.getElem_mem _
        have h1 := HEL.out _ hm; have h2 := HX.out; omega)
      generalize L.getD k [] = x at hcell HM HZ
      have c1 : Calls Tryz.prog 41 #[.string ⟨x.toArray⟩] wr fun e w' => e = .returned (.string ⟨(trim x).toArray⟩) ∧ wr = w' := spec_trim ⟨x.toArray⟩ wr (Nat.le_trans HZ.out (by decide))
      generalize trim x = y at c1 HM
      unfold Strs.sv at hcell
      have HBR := Lib.hid hb
      have hbr := hb.size
      have hsl := Strs.svs_len (keep (L.take k))
      clear hb
      cases y with
      | nil =>
        rw [if_pos rfl, List.append_nil] at HM
        have HO := Lib.hid hown
        clear hown
        go_wp2_with (fail)
        go_at_call 41
        refine c1.mono ?_
        rintro e w' ⟨rfl, rfl⟩
        go_wp2
        go_roundw
        case rel => exact ⟨k + 1, by omega, by go_num, by rw [HM.out]; exact HO.out, HBR.out⟩
        case measure => simp [intOf]; omega
      | cons c r =>
        rw [if_neg (by simp)] at HM
        go_wp2_with (fail)
        go_at_call 41
        refine c1.mono ?_
        rintro e w' ⟨rfl, rfl⟩
        go_wp2_with (at_builtin; refine wpList_append_own _ rfl (.tmp 23) (.tmp 25) 41 rfl w1.heap.size 9 i0 (.string ⟨#[]⟩) 1 16 Tryz.underlying41 hi hz0 hz1 hz2 rfl (by decide) _ _ _ rfl (hown.alloc _) ⟨wr.heap.size, 0, none⟩ 1 1 [Strs.sv (c :: r)] rfl rfl (Strs.news_one _ _ _) (Strs.sv_one _) (by have := HC.out; unfold maxLen; omega) (by have := HC.out; omega) (by simp; omega) ?_; intro v1 w2 hown1 hg1 _)
        have R := Lib.hid (Strs.push_own (x := c :: r) hown HBR.out (Nat.le_refl _) hown1 hg1)
        clear hown hown1 hg1
        go_wp2
        go_roundw
        case rel => exact ⟨k + 1, by omega, by go_num, by rw [HM.out]; exact R.out.1, R.out.2⟩
        case measure => simp [intOf]; omega
    · obtain rfl : k = L.length := by omega
      rw [List.take_length] at hown
      have HE := Lib.hid (And.intro hown hb)
      clear hown hb
      go_wp2
      go_ret
      exact ⟨_, rfl, by rw [HSP.out]; exact own_mono HE.out.1 hbs, HB.out.trans (HE.out.2.mono hbs)⟩
end Go.Proofs.YtobhdfkhfmpdlaaGreatDoor.Tx

/-
  PLAIN FACTS: how long the elements of a list that is divided are, and how many.
-/
namespace Go.Proofs.YtobhdfkhfmpdlaaGreatDoor.Tx
set_option linter.unusedVariables false
set_option maxRecDepth 1000000
theorem trim_short (l : List UInt8) : (trim l).length ≤ l.length := by
  unfold trim triml trimr
  have h1 := (List.dropWhile_sublist blk (l := (l.reverse.dropWhile blk).reverse)).length_le
  have h2 := (List.dropWhile_sublist blk (l := l.reverse)).length_le
  simp at h1 h2 ⊢; omega
theorem split_elem (l : List UInt8) : ∀ x ∈ split l, x.length ≤ l.length := by
  intro x hx
  unfold split keep at hx
  obtain ⟨y, hy, rfl⟩ := List.mem_map.1 (List.mem_filter.1 hx).1
  have h1 := cuts_elem _ false l (Nat.le_refl _) y hy
  have h2 := trim_short y
  omega
theorem split_count (l : List UInt8) : (split l).length ≤ l.length + 1 := by
  have h := cuts_count _ false l (Nat.le_refl _)
  have h2 := keep_len (cuts false l)
  unfold split; omega
end Go.Proofs.YtobhdfkhfmpdlaaGreatDoor.Tx

/-
  CONTRACTS of ParseRanges, the model's and the program's: the asks of a list, in memory of their own; nothing that was there before is changed.
-/
namespace Go.Proofs.YtobhdfkhfmpdlaaGreatDoor.Rng
open Go Go.RowKit
set_option linter.unusedVariables false
set_option maxRecDepth 1000000

def pre6 : List UInt8 := [98, 121, 116, 101, 115, 61]
def askl (xs : List (List UInt8)) : List Asks.T := xs.map (fun x => (pask x).1)
def askOk (xs : List (List UInt8)) : Bool := xs.all (fun x => (pask x).2)
def parts (s : List UInt8) : List (List UInt8) := Tx.split (Lib.trimPrefix s pre6)
def prs (s : List UInt8) : List Asks.T × Bool := if Lib.hasPrefix s pre6 = true ∧ askOk (parts s) = true ∧ 1 ≤ (parts s).length ∧ (parts s).length ≤ 6 then (askl (parts s), true) else ([], false)
theorem prs_yes {s : List UInt8} {xs : List (List UInt8)} (hx : parts s = xs) (h : Lib.hasPrefix s pre6 = true) (h2 : askOk xs = true) (h3 : 1 ≤ xs.length) (h4 : xs.length ≤ 6) : prs s = (askl xs, true) := by unfold prs; rw [hx, if_pos ⟨h, h2, h3, h4⟩]
theorem prs_no {s : List UInt8} {xs : List (List UInt8)} (hx : parts s = xs) (h2 : Lib.hasPrefix s pre6 = false ∨ askOk xs = false ∨ xs.length < 1 ∨ 6 < xs.length) : prs s = ([], false) := by
  unfold prs; rw [hx, if_neg (by rintro ⟨a, b, c, d⟩; rcases h2 with h2 | h2 | h2 | h2; rw [h2] at a; cases a; rw [h2] at b; cases b; omega; omega)]
theorem prs_len (s : List UInt8) : (prs s).1.length ≤ 6 := by
  unfold prs; split
  · rename_i h; show (askl _).length ≤ 6; unfold askl; rw [List.length_map]; exact h.2.2.2
  · simp
theorem askl_more {xs : List (List UInt8)} {k : Nat} (h : k < xs.length) : askl (xs.take (k + 1)) = askl (xs.take k) ++ [(pask (xs.getD k [])).1] := by
  unfold askl; rw [List.take_succ_eq_append_getElem h, List.map_append]; simp [List.getD, h]
theorem aok_more {xs : List (List UInt8)} {k : Nat} (h : k < xs.length) (ha : askOk (xs.take k) = true) (hb : (pask (xs.getD k [])).2 = true) : askOk (xs.take (k + 1)) = true := by
  unfold askOk at *; rw [List.take_succ_eq_append_getElem h, List.all_append, ha]; simp [List.getD, h] at hb ⊢; exact hb
theorem aok_bad {xs : List (List UInt8)} {k : Nat} (h : k < xs.length) (hb : (pask (xs.getD k [])).2 = false) : askOk xs = false := by
  unfold askOk
  rw [Bool.eq_false_iff]
  intro ha
  rw [List.all_eq_true] at ha
  have := ha (xs.getD k []) (by rw [show xs.getD k [] = xs[k] by simp [List.getD, h]]; exact List.getElem_mem _)
  rw [hb] at this; cases this
theorem askl_len (xs : List (List UInt8)) : (askl xs).length = xs.length := by unfold askl; simp
theorem take_full {xs : List (List UInt8)} {k : Nat} (h : ¬ k < xs.length) : xs.take k = xs := List.take_of_length_le (by omega)
def PrsEnd (s : List UInt8) (w : World) (e : Ending) (w' : World) : Prop := ∃ v, e = .returned (.tuple #[v, .bool (prs s).2]) ∧ Asks.Own w' w.heap.size v (prs s).1 ∧ Below w.heap.size w w'
theorem prs_ret {s : List UInt8} {m : List Asks.T} {b : Bool} {w w' : World} {v : Value} (h : prs s = (m, b)) (ho : Asks.Own w' w.heap.size v m) (hb : Below w.heap.size w w') : PrsEnd s w (.returned (.tuple #[v, .bool b])) w' := by
  unfold PrsEnd; rw [h]; exact ⟨v, rfl, ho, hb⟩
theorem nil_late {w w1 : World} (hb : Below w.heap.size w w1) : Asks.Own (w1.alloc (.cells #[] 30)) w.heap.size (.slice (some ⟨w1.heap.size, 0, none⟩) 0 0) [] := Asks.own_mono (Asks.own_lit_nil w1) hb.size
theorem has6 (l : List UInt8) : Lib.hasPrefix l pre6 = (l.take 6 == pre6) := by
  unfold Lib.hasPrefix
  rw [Bool.eq_iff_iff, List.isPrefixOf_iff_prefix, List.prefix_iff_eq_take, beq_iff_eq]
  exact ⟨fun h => h.symm, fun h => h.symm⟩
theorem trim_le (l p : List UInt8) : (Lib.trimPrefix l p).length ≤ l.length := by unfold Lib.trimPrefix; split <;> simp

set_option maxRecDepth 1000000 in
set_option maxHeartbeats 4000000 in
theorem impl_prs (l : List UInt8) (w : World) (hl : l.length ≤ 1048576) (ht : Fmt.Tens w) (he : Par.Errs w) :
    Calls Tryz.prog 5 #[.string ⟨l.toArray⟩] w (PrsEnd l w) := by
  obtain ⟨i0, hi, hz0, hz1, hz2⟩ := info_parts Asks.info_r
  have HTE := Lib.hid (fun W (hb : Below w.heap.size w W) => And.intro (Fmt.tens_below ht hb) (Par.errs_below he hb))
  have C1 : Hid (∀ W : World, Calls Tryz.prog 13 #[.string ⟨l.toArray⟩, .string ⟨#[98, 121, 116, 101, 115, 61]⟩] W fun e w' => e = .returned (.tuple #[.string ⟨(Lib.trimPrefix l pre6).toArray⟩, .bool (Lib.hasPrefix l pre6)]) ∧ w' = W) := Lib.hid (fun W => Tryz.strings_CutPrefix ⟨l.toArray⟩ ⟨#[98, 121, 116, 101, 115, 61]⟩ W)
  obtain ⟨xs, hxs⟩ : ∃ xs, parts l = xs := ⟨_, rfl⟩
  have HSP := Lib.hid hxs
  unfold parts at hxs
  have hlr := Nat.le_trans (trim_le l pre6) hl
  have HLL := Lib.hid hlr
  have HS := Lib.hid (fun W => Tx.impl_split ⟨(Lib.trimPrefix l pre6).toArray⟩ W (Nat.le_trans hlr (by decide)))
  have HEL := Lib.hid (Tx.split_elem (Lib.trimPrefix l pre6))
  unfold Tx.SplitEnd at HS
  simp only [] at HS
  rw [hxs] at HS HEL
  obtain ⟨fd, hfd⟩ : ∃ fd, Lib.hasPrefix l pre6 = fd := ⟨_, rfl⟩
  rw [hfd] at C1
  have HFD := Lib.hid hfd
  generalize Lib.trimPrefix l pre6 = r at C1 HS HLL HEL
  clear hxs hfd hlr hl ht he
  go_enter Tryz.func5, Tryz.ntmps5
  go_wp2_with (fail)
  go_at_call 13
  refine (C1.out _).mono ?_
  rintro e w0 ⟨rfl, hw⟩
  rw [hw]
  clear hw C1
  go_wp2_with (fail)
  go_at_call 14
  refine (HS.out _).mono ?_
  rintro e w1 ⟨vx, rfl, ox, hb1⟩
  have HOX : Hid (w1.ownsRow w.heap.size 9 1 vx xs.length (Strs.svs xs)) := Lib.hid ox
  have HB := Lib.hid hb1
  clear ox hb1 HS
  obtain ⟨ax, cx, rfl, hax⟩ := Rec.shape_at HOX.out
  have HAX := Lib.hid hax
  clear hax
  cases fd with
  | false =>
    have HE := Lib.hid (prs_no HSP.out (Or.inl HFD.out))
    have HN := Lib.hid (nil_late HB.out)
    have HB2 := Lib.hid (HB.out.alloc HB.out.size (.cells #[] 30))
    go_wp2
    go_ret2
    exact prs_ret HE.out HN.out HB2.out
  | true =>
    by_cases h1 : (xs.length : Int) < 1
    · have HE := Lib.hid (prs_no HSP.out (Or.inr (Or.inr (Or.inl (by omega)))))
      have HN := Lib.hid (nil_late HB.out)
      have HB2 := Lib.hid (HB.out.alloc HB.out.size (.cells #[] 30))
      go_wp2
      go_ret2
      exact prs_ret HE.out HN.out HB2.out
    by_cases h7 : 6 < (xs.length : Int)
    · have HE := Lib.hid (prs_no HSP.out (Or.inr (Or.inr (Or.inr (by omega)))))
      have HN := Lib.hid (nil_late HB.out)
      have HB2 := Lib.hid (HB.out.alloc HB.out.size (.cells #[] 30))
      go_wp2
      go_ret2
      exact prs_ret HE.out HN.out HB2.out
    have H6 : Hid (xs.length ≤ 6) := Lib.hid (by omega)
    have HO := Lib.hid (nil_late HB.out)
    have HOX := Lib.hid (Rec.row_below HOX.out ((Below.refl w1.heap.size w1).alloc (Nat.le_refl _) (.cells #[] 30)))
    have HB := Lib.hid (HB.out.alloc HB.out.size (.cells #[] 30))
    go_wp2
    go_loopw [7, 35] (fun u i wr => ∃ k : Nat, k ≤ xs.length ∧ k ≤ 6 ∧ i = .int .i64 (k : Int) ∧ wr.ownsRow w.heap.size 30 2 u (askl (xs.take k)).length (Asks.fcs (askl (xs.take k))) ∧ wr.ownsRow w.heap.size 9 1 (.slice ax xs.length cx) xs.length (Strs.svs xs) ∧ Hid (askOk (xs.take k) = true) ∧ Below w.heap.size w wr) (fun _ i _ => xs.length - (intOf i).toNat)
    case atStart => exact ⟨0, Nat.zero_le _, by omega, rfl, HO.out, HOX.out, Lib.hid rfl, HB.out⟩
    case round =>
      clear HO HOX HB
      obtain ⟨k, hk, hk6, rfl, hown, hox, HOK, hb⟩ := hrel
      have HB := Lib.hid hb
      have HOX := Lib.hid hox
      have HO := Lib.hid hown
      clear hown hox hb
      by_cases hlt : k < xs.length
      · obtain ⟨gx, rfl⟩ := HAX.out (by omega)
        have c0 := Strs.own_cell HOX.out hlt
        have HXL : Hid ((xs.getD k []).length ≤ 1048576) := Lib.hid (Nat.le_trans (HEL.out _ (Rec.getD_mem (z := []) hlt)) HLL.out)
        have HDL : Hid ((askl (xs.take k)).length ≤ 1048577) := Lib.hid (by rw [askl_len, List.length_take]; omega)
        unfold Strs.sv at c0
        have HMO := Lib.hid (askl_more hlt)
        have HBD := Lib.hid (fun h => prs_no HSP.out (Or.inr (Or.inl (aok_bad (k := k) hlt h))))
        have HGD := Lib.hid (fun h => aok_more hlt HOK.out h)
        generalize xs.getD k [] = x at c0 HXL HMO HBD HGD
        obtain ⟨r, hr⟩ : ∃ r, pask x = r := ⟨_, rfl⟩
        obtain ⟨⟨a, t⟩, b⟩ := r
        have HP := Lib.hid (fun W (hb : Below w.heap.size w W) => impl_ask x W HXL.out (HTE.out W hb).1 (HTE.out W hb).2)
        unfold AskEnd at HP
        rw [hr] at HMO HBD HGD HP
        dsimp only at HMO HBD HGD HP
        clear hr
        cases b with
        | false =>
          have HE := Lib.hid (HBD.out rfl)
          clear HBD HGD HMO
          go_wp2_with (fail)
          go_at_call 15
          refine (HP.out _ HB.out).mono ?_
          rintro e w2 ⟨rfl, hb2⟩
          have HB2 := Lib.hid ((Base.then_below HB.out hb2).alloc (Nat.le_trans HB.out.size hb2.size) (.cells #[.int .i64 a, .int .i64 t] 30))
          have HN := Lib.hid (nil_late HB2.out)
          have HB3 := Lib.hid (HB2.out.alloc HB2.out.size (.cells #[] 30))
          clear hb2
          go_wp2
          go_ret2
          exact prs_ret HE.out (by have h := HN.out; simp only [World.size_alloc] at h; exact h) HB3.out
        | true =>
          have HM := Lib.hid (HGD.out rfl)
          have h6 : (k : Int) < 6 := by have := H6.out; omega
          clear HBD HGD
          go_wp2_with (fail)
          go_at_call 15
          refine (HP.out _ HB.out).mono ?_
          rintro e w2 ⟨rfl, hb2⟩
          have HO := Lib.hid (Rec.row_below HO.out hb2)
          have HOX := Lib.hid (Rec.row_below HOX.out hb2)
          have HB := Lib.hid (Base.then_below HB.out hb2)
          clear hb2 HP
          generalize askl (xs.take k) = ds at HO HMO HDL
          have HA : Hid (Below w2.heap.size w2 (w2.alloc (.cells #[.int .i64 a, .int .i64 t] 30))) := Lib.hid ((Below.refl _ _).alloc (Nat.le_refl _) _)
          have hown := Rec.row_below HO.out HA.out
          have HOX := Lib.hid (Rec.row_below HOX.out HA.out)
          have HB := Lib.hid (Base.then_below HB.out HA.out)
          have HNE := Lib.hid (Rec.row_apart HOX.out hown (by decide))
          have hL := Asks.fcs_len ds
          have HNW := Lib.hid (Rec.news (w2.alloc (.cells #[.int .i64 a, .int .i64 t] 30)) [.int .i64 a, .int .i64 t] 30)
          go_wp2_with (at_builtin; go_loud (refine wpList_append_own _ rfl (.tmp 47) (.tmp 49) 24 rfl w.heap.size 30 i0 (.agg #[.int .i64 0, .int .i64 0]) 2 16 Tryz.underlying24 hi hz0 hz1 hz2 rfl (by decide) _ _ _ rfl (hown.alloc _) ⟨w2.heap.size + 1, 0, none⟩ 1 1 [.int .i64 a, .int .i64 t] rfl rfl (by have h := HNW.out; rw [World.size_alloc] at h; exact h) (Asks.cs_one (a, t)) (by have := HDL.out; unfold maxLen; omega) (by have := HDL.out; omega) (by have := HB.out.size; simp at this ⊢; omega) ?_; intro v1 w3 hown1 hg1 _))
          have R := Lib.hid (Asks.push_own (a := w) (f := (a, t)) hown HB.out (Nat.le_refl _) hown1 hg1)
          have HA2 := Lib.hid ((Below.refl (w2.alloc (.cells #[.int .i64 a, .int .i64 t] 30)).heap.size (w2.alloc (.cells #[.int .i64 a, .int .i64 t] 30))).alloc (Nat.le_refl _) (.cells #[.int .i64 a, .int .i64 t] 30))
          have ROX := Lib.hid (Rec.row_grown (Rec.row_below HOX.out HA2.out) hg1 HNE.out)
          clear hown hown1 hg1
          go_wp2
          go_roundw
          case rel => exact ⟨k + 1, by omega, by omega, by go_num, by rw [HMO.out]; exact R.out.1, ROX.out, HM, R.out.2⟩
          case measure => simp [intOf]; omega
      · have HF := Lib.hid (take_full hlt)
        have HOF := Lib.hid (show World.ownsRow _ _ _ _ _ _ _ from by have h := HO.out; rw [HF.out] at h; exact h)

        have HE := Lib.hid (prs_yes HSP.out HFD.out (by have h := HOK.out; rw [HF.out] at h; exact h) (by omega) H6.out)
        go_wp2
        go_ret2
        exact prs_ret HE.out HOF.out HB.out

set_option maxRecDepth 1000000 in
set_option maxHeartbeats 4000000 in
theorem spec_prs_s (s : ByteArray) (w : World) (hl : s.size ≤ 1048576) :
    Calls Tryz.prog 7 #[.string s] w (PrsEnd s.data.toList w) := by
  obtain ⟨i0, hi, hz0, hz1, hz2⟩ := info_parts Asks.info_r
  have HLN : Hid (s.data.toList.length = s.size) := Lib.hid (by rw [Array.length_toList]; rfl)
  have HO0 := Lib.hid (Asks.own_lit_nil w)
  have HB0 := Lib.hid ((Below.refl w.heap.size w).alloc (Nat.le_refl _) (.cells #[] 30))
  have ex : (s.extract 0 6).toList = s.data.toList.take 6 := by rw [Lib.extract_toList]; simp
  obtain ⟨xs, hxs⟩ : ∃ xs, parts s.data.toList = xs := ⟨_, rfl⟩
  have HSP := Lib.hid hxs
  by_cases h6s : (s.size : Int) < 6
  · have HE := Lib.hid (prs_no HSP.out (Or.inl (by rw [has6, beq_eq_false_iff_ne]; intro h; have h2 := congrArg List.length h; rw [List.length_take, HLN.out] at h2; unfold pre6 at h2; simp at h2; omega)))
    clear ex hxs
    go_enter Tryz.func7, Tryz.ntmps7
    go_wp2
    go_ret2
    exact prs_ret HE.out HO0.out HB0.out
  cases hq : ((s.extract 0 6).toList == [98, 121, 116, 101, 115, 61]) with
  | false =>
    have HE := Lib.hid (prs_no HSP.out (Or.inl (by rw [has6, ← ex]; exact hq)))
    have hq2 : ((s.extract 0 6).toList != [98, 121, 116, 101, 115, 61]) = true := by rw [bne, hq]; rfl
    have h66 : (6 : Int) ≤ (s.size : Int) := by omega
    clear ex hxs
    go_enter Tryz.func7, Tryz.ntmps7
    go_wp2
    go_ret2
    exact prs_ret HE.out HO0.out HB0.out
  | true =>
    have hfd : Lib.hasPrefix s.data.toList pre6 = true := by rw [has6, ← ex]; exact hq
    have HFD := Lib.hid hfd
    have hq2 : ((s.extract 0 6).toList != [98, 121, 116, 101, 115, 61]) = false := by rw [bne, hq]; rfl
    have h66 : (6 : Int) ≤ (s.size : Int) := by omega
    have htp : Lib.trimPrefix s.data.toList pre6 = (s.extract 6 s.size).data.toList := by
      unfold Lib.trimPrefix
      rw [if_pos hfd, Tx.ext_eq]
      simp only []
      exact (List.take_of_length_le (by have h6 : pre6.length = 6 := rfl; rw [List.length_drop, HLN.out, h6]; omega)).symm
    unfold parts at hxs
    rw [htp] at hxs
    have hlr : (s.extract 6 s.size).size ≤ 1048576 := by simp; omega
    have HLL : Hid ((s.extract 6 s.size).data.toList.length ≤ 1048576) := Lib.hid (by rw [Array.length_toList]; exact hlr)
    have HS := Lib.hid (fun W => Tx.spec_split (s.extract 6 s.size) W (Nat.le_trans hlr (by decide)))
    have HEL := Lib.hid (Tx.split_elem (s.extract 6 s.size).data.toList)
    unfold Tx.SplitEnd at HS
    rw [hxs] at HS HEL
    generalize (s.extract 6 s.size).data.toList.length = nl at HLL HEL
    clear ex hxs hfd htp hlr
    go_enter Tryz.func7, Tryz.ntmps7
    go_wp2_with (fail)
    go_at_call 22
    refine (HS.out _).mono ?_
    rintro e w1 ⟨vx, rfl, ox, hb1⟩
    have HOX : Hid (w1.ownsRow w.heap.size 9 1 vx xs.length (Strs.svs xs)) := Lib.hid (Rec.own_mono ox HB0.out.size)
    have HO := Lib.hid (Rec.row_below HO0.out hb1)
    have HB := Lib.hid (Base.then_below HB0.out hb1)
    clear ox hb1 HS HO0 HB0
    obtain ⟨ax, cx, rfl, hax⟩ := Rec.shape_at HOX.out
    have HAX := Lib.hid hax
    clear hax
    go_wp2
    go_loopw [4, 6] (fun u i wr => ∃ k : Nat, k ≤ xs.length ∧ k ≤ 6 ∧ i = .int .i64 (k : Int) ∧ wr.ownsRow w.heap.size 30 2 u (askl (xs.take k)).length (Asks.fcs (askl (xs.take k))) ∧ wr.ownsRow w.heap.size 9 1 (.slice ax xs.length cx) xs.length (Strs.svs xs) ∧ Hid (askOk (xs.take k) = true) ∧ Below w.heap.size w wr) (fun _ i _ => xs.length - (intOf i).toNat)
    case atStart => exact ⟨0, Nat.zero_le _, by omega, rfl, HO.out, HOX.out, Lib.hid rfl, HB.out⟩
    case round =>
      clear HO HOX HB
      obtain ⟨k, hk, hk6, rfl, hown, hox, HOK, hb⟩ := hrel
      have HB := Lib.hid hb
      have HOX := Lib.hid hox
      have HO := Lib.hid hown
      clear hown hox hb
      by_cases hlt : k < xs.length
      · obtain ⟨gx, rfl⟩ := HAX.out (by omega)
        have c0 := Strs.own_cell HOX.out hlt
        have HXL : Hid ((xs.getD k []).length ≤ 1048576) := Lib.hid (Nat.le_trans (HEL.out _ (Rec.getD_mem (z := []) hlt)) HLL.out)
        have HDL : Hid ((askl (xs.take k)).length ≤ 1048577) := Lib.hid (by rw [askl_len, List.length_take]; omega)
        unfold Strs.sv at c0
        have HMO := Lib.hid (askl_more hlt)
        have HBD := Lib.hid (fun h => prs_no HSP.out (Or.inr (Or.inl (aok_bad (k := k) hlt h))))
        have HGD := Lib.hid (fun h => aok_more hlt HOK.out h)
        generalize xs.getD k [] = x at c0 HXL HMO HBD HGD
        obtain ⟨r, hr⟩ : ∃ r, pask x = r := ⟨_, rfl⟩
        obtain ⟨⟨a, t⟩, b⟩ := r
        have HP := Lib.hid (fun W (hb : Below w.heap.size w W) => spec_ask x W HXL.out)
        unfold AskEnd at HP
        rw [hr] at HMO HBD HGD HP
        dsimp only at HMO HBD HGD HP
        clear hr
        cases b with
        | false =>
          have HE := Lib.hid (HBD.out rfl)
          clear HBD HGD HMO
          go_wp2_with (fail)
          go_at_call 23
          refine (HP.out _ HB.out).mono ?_
          rintro e w2 ⟨rfl, hb2⟩
          have HB2 := Lib.hid ((Base.then_below HB.out hb2).alloc (Nat.le_trans HB.out.size hb2.size) (.cells #[.int .i64 a, .int .i64 t] 30))
          have HN := Lib.hid (nil_late HB2.out)
          have HB3 := Lib.hid (HB2.out.alloc HB2.out.size (.cells #[] 30))
          clear hb2
          go_wp2
          go_ret2
          exact prs_ret HE.out (by have h := HN.out; simp only [World.size_alloc] at h; exact h) HB3.out
        | true =>
          have HM := Lib.hid (HGD.out rfl)
          by_cases h6 : (k : Int) < 6
          case neg =>
            have HE := Lib.hid (prs_no HSP.out (Or.inr (Or.inr (Or.inr (by omega)))))
            clear HBD HGD HMO
            go_wp2_with (fail)
            go_at_call 23
            refine (HP.out _ HB.out).mono ?_
            rintro e w2 ⟨rfl, hb2⟩
            have HB2 := Lib.hid ((Base.then_below HB.out hb2).alloc (Nat.le_trans HB.out.size hb2.size) (.cells #[.int .i64 a, .int .i64 t] 30))
            have HN := Lib.hid (nil_late HB2.out)
            have HB3 := Lib.hid (HB2.out.alloc HB2.out.size (.cells #[] 30))
            clear hb2
            go_wp2
            go_ret2
            exact prs_ret HE.out (by have h := HN.out; simp only [World.size_alloc] at h; exact h) HB3.out
          clear HBD HGD
          go_wp2_with (fail)
          go_at_call 23
          refine (HP.out _ HB.out).mono ?_
          rintro e w2 ⟨rfl, hb2⟩
          have HO := Lib.hid (Rec.row_below HO.out hb2)
          have HOX := Lib.hid (Rec.row_below HOX.out hb2)
          have HB := Lib.hid (Base.then_below HB.out hb2)
          clear hb2 HP
          generalize askl (xs.take k) = ds at HO HMO HDL
          have HA : Hid (Below w2.heap.size w2 (w2.alloc (.cells #[.int .i64 a, .int .i64 t] 30))) := Lib.hid ((Below.refl _ _).alloc (Nat.le_refl _) _)
          have hown := Rec.row_below HO.out HA.out
          have HOX := Lib.hid (Rec.row_below HOX.out HA.out)
          have HB := Lib.hid (Base.then_below HB.out HA.out)
          have HNE := Lib.hid (Rec.row_apart HOX.out hown (by decide))
          have hL := Asks.fcs_len ds
          have HNW := Lib.hid (Rec.news (w2.alloc (.cells #[.int .i64 a, .int .i64 t] 30)) [.int .i64 a, .int .i64 t] 30)
          go_wp2_with (at_builtin; go_loud (refine wpList_append_own _ rfl (.tmp 43) (.tmp 45) 24 rfl w.heap.size 30 i0 (.agg #[.int .i64 0, .int .i64 0]) 2 16 Tryz.underlying24 hi hz0 hz1 hz2 rfl (by decide) _ _ _ rfl (hown.alloc _) ⟨w2.heap.size + 1, 0, none⟩ 1 1 [.int .i64 a, .int .i64 t] rfl rfl (by have h := HNW.out; rw [World.size_alloc] at h; exact h) (Asks.cs_one (a, t)) (by have := HDL.out; unfold maxLen; omega) (by have := HDL.out; omega) (by have := HB.out.size; simp at this ⊢; omega) ?_; intro v1 w3 hown1 hg1 _))
          have R := Lib.hid (Asks.push_own (a := w) (f := (a, t)) hown HB.out (Nat.le_refl _) hown1 hg1)
          have HA2 := Lib.hid ((Below.refl (w2.alloc (.cells #[.int .i64 a, .int .i64 t] 30)).heap.size (w2.alloc (.cells #[.int .i64 a, .int .i64 t] 30))).alloc (Nat.le_refl _) (.cells #[.int .i64 a, .int .i64 t] 30))
          have ROX := Lib.hid (Rec.row_grown (Rec.row_below HOX.out HA2.out) hg1 HNE.out)
          clear hown hown1 hg1
          go_wp2
          go_roundw
          case rel => exact ⟨k + 1, by omega, by omega, by go_num, by rw [HMO.out]; exact R.out.1, ROX.out, HM, R.out.2⟩
          case measure => simp [intOf]; omega
      · have HF := Lib.hid (take_full hlt)
        have HOF := Lib.hid (show World.ownsRow _ _ _ _ _ _ _ from by have h := HO.out; rw [HF.out] at h; exact h)

        obtain ⟨au, cu, rfl, _⟩ := Rec.shape_at HOF.out
        by_cases h0 : 0 < ((askl xs).length : Int)
        · have HE := Lib.hid (prs_yes HSP.out HFD.out (by have h := HOK.out; rw [HF.out] at h; exact h) (by rw [askl_len] at h0; omega) (by omega))
          clear HO
          generalize askl xs = ds at *
          go_wp2
          go_ret2
          exact prs_ret (by rw [decide_eq_true (by omega)]; exact HE.out) HOF.out HB.out
        · have HE := Lib.hid (prs_no HSP.out (Or.inr (Or.inr (Or.inl (by rw [askl_len] at h0; omega)))))
          have HOF : Hid (Asks.Own wr w.heap.size (.slice au (askl xs).length cu) []) := Lib.hid (by have h := HOF.out; rw [show askl xs = [] from List.eq_nil_of_length_eq_zero (by omega)] at h ⊢; exact h)
          clear HO
          generalize (askl xs).length = n at *
          go_wp2
          go_ret2
          exact prs_ret (by rw [decide_eq_false (by omega)]; exact HE.out) HOF.out HB.out
theorem spec_prs (l : List UInt8) (w : World) (hl : l.length ≤ 1048576) : Calls Tryz.prog 7 #[.string ⟨l.toArray⟩] w (PrsEnd l w) := spec_prs_s ⟨l.toArray⟩ w (by simpa [ByteArray.size] using hl)

end Go.Proofs.YtobhdfkhfmpdlaaGreatDoor.Rng
