/-
  CONTRACTS AND PLAIN FACTS, several texts in one; each says in its own words what it proves.
-/
import Derived.Test.YtobhdfkhfmpdlaaDoorPartE
import Derived.Test.YtobhdfkhfmpdlaaDoorPartG
import Derived.Test.YtobhdfkhfmpdlaaDoorPartA
import Derived.LoopTactic
import Derived.Laws.DeepStrings4
import Derived.Test.YtobhdfkhfmpdlaaDoorPartD
import Derived.Test.YtobhdfkhfmpdlaaDoorPartB
set_option linter.unusedSimpArgs false
set_option linter.unusedVariables false

/-
  CONTRACTS of the program's quoteEnd, addPart and SplitList: at every text SplitList returns the parts between the commas outside quoted strings, trimmed, without the empty ones, in memory of its own; nothing that was there before is changed.
-/
namespace Go.Proofs.YtobhdfkhfmpdlaaDoor.Tx
open Go Go.RowKit
set_option linter.unusedVariables false
set_option maxRecDepth 1000000

/-! where a quoted string ends -/
def QP (s : ByteArray) (Q k : Nat) : Prop := (k ≤ s.size ∧ k + qlen (s.data.toList.drop k) = Q) ∨ (k = s.size + 1 ∧ Q = s.size)
theorem qp_le {s : ByteArray} {Q k : Nat} (h : QP s Q k) : k ≤ s.size + 1 := by rcases h with h | h <;> omega
theorem qp_quote {s : ByteArray} {Q k : Nat} (h : QP s Q k) (hk : k < s.size) (hc : s[k] = 34) : k = Q := by
  rcases h with ⟨_, h⟩ | h
  · rw [drop_cons s k hk, qlen_cons, if_pos (by simp [hc])] at h; omega
  · omega
theorem qp_esc {s : ByteArray} {Q k : Nat} (h : QP s Q k) (hk : k < s.size) (hc : s[k] = 92) : QP s Q (k + 1 + 1) := by
  rcases h with ⟨_, h⟩ | h
  · rw [drop_cons s k hk, qlen_cons, if_neg (by rw [hc]; decide), if_pos (by rw [hc]; decide)] at h
    by_cases h1 : k + 1 < s.size
    · rw [drop_cons s (k + 1) h1, if_neg (by simp), List.drop_succ_cons, List.drop_zero] at h
      exact Or.inl ⟨by omega, by omega⟩
    · rw [List.drop_eq_nil_of_le (by rw [list_len]; omega), if_pos (by simp)] at h
      exact Or.inr ⟨by omega, by omega⟩
  · omega
theorem qp_plain {s : ByteArray} {Q k : Nat} (h : QP s Q k) (hk : k < s.size) (h1 : s[k] ≠ 34) (h2 : s[k] ≠ 92) : QP s Q (k + 1) := by
  rcases h with ⟨_, h⟩ | h
  · rw [drop_cons s k hk, qlen_cons, if_neg (by simpa using h1), if_neg (by simpa using h2)] at h
    exact Or.inl ⟨by omega, by omega⟩
  · omega
theorem qp_end {s : ByteArray} {Q k : Nat} (h : QP s Q k) (hk : s.size ≤ k) : s.size = Q := by
  rcases h with ⟨h0, h⟩ | h
  · have : k = s.size := by omega
    rw [List.drop_eq_nil_of_le (by rw [list_len]; omega), qlen_nil] at h; omega
  · omega
theorem ret_nat {a b : Nat} (h : a = b) : Ending.returned (.int .i64 (a : Int)) = .returned (.int .i64 (b : Int)) := by rw [h]

set_option maxHeartbeats 1000000 in
theorem quote_end (s : ByteArray) (st Q : Nat) (w : World) (hs : s.size ≤ 4194304) (h0 : st < s.size) (hQ : QP s Q (st + 1)) :
    Calls Tryd.prog 61 #[.string s, .int .i64 (st : Int)] w fun e w' => e = .returned (.int .i64 (Q : Int)) ∧ w = w' := by
  have HQ := Lib.hid hQ
  clear hQ
  go_enter Tryd.func61, Tryd.ntmps61
  go_wp2
  go_loop [5] (fun i => ∃ k : Nat, k ≤ s.size + 1 ∧ i = .int .i64 (k : Int) ∧ QP s Q k) (fun i => s.size + 1 - (intOf i).toNat)
  case atStart => exact ⟨st + 1, by omega, by go_num, HQ.out⟩
  case round =>
    clear HQ
    obtain ⟨k, hk, rfl, hq⟩ := hrel
    have HQ := Lib.hid hq
    clear hq
    by_cases hlt : k < s.size
    · by_cases hc : s[k] = 34
      · have h34 : ((s[k].toNat : Int) == 34) = true := by rw [e34]; simp [hc]
        have HE := Lib.hid (qp_quote HQ.out hlt hc)
        clear hc
        go_wp2
        go_ret
        exact ⟨ret_nat HE.out, rfl⟩
      · have h34 : ((s[k].toNat : Int) == 34) = false := by rw [e34]; simpa using hc
        by_cases hc2 : s[k] = 92
        · have h92 : ((s[k].toNat : Int) == 92) = true := by rw [e92]; simp [hc2]
          have HE := Lib.hid (qp_esc HQ.out hlt hc2)
          have HL := Lib.hid (qp_le HE.out)
          clear hc hc2
          go_wp2
          go_round
          case rel => exact ⟨k + 1 + 1, HL.out, by go_num, HE.out⟩
          case measure => simp [intOf]; omega
        · have h92 : ((s[k].toNat : Int) == 92) = false := by rw [e92]; simpa using hc2
          have HE := Lib.hid (qp_plain HQ.out hlt hc hc2)
          clear hc hc2
          go_wp2
          go_round
          case rel => exact ⟨k + 1, by omega, by go_num, HE.out⟩
          case measure => simp [intOf]; omega
    · have HE := Lib.hid (qp_end HQ.out (by omega))
      go_wp2
      go_ret
      exact ⟨ret_nat HE.out, rfl⟩

/-! one more part -/
theorem own_below {w w' : World} {B : Nat} {v : Value} {xs : List (List UInt8)} (h : Strs.Own w B v xs) (hb : Below w.heap.size w w') : Strs.Own w' B v xs := by
  obtain ⟨hl, hc⟩ := h
  refine ⟨hl, ?_⟩
  rcases hc with h0 | ⟨g, cap, cur, rfl, h1, h2, h3⟩
  · exact Or.inl h0
  · have hlt : g < w.heap.size := by
      rcases Nat.lt_or_ge g w.heap.size with h' | h'
      · exact h'
      · rw [Array.getElem?_eq_none h'] at h2; cases h2
    exact Or.inr ⟨g, cap, cur, rfl, h1, by rw [hb.block g hlt]; exact h2, h3⟩
def Added (B : Nat) (xs : List (List UInt8)) (w : World) (e : Ending) (w' : World) : Prop := ∃ v, e = .returned v ∧ Strs.Own w' B v xs ∧ Below B w w'

set_option maxHeartbeats 1000000 in
theorem add_part (s : ByteArray) (B : Nat) (v : Value) (xs : List (List UInt8)) (w : World) (hs : s.size ≤ 4194304) (hx : xs.length ≤ 8000000) (hown : Strs.Own w B v xs) (hB : B ≤ w.heap.size) :
    Calls Tryd.prog 62 #[v, .string s] w (Added B (xs ++ keep [s.data.toList]) w) := by
  obtain ⟨i0, hi, hz0, hz1, hz2⟩ := info_parts Strs.info_str
  have c1 := impl_trim s w (by omega)
  rw [keep_one]
  generalize trim s.data.toList = t at c1 ⊢
  have HO := Lib.hid hown
  clear hown
  cases t with
  | nil =>
    rw [if_pos rfl, List.append_nil]
    go_enter Tryd.func62, Tryd.ntmps62
    go_wp2_with (fail)
    go_at_call 52
    refine c1.mono ?_
    rintro e w1 ⟨rfl, hb1⟩
    have HE := Lib.hid (And.intro (own_below HO.out hb1) (hb1.mono hB))
    clear hb1 HO
    go_wp2
    go_ret
    exact ⟨_, rfl, HE.out.1, HE.out.2⟩
  | cons c r =>
    rw [if_neg (by simp)]
    go_enter Tryd.func62, Tryd.ntmps62
    go_wp2_with (fail)
    go_at_call 52
    refine c1.mono ?_
    rintro e w1 ⟨rfl, hb1⟩
    have hown1 := own_below HO.out hb1
    have hs1 := hb1.size
    have HB := Lib.hid (hb1.mono hB)
    have hlen : (Strs.svs xs).length = xs.length := Strs.svs_len xs
    clear hb1 HO
    go_wp2_with (at_builtin; refine wpList_append_own _ rfl (.tmp 10) (.tmp 12) 52 rfl B 9 i0 (.string ⟨#[]⟩) 1 16 Tryd.underlying52 hi hz0 hz1 hz2 rfl (by decide) _ _ _ rfl (hown1.alloc _) ⟨w1.heap.size, 0, none⟩ 1 1 [Strs.sv (c :: r)] rfl rfl (Strs.news_one _ _ _) (Strs.sv_one _) (by unfold maxLen; omega) (by omega) (by simp; omega) ?_; intro v' w2 hown' hgrow _)
    have HE : Hid (Strs.Own w2 B v' (xs ++ [c :: r]) ∧ Below B w1 w2) := Lib.hid ⟨by show w2.ownsRow B 9 1 v' (xs ++ [c :: r]).length (Strs.svs (xs ++ [c :: r])); rw [List.length_append, Strs.svs_more]; exact hown', ((Below.refl B w1).alloc (by omega) _).grown hgrow (by simp; omega) (fun k e => (hown1.lt k e).1)⟩
    clear hown1 hown' hgrow
    go_wp2
    go_ret
    exact ⟨_, rfl, HE.out.1, HB.out.trans HE.out.2⟩

/-! the parts -/
def seg (l : List UInt8) (f k : Nat) : List UInt8 := (l.drop f).take (k - f)
theorem seg_same (l : List UInt8) (k : Nat) : seg l k k = [] := by unfold seg; simp
theorem seg_all {l : List UInt8} {f k : Nat} (h : l.length ≤ k) : seg l f k = l.drop f := by unfold seg; exact List.take_of_length_le (by rw [List.length_drop]; omega)
theorem seg_more {l : List UInt8} {f k m : Nat} (h : f ≤ k) : seg l f (k + m) = seg l f k ++ (l.drop k).take m := by
  unfold seg
  rw [show k + m - f = (k - f) + m by omega, List.take_add, List.drop_drop, show f + (k - f) = k by omega]
theorem seg_ext {s : ByteArray} {f k : Nat} : (s.extract f k).data.toList = seg s.data.toList f k := by unfold seg; simp
theorem seg_tail {s : ByteArray} {f k : Nat} (h : s.size ≤ k) : (s.extract f s.size).data.toList = seg s.data.toList f k := by
  rw [seg_ext]; unfold seg
  rw [List.take_of_length_le (by rw [List.length_drop, list_len]; exact Nat.le_refl _), List.take_of_length_le (by rw [List.length_drop, list_len]; omega)]
theorem keep_cons (x : List UInt8) (L : List (List UInt8)) : keep (x :: L) = keep [x] ++ keep L := keep_append [x] L

/-- The state of SplitList: k bytes are read, the part that is open began at f; xs are put down. -/
def SP (s : ByteArray) (k f : Nat) (xs : List (List UInt8)) : Prop := f ≤ k ∧ f ≤ s.size ∧ xs.length ≤ k ∧ xs ++ keep (push (seg s.data.toList f k) (cuts false (s.data.toList.drop k))) = split s.data.toList
theorem sp_start (s : ByteArray) : SP s 0 0 [] := ⟨Nat.le_refl _, Nat.zero_le _, Nat.le_refl _, by rw [seg_same, push_nil, List.drop_zero]; rfl⟩
theorem sp_plain {s : ByteArray} {k f : Nat} {xs : List (List UInt8)} (h : SP s k f xs) (hk : k < s.size) (h1 : s[k] ≠ 34) (h2 : s[k] ≠ 44) : SP s (k + 1) f xs := by
  obtain ⟨a, b, b', c⟩ := h
  refine ⟨by omega, b, by omega, ?_⟩
  rw [drop_cons s k hk, cuts_plain false _ (fun e => by cases e) h1 (fun _ => h2), push_push] at c
  rw [seg_more a, drop_cons s k hk]
  exact c
theorem sp_quote {s : ByteArray} {k f Q : Nat} {xs : List (List UInt8)} (h : SP s k f xs) (hk : k < s.size) (h1 : s[k] = 34) (hQ : Q = k + 1 + qlen (s.data.toList.drop (k + 1))) : Q ≤ s.size ∧ SP s (Q + 1) f xs := by
  obtain ⟨a, b, b', c⟩ := h
  obtain ⟨q1, q2⟩ := cuts_qlen _ (s.data.toList.drop (k + 1)) (Nat.le_refl _)
  have hl : (s.data.toList.drop (k + 1)).length = s.size - (k + 1) := by rw [List.length_drop, list_len]
  refine ⟨by omega, by omega, b, by omega, ?_⟩
  rw [drop_cons s k hk, h1, cuts_quote false _ rfl] at c
  show _ ++ keep (push (seg _ f (Q + 1)) (cuts false (List.drop (Q + 1) _))) = _
  have e2 : s.data.toList.drop (k + (1 + (qlen (s.data.toList.drop (k + 1)) + 1))) = (s.data.toList.drop (k + 1)).drop (qlen (s.data.toList.drop (k + 1)) + 1) := by
    rw [List.drop_drop]; congr 1; omega
  rw [show Q + 1 = k + (1 + (qlen (s.data.toList.drop (k + 1)) + 1)) by omega, seg_more a, e2]
  have e1 : (s.data.toList.drop k).take (1 + (qlen (s.data.toList.drop (k + 1)) + 1)) = 34 :: (s.data.toList.drop (k + 1)).take (qlen (s.data.toList.drop (k + 1)) + 1) := by
    rw [drop_cons s k hk, h1, Nat.add_comm 1, List.take_succ_cons]
  rw [e1]
  have hq2 : cuts (!false) (s.data.toList.drop (k + 1)) = _ := q2
  rw [hq2] at c
  generalize s.data.toList.drop (k + 1) = r at *
  by_cases hq : qlen r < r.length
  · rw [if_pos hq, push_push, push_push] at c
    rw [List.append_assoc] at c
    exact c
  · rw [if_neg hq] at c
    rw [List.drop_eq_nil_of_le (by omega), cuts_nil, List.take_of_length_le (by omega)]
    simpa [push] using c
theorem sp_comma {s : ByteArray} {k f : Nat} {xs : List (List UInt8)} (h : SP s k f xs) (hk : k < s.size) (h1 : s[k] = 44) : SP s (k + 1) (k + 1) (xs ++ keep [(s.extract f k).data.toList]) := by
  obtain ⟨a, b, b', c⟩ := h
  have hkl : (keep [(s.extract f k).data.toList]).length ≤ 1 := by rw [keep_one]; split <;> simp
  refine ⟨Nat.le_refl _, by omega, by rw [List.length_append]; omega, ?_⟩
  rw [drop_cons s k hk, cuts_comma _ h1] at c
  have : push (seg s.data.toList f k) ([] :: cuts false (s.data.toList.drop (k + 1))) = seg s.data.toList f k :: cuts false (s.data.toList.drop (k + 1)) := by simp [push]
  rw [this, keep_cons] at c
  rw [seg_same, push_nil, seg_ext, List.append_assoc]
  exact c
theorem sp_end {s : ByteArray} {k f : Nat} {xs : List (List UInt8)} (h : SP s k f xs) (hk : s.size ≤ k) : xs ++ keep [(s.extract f s.size).data.toList] = split s.data.toList := by
  obtain ⟨a, b, b', c⟩ := h
  rw [List.drop_eq_nil_of_le (by rw [list_len]; exact hk), cuts_nil] at c
  rw [seg_tail hk]
  simpa [push] using c

/-- How SplitList ends. -/
def SplitEnd (l : List UInt8) (w : World) (e : Ending) (w' : World) : Prop := ∃ v, e = .returned v ∧ Strs.Own w' w.heap.size v (split l) ∧ Below w.heap.size w w'

set_option maxHeartbeats 1000000 in
theorem impl_split (s : ByteArray) (w : World) (hs : s.size ≤ 4194304) :
    Calls Tryd.prog 25 #[.string s] w (SplitEnd s.data.toList w) := by
  have HO := Lib.hid (Strs.own_lit_nil w)
  go_enter Tryd.func25, Tryd.ntmps25
  go_wp2
  go_loopw [3, 4, 5] (fun v f i wr => ∃ (k fr : Nat) (xs : List (List UInt8)), k ≤ s.size + 1 ∧ i = .int .i64 (k : Int) ∧ f = .int .i64 (fr : Int) ∧ Strs.Own wr w.heap.size v xs ∧ SP s k fr xs ∧ Below w.heap.size w wr) (fun _ _ i _ => s.size + 1 - (intOf i).toNat)
  case atStart => exact ⟨0, 0, [], by omega, rfl, rfl, HO.out, sp_start s, (Below.refl _ _).alloc (Nat.le_refl _) _⟩
  case round =>
    clear HO
    obtain ⟨k, fr, xs, hk, rfl, rfl, hown, hsp, hb⟩ := hrel
    have HS := Lib.hid hsp
    have hf1 : fr ≤ k := hsp.1
    have hf2 : fr ≤ s.size := hsp.2.1
    have hfi : (fr : Int) ≤ (k : Int) := by omega
    have HX := Lib.hid hsp.2.2.1
    clear hsp
    by_cases hlt : k < s.size
    · by_cases hc : s[k] = 34
      · have h34 : ((s[k].toNat : Int) == 34) = true := by rw [e34]; simp [hc]
        obtain ⟨Q, hQ⟩ : ∃ Q, Q = k + 1 + qlen (s.data.toList.drop (k + 1)) := ⟨_, rfl⟩
        obtain ⟨hQ1, hSP⟩ := sp_quote HS.out hlt hc hQ
        have HE := Lib.hid hSP
        have HQ := Lib.hid hQ
        have HO := Lib.hid (And.intro hown hb)
        have hQk : k < Q := by omega
        clear hc hQ hSP hown hb
        go_wp2_with (fail)
        go_at_call 61
        refine (quote_end s k Q _ hs hlt (Or.inl ⟨by omega, HQ.out.symm⟩)).mono ?_
        rintro e w' ⟨rfl, rfl⟩
        go_wp2
        go_roundw
        case rel => exact ⟨Q + 1, fr, xs, by omega, by go_num, rfl, HO.out.1, HE.out, HO.out.2⟩
        case measure => simp [intOf]; omega
      · have h34 : ((s[k].toNat : Int) == 34) = false := by rw [e34]; simpa using hc
        by_cases hc2 : s[k] = 44
        · have h44 : ((s[k].toNat : Int) == 44) = true := by rw [e44]; simp [hc2]
          have HE := Lib.hid (sp_comma HS.out hlt hc2)
          have hbs := hb.size
          have HB := Lib.hid hb
          have HO := Lib.hid hown
          clear hc hc2 hb hown
          go_wp2_with (fail)
          go_at_call 62
          refine (add_part (s.extract fr k) w.heap.size _ xs _ (by simp; omega) (by have := HX.out; omega) HO.out (by omega)).mono ?_
          rintro e w1 ⟨v1, rfl, hown1, hb1⟩
          have H1 := Lib.hid (And.intro hown1 (HB.out.trans hb1))
          clear hown1 hb1
          go_wp2
          go_roundw
          case rel => exact ⟨k + 1, k + 1, _, by omega, by go_num, by go_num, H1.out.1, HE.out, H1.out.2⟩
          case measure => simp [intOf]; omega
        · have h44 : ((s[k].toNat : Int) == 44) = false := by rw [e44]; simpa using hc2
          have HE := Lib.hid (sp_plain HS.out hlt hc hc2)
          have HO := Lib.hid (And.intro hown hb)
          clear hc hc2 hown hb
          go_wp2
          go_roundw
          case rel => exact ⟨k + 1, fr, xs, by omega, by go_num, rfl, HO.out.1, HE.out, HO.out.2⟩
          case measure => simp [intOf]; omega
    · have HE := Lib.hid (sp_end HS.out (by omega))
      have hbs := hb.size
      have HB := Lib.hid hb
      have HO := Lib.hid hown
      clear hb hown
      go_wp2_with (fail)
      go_at_call 62
      refine (add_part (s.extract fr s.size) w.heap.size _ xs _ (by simp; omega) (by have := HX.out; omega) HO.out (by omega)).mono ?_
      rintro e w1 ⟨v1, rfl, hown1, hb1⟩
      have H1 := Lib.hid (And.intro hown1 (HB.out.trans hb1))
      clear hown1 hb1
      go_wp2
      go_ret
      exact ⟨_, rfl, by rw [← HE.out]; exact H1.out.1, H1.out.2⟩
end Go.Proofs.YtobhdfkhfmpdlaaDoor.Tx

/-
  CONTRACTS of the model's l4Cut (at a comma) and SplitList: at every text they return the parts between the commas outside quoted strings, and the trimmed ones that are not empty, in memory of their own; nothing that was there before is changed.
-/
namespace Go.Proofs.YtobhdfkhfmpdlaaDoor.Tx
open Go Go.RowKit
set_option linter.unusedVariables false
set_option maxRecDepth 1000000

/-- The state of l4Cut. -/
def CP (s : ByteArray) (k f : Nat) (q : Bool) (xs : List (List UInt8)) : Prop := f ≤ k ∧ f ≤ s.size ∧ xs.length ≤ k ∧ xs ++ push (seg s.data.toList f k) (cuts q (s.data.toList.drop k)) = cuts false s.data.toList
theorem cp_start (s : ByteArray) : CP s 0 0 false [] := ⟨Nat.le_refl _, Nat.zero_le _, Nat.le_refl _, by rw [seg_same, push_nil, List.drop_zero]; rfl⟩
theorem cp_esc {s : ByteArray} {k f : Nat} {xs : List (List UInt8)} (h : CP s k f true xs) (hk : k < s.size) (h1 : s[k] = 92) : CP s (k + 1 + 1) f true xs := by
  obtain ⟨a, b, b', c⟩ := h
  refine ⟨by omega, b, by omega, ?_⟩
  rw [drop_cons s k hk, cuts_esc _ h1, push_push] at c
  have e2 : s.data.toList.drop (k + (1 + 1)) = (s.data.toList.drop (k + 1)).drop 1 := by rw [List.drop_drop]
  rw [show k + 1 + 1 = k + (1 + 1) by omega, seg_more a, e2, drop_cons s k hk, List.take_succ_cons]
  exact c
theorem cp_quote {s : ByteArray} {k f : Nat} {q : Bool} {xs : List (List UInt8)} (h : CP s k f q xs) (hk : k < s.size) (h1 : s[k] = 34) : CP s (k + 1) f (!q) xs := by
  obtain ⟨a, b, b', c⟩ := h
  refine ⟨by omega, b, by omega, ?_⟩
  rw [drop_cons s k hk, cuts_quote q _ h1, push_push] at c
  rw [seg_more a, drop_cons s k hk]
  exact c
theorem cp_comma {s : ByteArray} {k f : Nat} {xs : List (List UInt8)} (h : CP s k f false xs) (hk : k < s.size) (h1 : s[k] = 44) : CP s (k + 1) (k + 1) false (xs ++ [(s.extract f k).data.toList]) := by
  obtain ⟨a, b, b', c⟩ := h
  refine ⟨Nat.le_refl _, by omega, by rw [List.length_append]; simp; omega, ?_⟩
  rw [drop_cons s k hk, cuts_comma _ h1] at c
  rw [seg_same, push_nil, seg_ext, List.append_assoc]
  simpa [push] using c
theorem cp_plain {s : ByteArray} {k f : Nat} {q : Bool} {xs : List (List UInt8)} (h : CP s k f q xs) (hk : k < s.size) (h1 : q = true → s[k] ≠ 92) (h2 : s[k] ≠ 34) (h3 : q = false → s[k] ≠ 44) : CP s (k + 1) f q xs := by
  obtain ⟨a, b, b', c⟩ := h
  refine ⟨by omega, b, by omega, ?_⟩
  rw [drop_cons s k hk, cuts_plain q _ h1 h2 h3, push_push] at c
  rw [seg_more a, drop_cons s k hk]
  exact c
theorem cp_end {s : ByteArray} {k f : Nat} {q : Bool} {xs : List (List UInt8)} (h : CP s k f q xs) (hk : s.size ≤ k) : xs ++ [(s.extract f s.size).data.toList] = cuts false s.data.toList := by
  obtain ⟨a, b, b', c⟩ := h
  rw [List.drop_eq_nil_of_le (by rw [list_len]; exact hk), cuts_nil] at c
  rw [seg_tail hk]
  simpa [push] using c
theorem cuts_len {s : ByteArray} {k f : Nat} {q : Bool} {xs : List (List UInt8)} (h : CP s k f q xs) (hk : s.size ≤ k) (hk2 : k ≤ s.size + 1) : (cuts false s.data.toList).length ≤ s.size + 2 := by
  rw [← cp_end h hk, List.length_append]
  have := h.2.2.1
  simp; omega

theorem push_len {p : List UInt8} {L : List (List UInt8)} {n : Nat} (h : ∀ y ∈ L, y.length ≤ n) : ∀ x ∈ push p L, x.length ≤ p.length + n := by
  cases L with
  | nil => intro x hx; cases hx
  | cons a r =>
    intro x hx
    rcases List.mem_cons.1 hx with rfl | hx
    · rw [List.length_append]; have := h a (by simp); omega
    · have := h x (by simp [hx]); omega
theorem cuts_elem : ∀ n q (l : List UInt8), l.length ≤ n → ∀ x ∈ cuts q l, x.length ≤ l.length := by
  intro n
  induction n with
  | zero =>
    intro q l hl x hx
    rw [List.length_eq_zero_iff.1 (by omega : l.length = 0), cuts_nil] at hx
    simp at hx; subst hx; simp
  | succ n ih =>
    intro q l hl x hx
    cases l with
    | nil => rw [cuts_nil] at hx; simp at hx; subst hx; simp
    | cons c r =>
      simp at hl
      rw [cuts_cons] at hx
      split at hx
      · have := push_len (ih true (r.drop 1) (by simp; omega)) x hx
        simp at this ⊢; omega
      · split at hx
        · have := push_len (ih _ r hl) x hx
          simp at this ⊢; omega
        · split at hx
          · rcases List.mem_cons.1 hx with rfl | hx
            · simp
            · have := ih _ r hl x hx; simp; omega
          · have := push_len (ih _ r hl) x hx
            simp at this ⊢; omega
theorem push_count (p : List UInt8) (L : List (List UInt8)) : (push p L).length = L.length := by cases L <;> rfl
theorem cuts_count : ∀ n q (l : List UInt8), l.length ≤ n → (cuts q l).length ≤ l.length + 1 := by
  intro n
  induction n with
  | zero => intro q l hl; rw [List.length_eq_zero_iff.1 (by omega : l.length = 0), cuts_nil]; simp
  | succ n ih =>
    intro q l hl
    cases l with
    | nil => rw [cuts_nil]; simp
    | cons c r =>
      simp at hl
      rw [cuts_cons]
      split
      · rw [push_count]; have := ih true (r.drop 1) (by simp; omega); simp at this ⊢; omega
      · split
        · rw [push_count]; have := ih (!q) r hl; simp; omega
        · split
          · have := ih false r hl; simp; omega
          · rw [push_count]; have := ih q r hl; simp; omega
theorem own_mono {w : World} {B B' : Nat} {v : Value} {xs : List (List UInt8)} (h : Strs.Own w B v xs) (hB : B' ≤ B) : Strs.Own w B' v xs := by
  obtain ⟨hl, hc⟩ := h
  refine ⟨hl, ?_⟩
  rcases hc with h0 | ⟨g, cap, cur, rfl, h1, h2, h3⟩
  · exact Or.inl h0
  · exact Or.inr ⟨g, cap, cur, rfl, by omega, h2, h3⟩
theorem sv_ext (x : ByteArray) : Strs.sv x.data.toList = .string x := by unfold Strs.sv; simp
/-- How l4Cut ends. -/
def CutsEnd (l : List UInt8) (w : World) (e : Ending) (w' : World) : Prop := ∃ v, e = .returned v ∧ Strs.Own w' w.heap.size v (cuts false l) ∧ (cuts false l).length ≤ l.length + 2 ∧ Below w.heap.size w w'

set_option maxHeartbeats 2000000 in
theorem spec_cut (s : ByteArray) (w : World) (hs : s.size ≤ 4194304) :
    Calls Tryd.prog 68 #[.string s, .int .u8 44] w (CutsEnd s.data.toList w) := by
  obtain ⟨i0, hi, hz0, hz1, hz2⟩ := info_parts Strs.info_str
  have HO := Lib.hid (Strs.own_lit_nil w)
  go_enter Tryd.func68, Tryd.ntmps68
  go_wp2
  go_loopw [5, 6, 7, 8] (fun v f b i wr => ∃ (k fr : Nat) (q : Bool) (xs : List (List UInt8)), k ≤ s.size + 1 ∧ i = .int .i64 (k : Int) ∧ f = .int .i64 (fr : Int) ∧ b = .bool q ∧ Strs.Own wr w.heap.size v xs ∧ CP s k fr q xs ∧ Below w.heap.size w wr) (fun _ _ _ i _ => s.size + 1 - (intOf i).toNat)
  case atStart => exact ⟨0, 0, false, [], by omega, rfl, rfl, rfl, HO.out, cp_start s, (Below.refl _ _).alloc (Nat.le_refl _) _⟩
  case round =>
    clear HO
    obtain ⟨k, fr, q, xs, hk, rfl, rfl, rfl, hown, hsp, hb⟩ := hrel
    have HS := Lib.hid hsp
    have hf1 : fr ≤ k := hsp.1
    have hf2 : fr ≤ s.size := hsp.2.1
    have hfi : (fr : Int) ≤ (k : Int) := by omega
    have HX := Lib.hid hsp.2.2.1
    have hsl : (Strs.svs xs).length = xs.length := Strs.svs_len xs
    have hbs := hb.size
    have HB := Lib.hid hb
    clear hsp hb
    by_cases hlt : k < s.size
    · by_cases hc1 : q = true ∧ s[k] = 92
      · obtain ⟨rfl, hc⟩ := hc1
        have h92 : ((s[k].toNat : Int) == 92) = true := by rw [e92]; simp [hc]
        have HE := Lib.hid (cp_esc HS.out hlt hc)
        have HO := Lib.hid hown
        clear hc hown
        go_wp2
        go_roundw
        case rel => exact ⟨k + 1 + 1, fr, true, xs, by omega, by go_num, rfl, rfl, HO.out, HE.out, HB.out⟩
        case measure => simp [intOf]; omega
      · by_cases hc2 : s[k] = 34
        · have h34 : ((s[k].toNat : Int) == 34) = true := by rw [e34]; simp [hc2]
          have h92 : ((s[k].toNat : Int) == 92) = false := by rw [e92, hc2]; decide
          have HE := Lib.hid (cp_quote HS.out hlt hc2)
          have HO := Lib.hid hown
          clear hc2 hown hc1
          cases q
          all_goals
            go_wp2
            go_roundw
            case rel => exact ⟨k + 1, fr, _, xs, by omega, by go_num, rfl, rfl, HO.out, HE.out, HB.out⟩
            case measure => simp [intOf]; omega
        · have h34 : ((s[k].toNat : Int) == 34) = false := by rw [e34]; simpa using hc2
          by_cases hc3 : q = false ∧ s[k] = 44
          · obtain ⟨rfl, hc⟩ := hc3
            have h44 : ((s[k].toNat : Int) == 44) = true := by rw [e44]; simp [hc]
            have HE := Lib.hid (cp_comma HS.out hlt hc)
            clear hc hc2 hc1
            go_wp2_with (at_builtin; refine wpList_append_own _ rfl (.tmp 43) (.tmp 48) 52 rfl w.heap.size 9 i0 (.string ⟨#[]⟩) 1 16 Tryd.underlying52 hi hz0 hz1 hz2 rfl (by decide) _ _ _ rfl (hown.alloc _) ⟨wr.heap.size, 0, none⟩ 1 1 [.string (s.extract fr k)] rfl rfl (Strs.news_one _ _ _) (by intro u hu; simp at hu; subst hu; rfl) (by have := HX.out; unfold maxLen; omega) (by have := HX.out; omega) (by simp; omega) ?_; intro v1 w1 hown1 hg1 _)
            have R := Lib.hid (Strs.push_own (x := (s.extract fr k).data.toList) hown HB.out (Nat.le_refl _) (by rw [sv_ext]; exact hown1) hg1)
            clear hown hown1 hg1
            go_wp2
            go_roundw
            case rel => exact ⟨k + 1, k + 1, false, _, by omega, by go_num, by go_num, rfl, R.out.1, HE.out, R.out.2⟩
            case measure => simp [intOf]; omega
          · have HE := Lib.hid (cp_plain HS.out hlt (fun h1 h2 => hc1 ⟨h1, h2⟩) hc2 (fun h1 h2 => hc3 ⟨h1, h2⟩))
            have HO := Lib.hid hown
            have HC1 := Lib.hid hc1
            have HC3 := Lib.hid hc3
            clear hc2 hc1 hc3 hown
            cases q
            · have h44 : ((s[k].toNat : Int) == 44) = false := by rw [e44]; simp; intro h; exact HC3.out ⟨rfl, h⟩
              go_wp2
              go_roundw
              case rel => exact ⟨k + 1, fr, false, xs, by omega, by go_num, rfl, rfl, HO.out, HE.out, HB.out⟩
              case measure => simp [intOf]; omega
            · have h92 : ((s[k].toNat : Int) == 92) = false := by rw [e92]; simp; intro h; exact HC1.out ⟨rfl, h⟩
              go_wp2
              go_roundw
              case rel => exact ⟨k + 1, fr, true, xs, by omega, by go_num, rfl, rfl, HO.out, HE.out, HB.out⟩
              case measure => simp [intOf]; omega
    · have HE := Lib.hid (cp_end HS.out (by omega))
      have HL := Lib.hid (cuts_len HS.out (by omega) hk)
      go_wp2_with (at_builtin; refine wpList_append_own _ rfl (.tmp 52) (.tmp 56) 52 rfl w.heap.size 9 i0 (.string ⟨#[]⟩) 1 16 Tryd.underlying52 hi hz0 hz1 hz2 rfl (by decide) _ _ _ rfl (hown.alloc _) ⟨wr.heap.size, 0, none⟩ 1 1 [.string (s.extract fr s.size)] rfl rfl (Strs.news_one _ _ _) (by intro u hu; simp at hu; subst hu; rfl) (by have := HX.out; unfold maxLen; omega) (by have := HX.out; omega) (by simp; omega) ?_; intro v1 w1 hown1 hg1 _)
      have R := Lib.hid (Strs.push_own (x := (s.extract fr s.size).data.toList) hown HB.out (Nat.le_refl _) (by rw [sv_ext]; exact hown1) hg1)
      clear hown hown1 hg1
      go_wp2
      go_ret
      exact ⟨_, rfl, by rw [← HE.out]; exact R.out.1, by rw [list_len]; exact HL.out, R.out.2⟩

theorem take_keep {L : List (List UInt8)} {k : Nat} (h : k < L.length) : keep (L.take (k + 1)) = keep (L.take k) ++ keep [L.getD k []] := by
  rw [List.take_succ_eq_append_getElem h, keep_append]; simp [List.getD, h]
theorem keep_len (L : List (List UInt8)) : (keep L).length ≤ L.length := by unfold keep; exact Nat.le_trans (List.length_filter_le _ _) (by simp)

set_option maxHeartbeats 2000000 in
theorem spec_split (s : ByteArray) (w : World) (hs : s.size ≤ 4194304) :
    Calls Tryd.prog 30 #[.string s] w (SplitEnd s.data.toList w) := by
  obtain ⟨i0, hi, hz0, hz1, hz2⟩ := info_parts Strs.info_str
  go_enter Tryd.func30, Tryd.ntmps30
  go_wp2_with (fail)
  go_at_call 68
  refine (spec_cut s _ hs).mono ?_
  rintro e w1 ⟨vl, rfl, hown, hlen, hb1⟩
  have HX := Lib.hid (show s.data.toList.length ≤ 4194304 by rw [list_len]; exact hs)
  have HSP : Hid (split s.data.toList = keep (cuts false s.data.toList)) := Lib.hid rfl
  have HH := Lib.hid (Strs.own_holds hown)
  have hne := cuts_ne false s.data.toList
  have HEL := Lib.hid (cuts_elem _ false s.data.toList (Nat.le_refl _))
  generalize cuts false s.data.toList = L at *
  have HB := Lib.hid hb1
  have hbs := hb1.size
  have h0 : 0 < L.length := List.length_pos_iff.2 hne
  have HO := Lib.hid (Strs.own_lit_nil w1)
  obtain ⟨b, off, cap, hv, hbl, hcap, hat⟩ : ∃ b off cap, vl = .slice (some ⟨b, off, none⟩) L.length cap ∧ b < w1.heap.size ∧ L.length ≤ cap ∧ Strs.At w1 b off L := by
    rcases HH.out with ⟨h, _⟩ | ⟨_, b, off, cap, h1, h2, h3, h4⟩
    · exact absurd h hne
    · exact ⟨b, off, cap, h1, h2, h3, h4⟩
  subst hv
  have HA := Lib.hid hat
  have HL := Lib.hid hlen
  clear hown hat hb1 hlen hne
  go_wp2
  go_loopw [4, 5] (fun v i wr => ∃ k : Nat, k ≤ L.length ∧ i = .int .i64 (k : Int) ∧ Strs.Own wr w1.heap.size v (keep (L.take k)) ∧ Below w1.heap.size w1 wr) (fun _ i _ => L.length - (intOf i).toNat)
  case atStart => exact ⟨0, Nat.zero_le _, rfl, by rw [List.take_zero]; exact HO.out, (Below.refl _ _).alloc (Nat.le_refl _) _⟩
  case round =>
    clear HO
    obtain ⟨k, hk, rfl, hown, hb⟩ := hrel
    have hl2 : L.length ≤ 4194306 := by have := HL.out; have := HX.out; omega
    by_cases hlt : k < L.length
    · have hcell : wr.cell? ⟨b, off + k, none⟩ = some (Strs.sv (L.getD k [])) := Strs.at_below HA.out hb hbl k hlt
      have HM := Lib.hid (take_keep hlt)
      rw [keep_one] at HM
      have HC := Lib.hid (show (keep (L.take k)).length ≤ 4194306 by have h1 := keep_len (L.take k); have h2 := List.length_take_le k L; omega)
      have HZ : Hid ((L.getD k []).length ≤ 4194304) := Lib.hid (by
        have hm : L.getD k [] ∈ L := by
          rw [show L.getD k [] = L[k] by simp [List.getD, hlt]]; exact List.getElem_mem _
        have h1 := HEL.out _ hm; have h2 := HX.out; omega)
      generalize L.getD k [] = x at hcell HM HZ
      have c1 : Calls Tryd.prog 69 #[.string ⟨x.toArray⟩] wr fun e w' => e = .returned (.string ⟨(trim x).toArray⟩) ∧ wr = w' := spec_trim ⟨x.toArray⟩ wr (Nat.le_trans HZ.out (by decide))
      generalize trim x = y at c1 HM
      unfold Strs.sv at hcell
      have HBR := Lib.hid hb
      have hbr := hb.size
      have hsl := Strs.svs_len (keep (L.take k))
      clear hb
      cases y with
      | nil =>
        rw [if_pos rfl, List.append_nil] at HM
        have HO := Lib.hid hown
        clear hown
        go_wp2_with (fail)
        go_at_call 69
        refine c1.mono ?_
        rintro e w' ⟨rfl, rfl⟩
        go_wp2
        go_roundw
        case rel => exact ⟨k + 1, by omega, by go_num, by rw [HM.out]; exact HO.out, HBR.out⟩
        case measure => simp [intOf]; omega
      | cons c r =>
        rw [if_neg (by simp)] at HM
        go_wp2_with (fail)
        go_at_call 69
        refine c1.mono ?_
        rintro e w' ⟨rfl, rfl⟩
        go_wp2_with (at_builtin; refine wpList_append_own _ rfl (.tmp 23) (.tmp 25) 52 rfl w1.heap.size 9 i0 (.string ⟨#[]⟩) 1 16 Tryd.underlying52 hi hz0 hz1 hz2 rfl (by decide) _ _ _ rfl (hown.alloc _) ⟨wr.heap.size, 0, none⟩ 1 1 [Strs.sv (c :: r)] rfl rfl (Strs.news_one _ _ _) (Strs.sv_one _) (by have := HC.out; unfold maxLen; omega) (by have := HC.out; omega) (by simp; omega) ?_; intro v1 w2 hown1 hg1 _)
        have R := Lib.hid (Strs.push_own (x := c :: r) hown HBR.out (Nat.le_refl _) hown1 hg1)
        clear hown hown1 hg1
        go_wp2
        go_roundw
        case rel => exact ⟨k + 1, by omega, by go_num, by rw [HM.out]; exact R.out.1, R.out.2⟩
        case measure => simp [intOf]; omega
    · obtain rfl : k = L.length := by omega
      rw [List.take_length] at hown
      have HE := Lib.hid (And.intro hown hb)
      clear hown hb
      go_wp2
      go_ret
      exact ⟨_, rfl, by rw [HSP.out]; exact own_mono HE.out.1 hbs, HB.out.trans (HE.out.2.mono hbs)⟩
end Go.Proofs.YtobhdfkhfmpdlaaDoor.Tx

/-
  PLAIN FACTS: how long the elements of a list that is divided are, and how many.
-/
namespace Go.Proofs.YtobhdfkhfmpdlaaDoor.Tx
set_option linter.unusedVariables false
set_option maxRecDepth 1000000
theorem trim_short (l : List UInt8) : (trim l).length ≤ l.length := by
  unfold trim triml trimr
  have h1 := (List.dropWhile_sublist blk (l := (l.reverse.dropWhile blk).reverse)).length_le
  have h2 := (List.dropWhile_sublist blk (l := l.reverse)).length_le
  simp at h1 h2 ⊢; omega
theorem split_elem (l : List UInt8) : ∀ x ∈ split l, x.length ≤ l.length := by
  intro x hx
  unfold split keep at hx
  obtain ⟨y, hy, rfl⟩ := List.mem_map.1 (List.mem_filter.1 hx).1
  have h1 := cuts_elem _ false l (Nat.le_refl _) y hy
  have h2 := trim_short y
  omega
theorem split_count (l : List UInt8) : (split l).length ≤ l.length + 1 := by
  have h := cuts_count _ false l (Nat.le_refl _)
  have h2 := keep_len (cuts false l)
  unfold split; omega
end Go.Proofs.YtobhdfkhfmpdlaaDoor.Tx

/-
  PLAIN FACTS on a quoted string that is being read.
-/
namespace Go.Proofs.YtobhdfkhfmpdlaaDoor.Tx
open Go Go.RowKit Bys
set_option linter.unusedVariables false
set_option maxRecDepth 1000000

theorem unq_nil : unq [] = ([], none) := by rw [unq]
theorem unq_34 (r : List UInt8) : unq (34 :: r) = ([], some r) := by cases r <;> simp [unq]
theorem unq_esc (d : UInt8) (r : List UInt8) : unq (92 :: d :: r) = (d :: (unq r).1, (unq r).2) := by rw [unq, if_neg (by decide), if_pos (by decide)]
theorem unq_plain {c : UInt8} {r : List UInt8} (h1 : c ≠ 34) (h2 : c ≠ 92 ∨ r = []) : unq (c :: r) = (c :: (unq r).1, (unq r).2) := by
  have h34 : ¬ (c == 34) = true := by simpa using h1
  cases r with
  | nil => simp [unq, h1]
  | cons d t =>
    rcases h2 with h2 | h2
    · rw [unq, if_neg h34, if_neg (by simpa using h2)]
    · cases h2
/-- What is read when k bytes are behind: l so far. -/
def UQ (s : ByteArray) (k : Nat) (l : List UInt8) : Prop := l ++ (unq (s.data.toList.drop k)).1 = unqText s.data.toList ∧ (unq (s.data.toList.drop k)).2 = (unq (s.data.toList.drop 1)).2 ∧ l.length ≤ k
theorem uq_start (s : ByteArray) : UQ s 1 [] := ⟨by unfold unqText; simp, rfl, by simp⟩
theorem uq_plain {s : ByteArray} {k : Nat} {l : List UInt8} (h : UQ s k l) (hk : k < s.size) (h1 : s[k] ≠ 34) (h2 : s[k] ≠ 92 ∨ s.size ≤ k + 1) : UQ s (k + 1) (l ++ [s[k]]) := by
  obtain ⟨a, b, c⟩ := h
  have h2' : s[k] ≠ 92 ∨ s.data.toList.drop (k + 1) = [] := by
    rcases h2 with h2 | h2
    · exact Or.inl h2
    · exact Or.inr (List.drop_eq_nil_of_le (by rw [list_len]; exact h2))
  rw [drop_cons s k hk, unq_plain h1 h2'] at a b
  exact ⟨by rw [List.append_assoc]; exact a, b, by rw [List.length_append]; simp; omega⟩
theorem uq_esc {s : ByteArray} {k : Nat} {l : List UInt8} (h : UQ s k l) (hk : k < s.size) (hk1 : k + 1 < s.size) (h2 : s[k] = 92) : UQ s (k + 1 + 1) (l ++ [s[k + 1]]) := by
  obtain ⟨a, b, c⟩ := h
  rw [drop_cons s k hk, drop_cons s (k + 1) hk1, h2, unq_esc] at a b
  exact ⟨by rw [List.append_assoc]; exact a, b, by rw [List.length_append]; simp; omega⟩
theorem uq_end {s : ByteArray} {k : Nat} {l : List UInt8} (h : UQ s k l) (hk : s.size ≤ k) : l = unqText s.data.toList ∧ unqOk s.data.toList = false := by
  obtain ⟨a, b, c⟩ := h
  rw [List.drop_eq_nil_of_le (by rw [list_len]; exact hk), unq_nil] at a b
  refine ⟨by simpa using a, ?_⟩
  unfold unqOk
  rw [← b]; simp
theorem head_at {s : ByteArray} (h : 0 < s.size) : s.data.toList.head? = some s[0] := by
  have := drop_cons s 0 h
  rw [List.drop_zero] at this
  rw [this]; rfl
theorem uq_quote {s : ByteArray} {k : Nat} {l : List UInt8} (h : UQ s k l) (hk : k < s.size) (h1 : s[k] = 34) (h0 : 0 < s.size) : l = unqText s.data.toList ∧ unqOk s.data.toList = (s[0] == 34 && ((k : Int) == (s.size : Int) - 1)) := by
  obtain ⟨a, b, c⟩ := h
  rw [drop_cons s k hk, h1, unq_34] at a b
  refine ⟨by simpa using a, ?_⟩
  unfold unqOk
  rw [← b, head_at h0, Bool.eq_iff_iff, Bool.and_eq_true, Bool.and_eq_true]
  refine and_congr (by simp) ?_
  simp only [beq_iff_eq, Option.some.injEq, List.drop_eq_nil_iff, list_len]
  omega

/-- How UnquoteText ends. -/
def Unq (l : List UInt8) (w : World) (e : Ending) (w' : World) : Prop := e = .returned (.tuple #[.string ⟨(unqText l).toArray⟩, .bool (unqOk l)]) ∧ Below w.heap.size w w'
theorem unq_ret {l m : List UInt8} {b : Bool} {w : World} {e : Ending} {w' : World} (h : m = unqText l ∧ unqOk l = b) (hb : Below w.heap.size w w') (he : e = .returned (.tuple #[.string ⟨m.toArray⟩, .bool b])) : Unq l w e w' := by
  obtain ⟨rfl, rfl⟩ := h; exact ⟨he, hb⟩
theorem below_drewN {B : Nat} {a w : World} (h : Below B a w) (n : Nat) : Below B a (w.drewN n) := ⟨h.os, h.tape, h.output, h.size, h.block⟩

end Go.Proofs.YtobhdfkhfmpdlaaDoor.Tx
