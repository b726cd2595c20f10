/-
  CONTRACTS AND PLAIN FACTS, several texts in one; each says in its own words what it proves.
-/
import Derived.Test.YtfkejnbkglaokaaGreatDoorPartL
import Derived.Lib.AtoiAllCases
import Derived.Test.YtfkejnbkglaokaaGreatDoorPartG
import Derived.Test.YtfkejnbkglaokaaGreatDoorPartA
import Derived.Outline
import Derived.Lib.SmallJoins
import Derived.Test.YtfkejnbkglaokaaGreatDoorPartJ
import Derived.Lib.Strings
import Derived.Handed
import Derived.HandedShaped
import Derived.Shelf.Vars
set_option linter.unusedSimpArgs false
set_option linter.unusedVariables false

/-
  PLAIN FACTS of texts that are numbers: what the decimal numeral of a number is worth, and that no text is the numeral of two numbers. No word of the program stands here.
-/
namespace Go.Proofs.YtfkejnbkglaokaaGreatDoor.Par
open Go Go.RowKit
set_option linter.unusedVariables false
set_option maxRecDepth 1000000

/-- what the bytes are worth, read as digits behind acc. -/
def stp (a : Nat) (c : UInt8) : Nat := 10 * a + (c.toNat - 48)
def val (acc : Nat) (l : List UInt8) : Nat := l.foldl stp acc
theorem val_nil (a : Nat) : val a [] = a := by unfold val; rw [List.foldl_nil]
theorem val_cons' (a : Nat) (c : UInt8) (r : List UInt8) : val a (c :: r) = val (stp a c) r := by unfold val; rw [List.foldl_cons]
theorem val_cons (a : Nat) (c : UInt8) (r : List UInt8) : val a (c :: r) = val (10 * a + (c.toNat - 48)) r := by rw [val_cons']; unfold stp; rfl
theorem val_one (a : Nat) (c : UInt8) : val a [c] = 10 * a + (c.toNat - 48) := by rw [val_cons', val_nil]; unfold stp; rfl
def isDig (c : UInt8) : Bool := decide (48 ≤ c.toNat ∧ c.toNat ≤ 57)
theorem val_append (l r : List UInt8) (a : Nat) : val a (l ++ r) = val (val a l) r := by unfold val; rw [List.foldl_append]
theorem dig_val (d : Nat) (h : d < 10) : (UInt8.ofNat (48 + d)).toNat = 48 + d := by rw [UInt8.toNat_ofNat']; omega
theorem dec_val (u : Nat) : val 0 (Lib.decDigits u) = u := by
  induction u using Nat.strongRecOn with
  | _ u ih =>
    rw [Lib.decDigits]
    by_cases h : u < 10
    · rw [dif_pos h, val_one, dig_val u h]; omega
    · rw [dif_neg h, val_append, ih (u / 10) (by omega), val_one, dig_val (u % 10) (by omega)]; omega
theorem dec_dig (u : Nat) : ∀ c ∈ Lib.decDigits u, 48 ≤ c.toNat ∧ c.toNat ≤ 57 := by
  induction u using Nat.strongRecOn with
  | _ u ih =>
    rw [Lib.decDigits]
    by_cases h : u < 10
    · rw [dif_pos h]; intro c hc
      rw [List.mem_singleton] at hc; subst hc; rw [dig_val u h]; omega
    · rw [dif_neg h]; intro c hc
      rcases List.mem_append.1 hc with k | k
      · exact ih (u / 10) (by omega) c k
      · rw [List.mem_singleton] at k; subst k
        rw [dig_val (u % 10) (by omega)]; omega
theorem itoa_nat {v : Int} (h : 0 ≤ v) : Lib.itoa v = Lib.decDigits v.toNat := by unfold Lib.itoa; rw [if_neg (by omega)]
theorem itoa_val {v : Int} (h : 0 ≤ v) : (val 0 (Lib.itoa v) : Int) = v := by rw [itoa_nat h, dec_val]; omega
theorem itoa_inj {u v : Int} (hu : 0 ≤ u) (hv : 0 ≤ v) (h : Lib.itoa u = Lib.itoa v) : u = v := by rw [← itoa_val hu, ← itoa_val hv, h]

/-- (v, b) is what ParseInt answers at the bytes l. -/
def PS (l : List UInt8) (v : Int) (b : Bool) : Prop :=
  (b = true ∧ 0 ≤ v ∧ v ≤ 1000000000000 ∧ Lib.itoa v = l) ∨ (b = false ∧ v = 0 ∧ ∀ u : Int, 0 ≤ u → u ≤ 1000000000000 → Lib.itoa u ≠ l)
theorem PS.uniq {l : List UInt8} {v v' : Int} {b b' : Bool} (h : PS l v b) (h' : PS l v' b') : v = v' ∧ b = b' := by
  rcases h with ⟨rfl, h1, h2, h3⟩ | ⟨rfl, rfl, hn⟩ <;> rcases h' with ⟨rfl, k1, k2, k3⟩ | ⟨rfl, rfl, kn⟩
  · exact ⟨itoa_inj h1 k1 (h3.trans k3.symm), rfl⟩
  · exact absurd h3 (kn _ h1 h2)
  · exact absurd k3 (hn _ k1 k2)
  · exact ⟨rfl, rfl⟩

/-- digits of at most 18 places are read by the library's reader as they are worth. -/
theorem uint_val (l : List UInt8) : ∀ (k acc : Nat), (∀ c ∈ l, 48 ≤ c.toNat ∧ c.toNat ≤ 57) → acc < 10 ^ k → k + l.length ≤ 18 → Lib.parseUint10 acc l = .ok (val acc l) := by
  induction l with
  | nil => intro k acc _ _ _; rw [Lib.parseUint10, val_nil]
  | cons c r ih =>
    intro k acc hd ha hl
    have hc := hd c (List.mem_cons_self ..)
    have hl' : r.length + 1 = (c :: r).length := rfl
    have hp : 10 ^ (k + 1) = 10 ^ k * 10 := Nat.pow_succ ..
    have hq : 10 ^ k ≤ 10 ^ 17 := Nat.pow_le_pow_right (by omega) (by omega)
    have hn : 10 * acc + (c.toNat - 48) < 10 ^ (k + 1) := by omega
    have h1 : ¬ 1844674407370955162 ≤ acc := by omega
    have h2 : ¬ 18446744073709551616 ≤ acc * 10 + (c.toNat - 48) := by omega
    have hr := ih (k + 1) _ (fun x hx => hd x (List.mem_cons_of_mem _ hx)) hn (by omega)
    rw [Lib.parseUint10, if_pos hc, if_neg h1, if_neg h2, val_cons, Nat.mul_comm acc 10]
    exact hr
theorem atoi_itoa {u : Int} (h0 : 0 ≤ u) (h1 : u ≤ 1000000000000) : Lib.atoiAll (Lib.itoa u) = .ok u := by
  have hl : (Lib.decDigits u.toNat).length ≤ 13 := by
    rw [Lib.decDigits_length]
    have := Fmt.nDigits_le 13 u.toNat (by omega)
    omega
  have hv := uint_val (Lib.decDigits u.toNat) 0 0 (dec_dig _) (by decide) (by omega)
  rw [dec_val] at hv
  have hd := dec_dig u.toNat
  rw [itoa_nat h0]
  have hne : Lib.decDigits u.toNat ≠ [] := by
    intro e
    have := congrArg List.length e
    rw [Lib.decDigits_length] at this
    have := Lib.nDigits_pos u.toNat
    simp at *; omega
  match hm : Lib.decDigits u.toNat, hne with
  | c :: r, _ =>
    rw [hm] at hv hd
    have hc := hd c (List.mem_cons_self ..)
    rw [Lib.atoiAll_plain c r (by omega) (by omega)]
    unfold Lib.parseMag
    rw [if_neg (by simp), hv]
    show (if 9223372036854775808 ≤ u.toNat then Lib.NumEnd.range else .ok (u.toNat : Int)) = _
    rw [if_neg (by omega), show (u.toNat : Int) = u by omega]

/-- m is what the first k bytes are worth, all of them digits. -/
def Good (s : ByteArray) (k m : Nat) : Prop := m = val 0 (s.data.toList.take k) ∧ m < 10 ^ k ∧ ∀ c ∈ s.data.toList.take k, 48 ≤ c.toNat ∧ c.toNat ≤ 57
theorem good_zero (s : ByteArray) : Good s 0 0 := ⟨by simp [val_nil], by simp, by simp⟩
theorem take_snoc (s : ByteArray) (k : Nat) (h : k < s.size) : s.data.toList.take (k + 1) = s.data.toList.take k ++ [s[k]] := by
  rw [List.take_succ_eq_append_getElem (by simpa using h)]; rfl
theorem good_step {s : ByteArray} {k m : Nat} (h : k < s.size) (g : Good s k m) (h1 : 48 ≤ (s[k].toNat : Int)) (h2 : (s[k].toNat : Int) ≤ 57) : Good s (k + 1) (10 * m + (s[k].toNat - 48)) := by
  obtain ⟨rfl, g2, g3⟩ := g
  refine ⟨?_, ?_, ?_⟩
  · rw [take_snoc s k h, val_append, val_one]
  · have : 10 ^ (k + 1) = 10 ^ k * 10 := Nat.pow_succ ..
    omega
  · rw [take_snoc s k h]
    intro c hc
    rcases List.mem_append.1 hc with hc | hc
    · exact g3 c hc
    · rw [List.mem_singleton] at hc; subst hc; omega
theorem good_bound {s : ByteArray} {k m : Nat} (g : Good s k m) (hk : k ≤ 13) : m < 10000000000000 := by
  have : 10 ^ k ≤ 10 ^ 13 := Nat.pow_le_pow_right (by omega) hk
  have e : (10 : Nat) ^ 13 = 10000000000000 := by decide
  have := g.2.1
  omega
theorem itoa_short {u : Int} (h0 : 0 ≤ u) (h1 : u ≤ 1000000000000) : 1 ≤ (Lib.itoa u).length ∧ (Lib.itoa u).length ≤ 13 := by
  rw [itoa_nat h0, Lib.decDigits_length]
  have := Fmt.nDigits_le 13 u.toNat (by omega)
  have := Lib.nDigits_pos u.toNat
  omega
theorem size_len (s : ByteArray) : s.data.toList.length = s.size := Array.length_toList
theorem ps_short {s : ByteArray} (h : (s.size : Int) < 1 ∨ 13 < (s.size : Int)) : PS s.data.toList 0 false := by
  refine Or.inr ⟨rfl, rfl, fun u h0 h1 e => ?_⟩
  have := itoa_short h0 h1
  rw [e] at this
  have hz := size_len s
  omega
theorem ps_bad {s : ByteArray} {k : Nat} (h : k < s.size) (hc : (s[k].toNat : Int) < 48 ∨ 57 < (s[k].toNat : Int)) : PS s.data.toList 0 false := by
  refine Or.inr ⟨rfl, rfl, fun u h0 h1 e => ?_⟩
  have hm : s[k] ∈ s.data.toList := by
    have : s[k] = s.data.toList[k]'(by simpa using h) := rfl
    rw [this]; exact List.getElem_mem _
  rw [← e, itoa_nat h0] at hm
  have := dec_dig _ _ hm
  omega
theorem good_val {s : ByteArray} {m : Nat} (g : Good s s.size m) : m = val 0 s.data.toList := by
  have hz := size_len s
  have := g.1
  rwa [← hz, List.take_length] at this
theorem ps_great {s : ByteArray} {m : Nat} (g : Good s s.size m) (h : 1000000000000 < (m : Int)) : PS s.data.toList 0 false := by
  refine Or.inr ⟨rfl, rfl, fun u h0 h1 e => ?_⟩
  have := itoa_val h0
  rw [e, ← good_val g] at this
  omega
theorem ps_other {s : ByteArray} {m : Nat} (g : Good s s.size m) (h : Lib.itoa m ≠ s.data.toList) : PS s.data.toList 0 false := by
  refine Or.inr ⟨rfl, rfl, fun u h0 h1 e => ?_⟩
  have := itoa_val h0
  rw [e, ← good_val g] at this
  rw [this] at h
  exact h e
theorem ps_is {s : ByteArray} {m : Nat} (h : (m : Int) ≤ 1000000000000) (e : Lib.itoa m = s.data.toList) : PS s.data.toList m true := Or.inl ⟨rfl, by omega, h, e⟩
end Go.Proofs.YtfkejnbkglaokaaGreatDoor.Par

/-
  CONTRACT of the model's ParseInt: at every text it answers the number whose decimal numeral the text is, if it lies between 0 and the greatest integer that is read; nothing that was there before is changed.
-/
namespace Go.Proofs.YtfkejnbkglaokaaGreatDoor.Par
open Go Go.RowKit
set_option linter.unusedVariables false
set_option maxRecDepth 1000000

theorem list_eq {l : List UInt8} {s : ByteArray} (h : (!l == s.toList) = false) : l = s.data.toList := by
  rw [← Go.ByteArray.toList_eq]
  simpa using h
theorem list_ne {l : List UInt8} {s : ByteArray} (h : (!l == s.toList) = true) : l ≠ s.data.toList := by
  rw [← Go.ByteArray.toList_eq]
  simpa using h
/-- How ParseInt ends. -/
def Parsed (l : List UInt8) (w : World) (e : Ending) (w' : World) : Prop := ∃ v b, PS l v b ∧ e = .returned (.tuple #[.int .i64 v, .bool b]) ∧ Below w.heap.size w w'

set_option maxHeartbeats 1000000 in
theorem spec_parse (s : ByteArray) (w : World) (hs : s.size ≤ 9223372036854775806) :
    Calls Tryz.prog 34 #[.string s] w (Parsed s.data.toList w) := by
  by_cases hlen : 1 ≤ (s.size : Int) ∧ (s.size : Int) ≤ 13
  · obtain ⟨hl1, hl2⟩ := hlen
    go_enter Tryz.func34, Tryz.ntmps34
    go_wp2_with (go_at_call 44; refine (NumDiv.in_yes _ _ _ _ hl1 hl2).mono ?_; rintro e w' ⟨rfl, rfl⟩)
    go_loop [4, 5] (fun n i => ∃ k m : Nat, k ≤ s.size ∧ i = .int .i64 k ∧ n = .int .i64 m ∧ Good s k m) (fun _ i => s.size - (intOf i).toNat)
    case atStart => exact ⟨0, 0, Nat.zero_le _, rfl, rfl, good_zero s⟩
    case round =>
      obtain ⟨k, m, hk, rfl, rfl, hg⟩ := hrel
      have hmb := good_bound hg (by omega)
      by_cases hlt : k < s.size
      · by_cases hc : 48 ≤ (s[k].toNat : Int) ∧ (s[k].toNat : Int) ≤ 57
        · obtain ⟨hc1, hc2⟩ := hc
          have G := Lib.hid (good_step hlt hg hc1 hc2)
          clear hg
          go_wp2_with (go_at_call 44; refine (NumDiv.in_yes _ _ _ _ hc1 hc2).mono ?_; rintro e w' ⟨rfl, rfl⟩)
          go_round
          case rel => exact ⟨k + 1, _, by omega, by go_num, by go_num, G.out⟩
          case measure => simp [intOf]; omega
        · have hc' : (s[k].toNat : Int) < 48 ∨ 57 < (s[k].toNat : Int) := by omega
          have G := Lib.hid (ps_bad hlt hc')
          have HC := Lib.hid hc'
          clear hg hc hc'
          have hub : (s[k].toNat : Int) ≤ 255 := by have := s[k].toNat_lt; omega
          have hub0 : 0 ≤ (s[k].toNat : Int) := by omega
          go_wp2_with (go_at_call 44; (with_reducible refine (NumDiv.in_no _ _ _ _ HC.out).mono ?_); rintro e w' ⟨rfl, rfl⟩)
          go_ret2
          exact ⟨_, _, G.out, rfl, Below.refl _ _⟩
      · have hks : k = s.size := by omega
        by_cases hm : 1000000000000 < (m : Int)
        · have G := Lib.hid (ps_great (hks ▸ hg) hm)
          clear hg hks
          go_wp2
          go_ret2
          exact ⟨_, _, G.out, rfl, Below.refl _ _⟩
        · have HK := Lib.hid hks
          clear hks
          go_wp2_with (go_at_call 61; refine (Fmt.spec_fmt m (by omega) (by omega) _).mono ?_; rintro e w1 ⟨rfl, hb1⟩)
          · have hq : (!Lib.itoa (m : Int) == s.toList) = true := by assumption
            go_ret2
            exact ⟨_, _, ps_other (HK.out ▸ hg) (list_ne hq), rfl, hb1⟩
          · have hq : (!Lib.itoa (m : Int) == s.toList) = false := by assumption
            go_ret2
            exact ⟨_, _, ps_is (by omega) (list_eq hq), rfl, hb1⟩
  · have hl : (s.size : Int) < 1 ∨ 13 < (s.size : Int) := by omega
    have H := Lib.hid hl
    have G := Lib.hid (ps_short hl)
    clear hl hlen
    go_enter Tryz.func34, Tryz.ntmps34
    go_wp2_with (go_at_call 44; refine (NumDiv.in_no _ _ _ _ H.out).mono ?_; rintro e w' ⟨rfl, rfl⟩)
    go_ret2
    exact ⟨_, _, G.out, rfl, Below.refl _ _⟩
end Go.Proofs.YtfkejnbkglaokaaGreatDoor.Par

/-
  CONTRACT of the program's ParseInt: at every text of at most 2 to the 48 bytes, where the library's table of powers of ten and its two errors read as they are written, it answers the number whose decimal numeral the text is, if it lies between 0 and the greatest integer that is read; nothing that was there before is changed.
-/
namespace Go.Proofs.YtfkejnbkglaokaaGreatDoor.Par
open Go Go.RowKit
set_option linter.unusedVariables false
set_option maxRecDepth 1000000

/-- The library's two errors are there. -/
def Errs (w : World) : Prop := (∃ tp p, w.var? Tryz.prog "strconv.ErrSyntax" = some #[.iface tp p]) ∧ (∃ tp p, w.var? Tryz.prog "strconv.ErrRange" = some #[.iface tp p])
theorem errs_below {W w1 : World} (h : Errs W) (hb : Below W.heap.size W w1) : Errs w1 := by
  obtain ⟨⟨tp, p, h1⟩, ⟨tq, q, h2⟩⟩ := h
  exact ⟨⟨tp, p, Base.var_below h1 hb⟩, ⟨tq, q, Base.var_below h2 hb⟩⟩


theorem atoi_ok (s : ByteArray) (hs : s.size ≤ 281474976710656) (v : Int) (h : Lib.atoiAll s.data.toList = .ok v) (w : World) :
    Calls Tryz.prog 63 #[.string s] w fun e w' => e = .returned (.tuple #[.int .i64 v, .nilIface]) ∧ Below w.heap.size w w' := by
  refine (Tryz.strconv_Atoi_ok s (by omega) v h w).mono ?_
  rintro e w' ⟨rfl, rfl | ⟨t, rfl⟩⟩
  · exact ⟨rfl, Below.refl _ _⟩
  · exact ⟨rfl, Joins.below_bytesWorld _ _ _ _ (Nat.le_refl _)⟩
/-- Any other end of Atoi: an error that is there. -/
theorem atoi_err (s : ByteArray) (hs : s.size ≤ 281474976710656) (h : ∀ v, Lib.atoiAll s.data.toList ≠ .ok v) (w : World) (he : Errs w) :
    Calls Tryz.prog 63 #[.string s] w fun e w' => (∃ z p, e = .returned (.tuple #[.int .i64 z, .iface 121 (.pointer (some p))])) ∧ Below w.heap.size w w' := by
  obtain ⟨⟨tp, p, h1⟩, ⟨tq, q, h2⟩⟩ := he
  rcases hk : Lib.atoiAll s.data.toList with v | _ | _
  · exact absurd hk (h v)
  · refine (Tryz.strconv_Atoi_syntax_var s hs hk tp p w h1).mono ?_
    rintro e w' ⟨N, rfl, _, _, hb⟩
    exact ⟨⟨_, _, rfl⟩, hb⟩
  · refine (Tryz.strconv_Atoi_range_var s hs hk tq q w h2).mono ?_
    rintro e w' ⟨N, rfl, _, _, hb⟩
    exact ⟨⟨_, _, rfl⟩, hb⟩

theorem ps_noatoi {s : ByteArray} (h : ∀ v, Lib.atoiAll s.data.toList ≠ .ok v) : PS s.data.toList 0 false := by
  refine Or.inr ⟨rfl, rfl, fun u h0 h1 e => ?_⟩
  exact h u (e ▸ atoi_itoa h0 h1)
theorem ps_out {s : ByteArray} {v : Int} (h : Lib.atoiAll s.data.toList = .ok v) (hv : v < 0 ∨ 1000000000000 < v) : PS s.data.toList 0 false := by
  refine Or.inr ⟨rfl, rfl, fun u h0 h1 e => ?_⟩
  have := atoi_itoa h0 h1
  rw [e, h] at this
  injection this with this
  omega
theorem ps_not {s : ByteArray} {v : Int} (h : Lib.atoiAll s.data.toList = .ok v) (hv : Lib.itoa v ≠ s.data.toList) : PS s.data.toList 0 false := by
  refine Or.inr ⟨rfl, rfl, fun u h0 h1 e => ?_⟩
  have := atoi_itoa h0 h1
  rw [e, h] at this
  injection this with this
  exact hv (this ▸ e)

set_option maxHeartbeats 1000000 in
theorem impl_parse (s : ByteArray) (w : World) (hs : s.size ≤ 281474976710656) (ht : Fmt.Tens w) (he : Errs w) :
    Calls Tryz.prog 36 #[.string s] w (Parsed s.data.toList w) := by
  by_cases hk : ∃ v, Lib.atoiAll s.data.toList = .ok v
  · obtain ⟨v, hv⟩ := hk
    have hbd := Lib.atoiAll_bounds hv
    obtain ⟨b0, b1⟩ := hbd
    have HV := Lib.hid hv
    clear hv
    by_cases hn : v < 0
    · have G := Lib.hid (ps_out HV.out (Or.inl hn))
      go_enter Tryz.func36, Tryz.ntmps36
      go_wp2_with (go_at_call 63; refine (atoi_ok s hs v HV.out _).mono ?_; rintro e w1 ⟨rfl, hb1⟩)
      go_ret2
      exact ⟨_, _, G.out, rfl, hb1⟩
    · by_cases hg : 1000000000000 < v
      · have G := Lib.hid (ps_out HV.out (Or.inr hg))
        go_enter Tryz.func36, Tryz.ntmps36
        go_wp2_with (go_at_call 63; refine (atoi_ok s hs v HV.out _).mono ?_; rintro e w1 ⟨rfl, hb1⟩)
        go_ret2
        exact ⟨_, _, G.out, rfl, hb1⟩
      · go_enter Tryz.func36, Tryz.ntmps36
        go_wp2_with (first | (go_at_call 63; refine (atoi_ok s hs v HV.out _).mono ?_; rintro e w1 ⟨rfl, hb1⟩) | (go_at_call 64; refine (Fmt.impl_fmt v b0 b1 _ (Fmt.tens_below ht hb1)).mono ?_; rintro e w2 ⟨rfl, hb2⟩))
        · have hq : (!Lib.itoa v == s.toList) = true := by assumption
          go_ret2
          exact ⟨_, _, ps_not HV.out (list_ne hq), rfl, Base.then_below hb1 hb2⟩
        · have hq : (!Lib.itoa v == s.toList) = false := by assumption
          go_ret2
          exact ⟨_, _, Or.inl ⟨rfl, by omega, by omega, list_eq hq⟩, rfl, Base.then_below hb1 hb2⟩
  · have hno : ∀ v, Lib.atoiAll s.data.toList ≠ .ok v := fun v h => hk ⟨v, h⟩
    have HN := Lib.hid hno
    have G := Lib.hid (ps_noatoi hno)
    clear hk hno
    go_enter Tryz.func36, Tryz.ntmps36
    go_wp2_with (go_at_call 63; refine (atoi_err s hs HN.out _ he).mono ?_; rintro e w1 ⟨⟨z, p, rfl⟩, hb1⟩)
    go_ret2
    exact ⟨_, _, G.out, rfl, hb1⟩
end Go.Proofs.YtfkejnbkglaokaaGreatDoor.Par

/-
  CONTRACTS of ParseInt on both sides as a function of the text.
-/
namespace Go.Proofs.YtfkejnbkglaokaaGreatDoor.Pin
open Go Go.RowKit
set_option linter.unusedVariables false
set_option maxRecDepth 1000000

/-- What ParseInt answers, as a function. -/
def pin (l : List UInt8) : Int × Bool := if Lib.itoa (Par.val 0 l : Int) = l ∧ Par.val 0 l ≤ 1000000000000 then ((Par.val 0 l : Int), true) else (0, false)
theorem ps_pin (l : List UInt8) : Par.PS l (pin l).1 (pin l).2 := by
  unfold pin
  split
  · rename_i h; exact Or.inl ⟨rfl, by simp only; omega, by simp only; omega, h.1⟩
  · rename_i h
    refine Or.inr ⟨rfl, rfl, fun u h0 h1 e => h ?_⟩
    have hv := Par.itoa_val h0
    rw [e] at hv
    rw [hv]; exact ⟨e, by omega⟩
theorem pin_nn (l : List UInt8) : 0 ≤ (pin l).1 ∧ (pin l).1 ≤ 1000000000000 := by
  unfold pin; split
  · simp only; omega
  · simp only; omega
theorem pin_nil : pin [] = (0, false) := by
  rcases ps_pin [] with ⟨h1, h2, h3, h4⟩ | ⟨h1, h2, _⟩
  · rw [Par.itoa_nat h2] at h4
    have := Par.dec_val (pin []).1.toNat
    exfalso
    rw [Lib.decDigits] at h4
    split at h4 <;> simp at h4
  · exact Prod.ext h2 h1
def PinEnd (l : List UInt8) (w : World) (e : Ending) (w' : World) : Prop := e = .returned (.tuple #[.int .i64 (pin l).1, .bool (pin l).2]) ∧ Below w.heap.size w w'
theorem pin_end {l : List UInt8} {w : World} {e : Ending} {w' : World} (h : Par.Parsed l w e w') : PinEnd l w e w' := by
  obtain ⟨v, b, hp, rfl, hb⟩ := h
  obtain ⟨rfl, rfl⟩ := hp.uniq (ps_pin l)
  exact ⟨rfl, hb⟩
theorem spec_pin (l : List UInt8) (w : World) (hl : l.length ≤ 4194304) : Calls Tryz.prog 34 #[.string ⟨l.toArray⟩] w (PinEnd l w) :=
  (Par.spec_parse ⟨l.toArray⟩ w (by simp [ByteArray.size]; omega)).mono fun _ _ h => pin_end h
theorem impl_pin (l : List UInt8) (w : World) (hl : l.length ≤ 4194304) (ht : Fmt.Tens w) (he : Par.Errs w) : Calls Tryz.prog 36 #[.string ⟨l.toArray⟩] w (PinEnd l w) :=
  (Par.impl_parse ⟨l.toArray⟩ w (by simp [ByteArray.size]; omega) ht he).mono fun _ _ h => pin_end h
end Go.Proofs.YtfkejnbkglaokaaGreatDoor.Pin

/-
  PLAIN FACTS for the law of chapter 11: where the head of a written message ends, and that its first line and its fields are read back.
-/
namespace Go.Proofs.YtfkejnbkglaokaaGreatDoor.Msg
open Go
set_option linter.unusedVariables false
set_option maxRecDepth 1000000

/-! lines -/
abbrev Lns := List (List UInt8)
def T (xs : Lns) : List UInt8 := xs.flatMap (fun x => x ++ [13, 10])
theorem T_cons (x : List UInt8) (xs : Lns) : T (x :: xs) = x ++ 13 :: 10 :: T xs := by unfold T; rw [List.flatMap_cons]; simp
theorem T_app (a b : Lns) : T (a ++ b) = T a ++ T b := by unfold T; rw [List.flatMap_append]
/-- Lines with a byte, none of them a carriage return. -/
def Fine (xs : Lns) : Prop := ∀ x ∈ xs, x ≠ [] ∧ ∀ c ∈ x, c ≠ 13
theorem no_occ (body : List UInt8) : ∀ (xs : Lns), Fine xs → xs ≠ [] → ∀ j, j + 2 < (T xs).length → Lib.occAt (T xs ++ 13 :: 10 :: body) [13, 10, 13, 10] j = false
  | [], _, h, _, _ => absurd rfl h
  | [x], hf, _, j, hj => by
    have hx := hf x (List.mem_cons_self ..)
    rw [T_cons] at hj ⊢
    have h0 : T [] = [] := rfl
    rw [h0] at hj ⊢
    rw [List.length_append] at hj
    simp only [List.length_cons, List.length_nil] at hj
    have hjx : j < x.length := by omega
    unfold Lib.occAt
    have h1 : ((x ++ 13 :: 10 :: []) ++ 13 :: 10 :: body).drop j = x[j] :: ((x.drop (j + 1) ++ 13 :: 10 :: []) ++ 13 :: 10 :: body) := by
      rw [List.append_assoc, List.drop_append_of_le_length (by omega), List.drop_eq_getElem_cons hjx, List.append_assoc]; rfl
    rw [h1]
    have h2 := hx.2 x[j] (List.getElem_mem _)
    simp [List.isPrefixOf, Ne.symm h2]
  | x :: y :: ys, hf, _, j, hj => by
    have hx := hf x (List.mem_cons_self ..)
    have hy := hf y (List.mem_cons_of_mem _ (List.mem_cons_self ..))
    have ih := no_occ body (y :: ys) (fun z hz => hf z (List.mem_cons_of_mem _ hz)) (by simp)
    rw [T_cons, List.length_append, List.length_cons, List.length_cons] at hj
    have e : T (x :: y :: ys) ++ 13 :: 10 :: body = x ++ 13 :: 10 :: (T (y :: ys) ++ 13 :: 10 :: body) := by rw [T_cons]; simp
    rw [e]
    generalize hR : T (y :: ys) ++ 13 :: 10 :: body = R at ih
    have hR0 : ∃ c r, R = c :: r ∧ c ≠ 13 := by
      rw [T_cons] at hR
      cases y with
      | nil => exact absurd rfl hy.1
      | cons c r => exact ⟨c, r ++ 13 :: 10 :: T ys ++ 13 :: 10 :: body, by rw [← hR]; simp, hy.2 c (List.mem_cons_self ..)⟩
    unfold Lib.occAt at ih ⊢
    rcases Nat.lt_trichotomy j x.length with h | h | h
    · have h1 : (x ++ 13 :: 10 :: R).drop j = x[j] :: (x.drop (j + 1) ++ 13 :: 10 :: R) := by
        rw [List.drop_append_of_le_length (by omega), List.drop_eq_getElem_cons h]; rfl
      rw [h1]
      have h2 := hx.2 x[j] (List.getElem_mem _)
      simp [List.isPrefixOf, Ne.symm h2]
    · subst h
      obtain ⟨c, r, e2, hc⟩ := hR0
      rw [List.drop_left, e2]
      simp [List.isPrefixOf, Ne.symm hc]
    · by_cases h3 : j = x.length + 1
      · subst h3
        rw [List.drop_append, show x.length + 1 - x.length = 1 by omega, List.drop_of_length_le (by omega)]
        simp [List.isPrefixOf]
      · obtain ⟨k, rfl⟩ : ∃ k, j = x.length + 2 + k := ⟨j - (x.length + 2), by omega⟩
        have h4 : (x ++ 13 :: 10 :: R).drop (x.length + 2 + k) = R.drop k := by
          rw [List.drop_append, show x.length + 2 + k - x.length = k + 2 by omega, List.drop_of_length_le (by omega)]; rfl
        rw [h4]
        exact ih k (by omega)
theorem T_end : ∀ {xs : Lns}, xs ≠ [] → ∃ hd, T xs = hd ++ [13, 10]
  | [], h => absurd rfl h
  | [x], _ => ⟨x, by rw [T_cons]; rfl⟩
  | x :: y :: ys, _ => by
    obtain ⟨hd, e⟩ := T_end (xs := y :: ys) (by simp)
    exact ⟨x ++ 13 :: 10 :: hd, by rw [T_cons, e]; simp⟩
/-- The head ends with the first empty line. -/
theorem cut4 {xs : Lns} (hf : Fine xs) (h0 : xs ≠ []) (body : List UInt8) : ∃ hd, T xs = hd ++ [13, 10] ∧ Lib.cut (T xs ++ 13 :: 10 :: body) [13, 10, 13, 10] = (hd, body, true) := by
  obtain ⟨hd, e⟩ := T_end h0
  refine ⟨hd, e, ?_⟩
  have hl : (T xs).length = hd.length + 2 := by rw [e]; simp
  have hi : Lib.index (T xs ++ 13 :: 10 :: body) [13, 10, 13, 10] = (hd.length : Int) := by
    refine Lib.index_first (by rw [List.length_append]; omega) ?_ (fun j hj => no_occ body xs hf h0 j (by omega))
    unfold Lib.occAt
    rw [e, List.append_assoc, List.drop_left]
    simp [List.isPrefixOf]
  unfold Lib.cut
  rw [hi, if_pos (by omega), e]
  simp
theorem cut2 {x : List UInt8} (xs : Lns) (hx : ∀ c ∈ x, c ≠ 13) : Lib.cut (T (x :: xs)) [13, 10] = (x, T xs, true) := by
  rw [T_cons]
  exact Flds.ln_line x (T xs) hx
theorem fmt_T (l : List Flds.Fld) : Flds.fmt l = T (l.map (fun f => f.1 ++ [58, 32] ++ f.2)) := by
  unfold Flds.fmt T
  rw [List.flatMap_map]
  rfl
theorem fine_flds {l : List Flds.Fld} (h : l.all Flds.fldOk = true) : Fine (l.map (fun f => f.1 ++ [58, 32] ++ f.2)) := by
  intro x hx
  obtain ⟨f, hf, rfl⟩ := List.mem_map.1 hx
  obtain ⟨h1, h2, _, _⟩ := Flds.ok_parts (List.all_eq_true.1 h f hf)
  refine ⟨by simp, fun c hc => ?_⟩
  rcases List.mem_append.1 hc with hc | hc
  · rcases List.mem_append.1 hc with hc | hc
    · exact (h1 c hc).1
    · simp at hc; rcases hc with rfl | rfl <;> decide
  · exact h2 c hc

/-! parts of messages -/
theorem byte_all {p : UInt8 → Prop} (h : ∀ n : Fin 256, p (UInt8.ofNat n.1)) (b : UInt8) : p b := by
  have := h ⟨b.toNat, b.toNat_lt⟩
  simpa using this
set_option maxRecDepth 1000000 in
theorem tok_ne (b : UInt8) : Tx.tokc b = true → b ≠ 32 ∧ b ≠ 13 := byte_all (p := fun b => Tx.tokc b = true → b ≠ 32 ∧ b ≠ 13) (by decide) b
set_option maxRecDepth 1000000 in
theorem tb_ne (b : UInt8) : tb b = true → b ≠ 13 := byte_all (p := fun b => tb b = true → b ≠ 13) (by decide) b
set_option maxRecDepth 1000000 in
theorem hb_ok (b : UInt8) : hb b = true → Tx.okb b = true ∧ Tx.blk b = false := byte_all (p := fun b => hb b = true → Tx.okb b = true ∧ Tx.blk b = false) (by decide) b
set_option maxRecDepth 1000000 in
theorem dig_ok (b : UInt8) : (48 ≤ b.toNat ∧ b.toNat ≤ 57) → Tx.okb b = true ∧ Tx.blk b = false ∧ b ≠ 13 := byte_all (p := fun b => (48 ≤ b.toNat ∧ b.toNat ≤ 57) → Tx.okb b = true ∧ Tx.blk b = false ∧ b ≠ 13) (by decide) b
theorem val_ok {x : List UInt8} (h : ∀ c ∈ x, Tx.okb c = true ∧ Tx.blk c = false) (hl : x.length ≤ 200) : Tx.valOk x = true := by
  unfold Tx.valOk
  have ht : Tx.trim x = x := Tx.trim_of_ok (fun c t e => (h c (by rw [e]; exact List.mem_cons_self ..)).2) (fun c t e => (h c (by rw [e]; exact List.mem_append_right _ (List.mem_singleton.2 rfl))).2)
  rw [ht]
  simp only [Bool.and_eq_true, List.all_eq_true, decide_eq_true_eq, beq_self_eq_true, and_true]
  exact ⟨fun c hc => (h c hc).1, hl⟩
def proto : List UInt8 := [72, 84, 84, 80, 47, 49, 46, 49]
theorem cut_sp {m : List UInt8} (r : List UInt8) (h : ∀ c ∈ m, c ≠ 32) : Tx.cutAt 32 (m ++ 32 :: r) = (m, r, true) := by
  have hi : Tx.idx 32 (m ++ 32 :: r) = m.length := by
    refine Tx.idx_eq (by simp) (fun j hj hlt => ?_) (fun h => ?_)
    · rw [List.getElem_append_left hlt]; exact h _ (List.getElem_mem _)
    · simp
  unfold Tx.cutAt
  rw [hi, if_pos (by simp)]
  simp
theorem cut_suf (t p : List UInt8) : Lib.hasSuffix (t ++ p) p = true ∧ Lib.trimSuffix (t ++ p) p = t := by
  have h : Lib.hasSuffix (t ++ p) p = true := by unfold Lib.hasSuffix; rw [List.isSuffixOf_iff_suffix]; exact List.suffix_append t p
  refine ⟨h, ?_⟩
  unfold Lib.trimSuffix
  rw [if_pos h]; simp
theorem cut_pre (p t : List UInt8) : Lib.hasPrefix (p ++ t) p = true ∧ Lib.trimPrefix (p ++ t) p = t := by
  have h : Lib.hasPrefix (p ++ t) p = true := by unfold Lib.hasPrefix; rw [List.isPrefixOf_iff_prefix]; exact List.prefix_append p t
  refine ⟨h, ?_⟩
  unfold Lib.trimPrefix
  rw [if_pos h]; simp
theorem all_of_ok {l : List Flds.Fld} (h : Flds.fldsOk l = true) : l.all Flds.fldOk = true ∧ l.length ≤ 24 := by
  unfold Flds.fldsOk at h
  rw [Bool.and_eq_true, decide_eq_true_eq] at h
  exact h
structure ReqP (m h t : List UInt8) (l : List Flds.Fld) : Prop where
  first : ∀ c ∈ m ++ 32 :: (t ++ 32 :: proto), c ≠ 13
  sp : ∀ c ∈ m, c ≠ 32
  flds : Flds.fldsOk ((hostName, h) :: l) = true
theorem req_parts {m h t : List UInt8} {l : List Flds.Fld} (hr : reqOk m h t l = true) : ReqP m h t l := by
  unfold reqOk at hr
  simp only [Bool.and_eq_true] at hr
  obtain ⟨⟨⟨hm, hh⟩, ht⟩, ho, _⟩ := hr
  have hm1 : ∀ c ∈ m, c ≠ 32 ∧ c ≠ 13 := by
    unfold methOk Tx.token at hm
    simp only [Bool.and_eq_true, List.all_eq_true] at hm
    exact fun c hc => tok_ne c (hm.2.1 c hc)
  have ht1 : ∀ c ∈ t, c ≠ 13 := by
    unfold targOk at ht
    simp only [Bool.and_eq_true, List.all_eq_true] at ht
    exact fun c hc => tb_ne c (ht.1 c hc)
  refine ⟨fun c hc => ?_, fun c hc => (hm1 c hc).1, ?_⟩
  · rcases List.mem_append.1 hc with hc | hc
    · exact (hm1 c hc).2
    · rcases List.mem_cons.1 hc with e | hc
      · rw [e]; decide
      · rcases List.mem_append.1 hc with hc | hc
        · exact ht1 c hc
        · intro e; subst e; exact absurd hc (by decide)
  · unfold ownOk at ho
    simp only [Bool.and_eq_true, decide_eq_true_eq] at ho
    obtain ⟨h1, h2⟩ := all_of_ok ho.1
    have hv : Tx.valOk h = true := by
      unfold hostOk at hh
      simp only [Bool.and_eq_true, List.all_eq_true, decide_eq_true_eq] at hh
      exact val_ok (fun c hc => hb_ok c (hh.1 c hc)) (by omega)
    unfold Flds.fldsOk
    rw [List.all_cons, h1, Bool.and_true, Bool.and_eq_true, decide_eq_true_eq]
    refine ⟨?_, by rw [List.length_cons]; omega⟩
    unfold Flds.fldOk
    rw [hv, Bool.and_true]
    show Tx.nameOk hostName = true
    decide
theorem req_text (m h t : List UInt8) (l : List Flds.Fld) : reqTxt m h t l = T ((m ++ 32 :: (t ++ 32 :: proto)) :: ((hostName, h) :: l).map (fun f => f.1 ++ [58, 32] ++ f.2)) ++ 13 :: 10 :: [] := by
  rw [T_cons, ← fmt_T]
  unfold reqTxt Flds.fmt Flds.line proto hostName
  rw [List.flatMap_cons]
  simp
structure RspP (c : Int) (l : List Flds.Fld) (b : List UInt8) : Prop where
  first : ∀ d ∈ proto ++ 32 :: Lib.itoa c, d ≠ 13
  flds : Flds.fldsOk (l ++ [(lenName, Lib.itoa (b.length : Int))]) = true
theorem itoa_dig {n : Int} (h : 0 ≤ n) : ∀ d ∈ Lib.itoa n, Tx.okb d = true ∧ Tx.blk d = false ∧ d ≠ 13 := by
  intro d hd
  rw [Par.itoa_nat h] at hd
  exact dig_ok d (Par.dec_dig _ d hd)
theorem rsp_parts {c : Int} {l : List Flds.Fld} {b : List UInt8} (hl : (Lib.itoa (b.length : Int)).length ≤ 200) (hr : rspOk c l b = true) : RspP c l b := by
  unfold rspOk at hr
  simp only [Bool.and_eq_true, decide_eq_true_eq] at hr
  obtain ⟨hc, ho, hb⟩ := hr
  refine ⟨fun d hd => ?_, ?_⟩
  · rcases List.mem_append.1 hd with hd | hd
    · intro e; subst e; exact absurd hd (by decide)
    · rcases List.mem_cons.1 hd with e | hd
      · rw [e]; decide
      · exact (itoa_dig (by omega) d hd).2.2
  · unfold ownOk at ho
    simp only [Bool.and_eq_true, decide_eq_true_eq] at ho
    obtain ⟨h1, h2⟩ := all_of_ok ho.1
    have hv : Tx.valOk (Lib.itoa (b.length : Int)) = true := val_ok (fun d hd => ⟨(itoa_dig (by omega) d hd).1, (itoa_dig (by omega) d hd).2.1⟩) hl
    unfold Flds.fldsOk
    rw [List.all_append, h1, Bool.true_and, List.all_cons, List.all_nil, Bool.and_true, Bool.and_eq_true, decide_eq_true_eq]
    refine ⟨?_, by rw [List.length_append, List.length_singleton]; omega⟩
    unfold Flds.fldOk
    rw [hv, Bool.and_true]
    show Tx.nameOk lenName = true
    decide
theorem rsp_text (c : Int) (l : List Flds.Fld) (b : List UInt8) : rspTxt c l b = T ((proto ++ 32 :: Lib.itoa c) :: (l ++ [(lenName, Lib.itoa (b.length : Int))]).map (fun f => f.1 ++ [58, 32] ++ f.2)) ++ 13 :: 10 :: b := by
  rw [T_cons, ← fmt_T]
  unfold rspTxt Flds.fmt Flds.line proto lenName
  rw [List.flatMap_append]
  simp
theorem pin_itoa {n : Int} (h0 : 0 ≤ n) (h1 : n ≤ 1000000000000) : Pin.pin (Lib.itoa n) = (n, true) := by
  have hv := Par.itoa_val h0
  unfold Pin.pin
  rw [hv, if_pos ⟨rfl, by omega⟩]
/-- What the head of a message is, in its parts. -/
theorem split_ok {x0 : List UInt8} {fs : List Flds.Fld} (body : List UInt8) (hx : ∀ c ∈ x0, c ≠ 13) (h0 : x0 ≠ []) (hf : Flds.fldsOk fs = true) :
    ∃ hd, Lib.cut (T (x0 :: fs.map (fun f => f.1 ++ [58, 32] ++ f.2)) ++ 13 :: 10 :: body) [13, 10, 13, 10] = (hd, body, true) ∧ Lib.cut (hd ++ [13, 10]) [13, 10] = (x0, Flds.fmt fs, true) ∧ Flds.pfr (Flds.fmt fs) = (fs, true) := by
  have hfine : Fine (x0 :: fs.map (fun f => f.1 ++ [58, 32] ++ f.2)) := by
    intro x hm
    rcases List.mem_cons.1 hm with e | hm
    · rw [e]; exact ⟨h0, hx⟩
    · exact fine_flds (all_of_ok hf).1 x hm
  obtain ⟨hd, e, hc⟩ := cut4 hfine (by simp) body
  exact ⟨hd, hc, by rw [← e, cut2 _ hx, fmt_T], Flds.pfr_fmt hf⟩
end Go.Proofs.YtfkejnbkglaokaaGreatDoor.Msg

/-
  A WRAP: laid variables beside the world's shape. And: the library's bytealg.MaxLen holds some integer, at every later world.
-/
namespace Go.Proofs.YtfkejnbkglaokaaGreatDoor.Sh
open Go Go.RowKit
set_option linter.unusedVariables false
set_option maxRecDepth 1000000
variable {H : Type} {enc : TypeId × Value → H}

theorem and_shaped {a : Assume} {C : Checked} {os : Os} {f : FuncId} {fn : Func} {s : ChangeSpec} {conds : List PathCond} {apart fresh handsOn again : Bool} {X : World → Array Value → Prop}
    (hX : ∀ (w w' : World) (args : Array Value), w.heap = w'.heap → X w args → X w' args)
    (own : ownKnob C.prog.godebug = none) (started : os.Started) (noInit : C.prog.inits.idxOf? f = none) (hfn : C.prog.funcs[f]? = some fn)
    (witness : ∃ (w : World) (tape : Tape) (i : Input), w.os = os ∧ (w.forCall tape i).Shaped C.prog ∧ i.vars = [] ∧ Input.okWide C.prog (w.forCall tape i) .any w.heap.size f i ∧
      ((s.pre enc C.prog fn conds apart (w.forCall tape i).memory i.args ∧ X (w.forCall tape i).memory i.args) ∧ sizedMet enc C.prog fn (OpenSpec.ofChange s) apart (w.forCall tape i).memory i.args) ∧ a.holds C.prog (lone (Frame.enter C.prog f i.args .normal) [] (w.forCall tape i)))
    (contract : ∀ (W : World) (base : Nat) (args : Array Value) (ds gs : List (DataW H)) (before : List MemPlace),
      (∀ (j : Nat) t v, fn.params[j]? = some t → args[j]? = some v → Value.okWide C.prog W .any base t v) →
      DataW.Whole enc C.prog fn.params.toList s.vars apart W args.toList ds gs before →
      W.ShapedOpen C.prog → X W args →
      Calls C.prog f args W fun e W' => ∃ v, e = .returned v ∧ s.post enc C.prog fn apart fresh handsOn again W args v W') :
    ReturnsInHanded a C os f .any (fun w args => (s.pre enc C.prog fn conds apart w args ∧ X w args) ∧ sizedMet enc C.prog fn (OpenSpec.ofChange s) apart w args) (s.post enc C.prog fn apart fresh handsOn again) := by
  refine returnsInHanded_of_calls own started noInit witness ?_
  intro w tape i _ hsh _ hok hpre hholds
  obtain ⟨_, _, _, fn', hfn', _, _, _, _, hval⟩ := hok
  have e : fn' = fn := Option.some.inj (hfn'.symm.trans hfn)
  subst e
  obtain ⟨⟨⟨ds, gs, before, hw, hc⟩, hx⟩, hz⟩ := hpre
  have hw' := DataW.Whole.of_heap (w' := w.forCall tape i) (by rfl) hw
  refine (contract (w.forCall tape i) w.heap.size i.args ds gs before hval hw' hsh (hX _ _ _ (by rfl) hx)).mono fun e W' ⟨v, he, hp⟩ => ?_
  subst he
  exact ChangeSpec.post_blind hp

def MxL (w : World) : Prop := 0 < w.heap.size ∧ ∃ m, w.cell? ⟨0, 0, none⟩ = some (.int .i64 m)
theorem mxl_below {w w' : World} (h : MxL w) (hb : Below w.heap.size w w') : MxL w' := by
  obtain ⟨hg, m, hc⟩ := h
  exact ⟨Nat.lt_of_lt_of_le hg hb.size, m, (hb.cell (p := ⟨0, 0, none⟩) hg).trans hc⟩
theorem mxl_of {W : World} (h : W.ShapedOpen Tryz.prog) : MxL W := by
  obtain ⟨m, hc⟩ := Go.Proofs.cell_of_shapedOpen_int (g := 0) (zero := #[.int .i64 0]) (t := 3) h (of_decide_eq_true (by kernel_rfl)) (by kernel_rfl) rfl (by kernel_rfl) (by kernel_rfl) Tryz.underlying3
  exact ⟨World.block_lt_of_cell? _ _ hc, m, hc⟩
end Go.Proofs.YtfkejnbkglaokaaGreatDoor.Sh
