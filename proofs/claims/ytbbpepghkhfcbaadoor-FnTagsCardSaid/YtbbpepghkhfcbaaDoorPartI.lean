/-
  CONTRACTS AND PLAIN FACTS, several texts in one; each says in its own words what it proves.
-/
import Derived.Test.YtbbpepghkhfcbaaDoorPartG
import Derived.Test.YtbbpepghkhfcbaaDoorPartH
import Derived.Laws.DeepStrings4
import Derived.Test.YtbbpepghkhfcbaaDoorPartD
import Derived.Test.YtbbpepghkhfcbaaDoorPartA
import Derived.LoopTactic
import Derived.Outline
set_option linter.unusedSimpArgs false
set_option linter.unusedVariables false

/-
  CONTRACT of the program's ParseTag; nothing that was there before is changed.
-/
namespace Go.Proofs.YtbbpepghkhfcbaaDoor.Tgs
open Go Go.RowKit
set_option linter.unusedVariables false
set_option maxRecDepth 1000000

def ParEnd (l : List UInt8) (w : World) (e : Ending) (w' : World) : Prop := e = .returned (.tuple #[.agg #[.bool (ptag l).1.1, .string ⟨(ptag l).1.2.toArray⟩], .bool (ptag l).2]) ∧ Below w.heap.size w w'
theorem par_ret {l : List UInt8} {x b : Bool} {t : List UInt8} (h : ptag l = ((x, t), b)) : Ending.returned (.tuple #[.agg #[.bool x, .string ⟨t.toArray⟩], .bool b]) = .returned (.tuple #[.agg #[.bool (ptag l).1.1, .string ⟨(ptag l).1.2.toArray⟩], .bool (ptag l).2]) := by rw [h]
/-- Two blocks of the call's own, kept by what follows. -/
theorem kept22 {w w1 : World} {T : TypeId} {a b c d : Value} (hb : Below ((w.alloc (.cells #[a, b] T)).alloc (.cells #[c, d] T)).heap.size ((w.alloc (.cells #[a, b] T)).alloc (.cells #[c, d] T)) w1) :
    (w1.cell? ⟨w.heap.size, 0, none⟩ = some a ∧ w1.cell? ⟨w.heap.size, 1, none⟩ = some b ∧ w1.cell? ⟨w.heap.size + 1, 0, none⟩ = some c ∧ w1.cell? ⟨w.heap.size + 1, 1, none⟩ = some d) ∧ (w1.frozen? ⟨w.heap.size, 0, none⟩ = false ∧ w1.frozen? ⟨w.heap.size, 1, none⟩ = false) ∧ Below w.heap.size w w1 := by
  have h1 : Below (w.alloc (.cells #[a, b] T)).heap.size (w.alloc (.cells #[a, b] T)) w1 := ((Below.refl _ _).alloc (Nat.le_refl _) _).trans (hb.mono (by simp))
  refine ⟨⟨?_, ?_, ?_, ?_⟩, ⟨?_, ?_⟩, ((Below.refl _ _).alloc (Nat.le_refl _) _).trans (h1.mono (by simp))⟩
  · rw [h1.cell (p := ⟨w.heap.size, 0, none⟩) (by simp), World.cell?_alloc_new]; rfl
  · rw [h1.cell (p := ⟨w.heap.size, 1, none⟩) (by simp), World.cell?_alloc_new]; rfl
  · rw [hb.cell (p := ⟨w.heap.size + 1, 0, none⟩) (by simp), World.cell?_alloc_at _ _ _ _ (by simp)]; rfl
  · rw [hb.cell (p := ⟨w.heap.size + 1, 1, none⟩) (by simp), World.cell?_alloc_at _ _ _ _ (by simp)]; rfl
  · rw [h1.frozen (p := ⟨w.heap.size, 0, none⟩) (by simp)]; simp [go_sem]
  · rw [h1.frozen (p := ⟨w.heap.size, 1, none⟩) (by simp)]; simp [go_sem]
theorem trimp_len (l p : List UInt8) : (Lib.trimPrefix l p).length ≤ l.length := by unfold Lib.trimPrefix; split <;> simp
theorem trims_len (l p : List UInt8) : (Lib.trimSuffix l p).length ≤ l.length := by unfold Lib.trimSuffix; split <;> simp

set_option maxHeartbeats 2000000 in
theorem impl_ptag (l : List UInt8) (w : World) (hs : l.length ≤ 1048576) :
    Calls Tryd.prog 6 #[.string ⟨l.toArray⟩] w (ParEnd l w) := by
  have C1 : Hid (∀ W : World, Calls Tryd.prog 17 #[.string ⟨l.toArray⟩, .string ⟨#[87, 47]⟩] W fun e w' => e = .returned (.tuple #[.string ⟨(Lib.trimPrefix l [87, 47]).toArray⟩, .bool (Lib.hasPrefix l [87, 47])]) ∧ w' = W) := Lib.hid (fun W => Tryd.strings_CutPrefix ⟨l.toArray⟩ ⟨#[87, 47]⟩ W)
  have HP : Hid (ptag l = if Lib.hasPrefix (Lib.trimPrefix l [87, 47]) [34] && (Lib.hasSuffix (Lib.trimPrefix (Lib.trimPrefix l [87, 47]) [34]) [34] && okt (Lib.trimSuffix (Lib.trimPrefix (Lib.trimPrefix l [87, 47]) [34]) [34]))
  then ((Lib.hasPrefix l [87, 47], Lib.trimSuffix (Lib.trimPrefix (Lib.trimPrefix l [87, 47]) [34]) [34]), true) else ((false, []), false)) := Lib.hid rfl
  have l1 := trimp_len l [87, 47]
  generalize Lib.trimPrefix l [87, 47] = r at C1 HP l1
  generalize Lib.hasPrefix l [87, 47] = wk at C1 HP
  have C2 : Hid (∀ W : World, Calls Tryd.prog 17 #[.string ⟨r.toArray⟩, .string ⟨#[34]⟩] W fun e w' => e = .returned (.tuple #[.string ⟨(Lib.trimPrefix r [34]).toArray⟩, .bool (Lib.hasPrefix r [34])]) ∧ w' = W) := Lib.hid (fun W => Tryd.strings_CutPrefix ⟨r.toArray⟩ ⟨#[34]⟩ W)
  have l2 := trimp_len r [34]
  generalize Lib.trimPrefix r [34] = t at C2 HP l2
  generalize Lib.hasPrefix r [34] = op at C2 HP
  have C3 : Hid (∀ W : World, Calls Tryd.prog 18 #[.string ⟨t.toArray⟩, .string ⟨#[34]⟩] W fun e w' => e = .returned (.tuple #[.string ⟨(Lib.trimSuffix t [34]).toArray⟩, .bool (Lib.hasSuffix t [34])]) ∧ w' = W) := Lib.hid (fun W => Tryd.strings_CutSuffix ⟨t.toArray⟩ ⟨#[34]⟩ W (by rw [bsz]; omega))
  have l3 := trims_len t [34]
  generalize Lib.trimSuffix t [34] = u at C3 HP l3
  generalize Lib.hasSuffix t [34] = cl at C3 HP
  have HI := Lib.hid (fun W => impl_is wk u W (by omega))
  have HZ : Hid (Below w.heap.size w ((w.alloc (.cells #[.bool false, .string ⟨#[]⟩] 25)).alloc (.cells #[.bool wk, .string ⟨u.toArray⟩] 25))) := Lib.hid (((Below.refl _ _).alloc (Nat.le_refl _) _).alloc (by simp) _)
  have HK := Lib.hid (fun w1 => kept22 (w := w) (w1 := w1) (T := 25) (a := .bool false) (b := .string ⟨#[]⟩) (c := .bool wk) (d := .string ⟨u.toArray⟩))
  clear l1 l2 l3 hs
  cases op with
  | false =>
    have HE : Hid (ptag l = ((false, []), false)) := Lib.hid (by rw [HP.out]; simp)
    clear HP HI HK
    go_enter Tryd.func6, Tryd.ntmps6
    go_wp2_with (first | (go_at_call 17; with_reducible refine (C1.out _).mono ?_; rintro e w' ⟨rfl, hw⟩; rw [hw]; clear hw) | (go_at_call 17; with_reducible refine (C2.out _).mono ?_; rintro e w' ⟨rfl, hw⟩; rw [hw]; clear hw) | (go_at_call 18; with_reducible refine (C3.out _).mono ?_; rintro e w' ⟨rfl, hw⟩; rw [hw]; clear hw))
    refine bodyPost_ret (v := .tuple #[.agg #[.bool false, .string ⟨#[]⟩], .bool false]) (by simp [results, Tryd.results6, go_sem]) rfl ⟨par_ret HE.out, HZ.out⟩
  | true =>
    cases cl with
    | false =>
      have HE : Hid (ptag l = ((false, []), false)) := Lib.hid (by rw [HP.out]; simp)
      clear HP HI HK
      go_enter Tryd.func6, Tryd.ntmps6
      go_wp2_with (first | (go_at_call 17; with_reducible refine (C1.out _).mono ?_; rintro e w' ⟨rfl, hw⟩; rw [hw]; clear hw) | (go_at_call 17; with_reducible refine (C2.out _).mono ?_; rintro e w' ⟨rfl, hw⟩; rw [hw]; clear hw) | (go_at_call 18; with_reducible refine (C3.out _).mono ?_; rintro e w' ⟨rfl, hw⟩; rw [hw]; clear hw))
      refine bodyPost_ret (v := .tuple #[.agg #[.bool false, .string ⟨#[]⟩], .bool false]) (by simp [results, Tryd.results6, go_sem]) rfl ⟨par_ret HE.out, HZ.out⟩
    | true =>
      cases hz : okt u with
      | false =>
        have HE : Hid (ptag l = ((false, []), false)) := Lib.hid (by rw [HP.out, hz]; simp)
        rw [hz] at HI
        clear HP hz HZ
        go_enter Tryd.func6, Tryd.ntmps6
        go_wp2_with (first | (go_at_call 17; with_reducible refine (C1.out _).mono ?_; rintro e w' ⟨rfl, hw⟩; rw [hw]; clear hw) | (go_at_call 17; with_reducible refine (C2.out _).mono ?_; rintro e w' ⟨rfl, hw⟩; rw [hw]; clear hw) | (go_at_call 18; with_reducible refine (C3.out _).mono ?_; rintro e w' ⟨rfl, hw⟩; rw [hw]; clear hw))
        go_at_call 11
        refine (HI.out _).mono ?_
        rintro e w1 ⟨rfl, hb⟩
        obtain ⟨⟨q1, q2, q3, q4⟩, ⟨f1, f2⟩, hb1⟩ := HK.out _ hb
        have HB := Lib.hid hb1
        clear hb hb1
        go_wp2
        refine bodyPost_ret (v := .tuple #[.agg #[.bool false, .string ⟨#[]⟩], .bool false]) (by simp [results, Tryd.results6, go_sem, q1, q2, q3, q4]) rfl ⟨par_ret HE.out, ?_⟩
        exact (HB.out.setCell (Nat.le_refl _) _).setCell (Nat.le_refl _) _
      | true =>
        have HE : Hid (ptag l = ((wk, u), true)) := Lib.hid (by rw [HP.out, hz]; simp)
        rw [hz] at HI
        clear HP hz HZ
        go_enter Tryd.func6, Tryd.ntmps6
        go_wp2_with (first | (go_at_call 17; with_reducible refine (C1.out _).mono ?_; rintro e w' ⟨rfl, hw⟩; rw [hw]; clear hw) | (go_at_call 17; with_reducible refine (C2.out _).mono ?_; rintro e w' ⟨rfl, hw⟩; rw [hw]; clear hw) | (go_at_call 18; with_reducible refine (C3.out _).mono ?_; rintro e w' ⟨rfl, hw⟩; rw [hw]; clear hw))
        go_at_call 11
        refine (HI.out _).mono ?_
        rintro e w1 ⟨rfl, hb⟩
        obtain ⟨⟨q1, q2, q3, q4⟩, ⟨f1, f2⟩, hb1⟩ := HK.out _ hb
        have HB := Lib.hid hb1
        clear hb hb1
        go_wp2
        refine bodyPost_ret (v := .tuple #[.agg #[.bool wk, .string ⟨u.toArray⟩], .bool true]) (by simp [results, Tryd.results6, go_sem, q1, q2, q3, q4]) rfl ⟨par_ret HE.out, ?_⟩
        exact (HB.out.setCell (Nat.le_refl _) _).setCell (Nat.le_refl _) _

/-- What stands between two quotes, by the text's bytes. -/
theorem inner_yes {s : ByteArray} (h2 : 2 ≤ s.size) (ha : s[0] = 34) (hz : s[s.size - 1] = 34) : inner s.data.toList = (true, (s.extract 1 (s.size - 1)).data.toList) := by
  obtain ⟨⟨l⟩⟩ := s
  have hl : (⟨⟨l⟩⟩ : ByteArray).size = l.length := rfl
  rw [hl] at h2
  have e0 : l.head? = some 34 := by
    cases l with
    | nil => simp at h2
    | cons a t => have ha' : a = 34 := ha; simp [ha']
  have e1 : l.getLast? = some 34 := by
    rw [List.getLast?_eq_getElem?]
    have hlt : l.length - 1 < l.length := by omega
    rw [List.getElem?_eq_getElem hlt]
    exact congrArg some hz
  unfold inner
  rw [Lib.extract_data]
  show (decide (2 ≤ l.length) && (l.head? == some 34 && l.getLast? == some 34), (l.drop 1).take (l.length - 2)) = (true, (l.drop 1).take (l.length - 1 - 1))
  rw [e0, e1, show l.length - 1 - 1 = l.length - 2 by omega]
  simp [h2]
theorem inner_no {s : ByteArray} (h : s.size < 2 ∨ (∃ h0 : 0 < s.size, s[0] ≠ 34) ∨ ∃ h0 : s.size - 1 < s.size, s[s.size - 1] ≠ 34) : (inner s.data.toList).1 = false := by
  obtain ⟨⟨l⟩⟩ := s
  unfold inner
  show (decide (2 ≤ l.length) && (l.head? == some 34 && l.getLast? == some 34)) = false
  rcases h with h | ⟨h0, h⟩ | ⟨h0, h⟩
  · have h' : l.length < 2 := h
    have : decide (2 ≤ l.length) = false := by simp; omega
    rw [this, Bool.false_and]
  · have : (l.head? == some 34) = false := by
      cases l with
      | nil => rfl
      | cons a t =>
        have ha : a ≠ 34 := h
        simp [ha]
    rw [this, Bool.false_and, Bool.and_false]
  · have : (l.getLast? == some 34) = false := by
      rw [List.getLast?_eq_getElem?]
      have hlt : l.length - 1 < l.length := h0
      rw [List.getElem?_eq_getElem hlt]
      have ha : l[l.length - 1] ≠ 34 := h
      simp [ha]
    rw [this, Bool.and_false, Bool.and_false]

end Go.Proofs.YtbbpepghkhfcbaaDoor.Tgs

/-
  CONTRACT of the model's ParseTag; nothing that was there before is changed.
-/
namespace Go.Proofs.YtbbpepghkhfcbaaDoor.Tgs
open Go Go.RowKit
set_option linter.unusedVariables false
set_option maxRecDepth 1000000

theorem ptag_small {l : List UInt8} (h : l.length ≤ 2) : ptag l = if (inner l).1 && okt (inner l).2 then ((false, (inner l).2), true) else ((false, []), false) := by
  by_cases hw : 2 ≤ l.length ∧ l.take 2 = [87, 47]
  · have e : l = [87, 47] := by rw [← hw.2]; exact (List.take_of_length_le h).symm
    subst e; decide
  · exact ptag_strong hw
theorem cut2 (s : ByteArray) : (s.extract 0 2).toList = s.data.toList.take 2 := by rw [Lib.extract_toList]; simp
theorem cut2' (s : ByteArray) : (s.extract 2 s.size).data.toList = s.data.toList.drop 2 := by
  rw [Lib.extract_data, List.take_of_length_le (by rw [List.length_drop, list_len]; omega)]

end Go.Proofs.YtbbpepghkhfcbaaDoor.Tgs

/-
  CONTRACTS of both sides' TrimText: at every text each returns it without the blanks at its beginning and its end; nothing that was there before is changed.
-/
namespace Go.Proofs.YtbbpepghkhfcbaaDoor.Tx
open Go Go.RowKit
set_option linter.unusedVariables false
set_option maxRecDepth 1000000

theorem impl_trim (s : ByteArray) (w : World) (hs : s.size ≤ 9223372036854775807) :
    Calls Tryd.prog 19 #[.string s] w fun e w' => e = .returned (.string ⟨(trim s.data.toList).toArray⟩) ∧ Below w.heap.size w w' := by
  have hcon := Tryd.strings_Trim_laid s ⟨#[32, 9]⟩ w hs (by decide) (ascii_of_all (by decide))
  change Calls Tryd.prog 29 _ _ (fun e w' => e = .returned (.string ⟨(Lib.trimS s.data.toList [32, 9]).toArray⟩) ∧ Below w.heap.size w w') at hcon
  rw [trim_set] at hcon
  generalize (⟨(trim s.data.toList).toArray⟩ : ByteArray) = r at hcon ⊢
  go_enter Tryd.func19, Tryd.ntmps19
  go_wp2_with (go_at_call 29; refine hcon.mono ?_; rintro e w' ⟨rfl, hB⟩)
  go_ret
  exact ⟨rfl, hB⟩

def slen : Value → Nat
  | .string s => s.size
  | _ => 0
theorem ret_str {a b : List UInt8} (h : a = b) : Ending.returned (.string ⟨a.toArray⟩) = .returned (.string ⟨b.toArray⟩) := by rw [h]
theorem empty_eq {x : ByteArray} (h : x.size = 0) : x.data.toList = [] := List.eq_nil_of_length_eq_zero (by rw [Array.length_toList]; exact h)
theorem ret_trim {x : ByteArray} {a : List UInt8} (h : [] = a) (hx : x.data.toList = []) : Ending.returned (.string x) = .returned (.string ⟨a.toArray⟩) := by
  subst h
  have : x = ⟨#[]⟩ := by
    have : x.data = #[] := by simpa using hx
    cases x; simp_all
  rw [this]
theorem ret_bytes {x : ByteArray} {a : List UInt8} (h : x.data.toList = a) : Ending.returned (.string x) = .returned (.string ⟨a.toArray⟩) := by subst h; simp
theorem cut_front {x : ByteArray} {n : Nat} (h : n ≤ x.size) : (x.extract 0 n).data.toList = x.data.toList.take n := by simp
theorem cut_size {x : ByteArray} {n : Nat} (h : n ≤ x.size) : (x.extract 0 n).size = n := by simp; omega
theorem cut_one (c : UInt8) (r : List UInt8) : Value.string ((⟨(c :: r).toArray⟩ : ByteArray).extract 1 (r.length + 1)) = .string ⟨r.toArray⟩ := by
  congr 1
  have : ((⟨(c :: r).toArray⟩ : ByteArray).extract 1 (r.length + 1)).data = r.toArray := by simp
  exact ByteArray.ext this
theorem last_split {x : ByteArray} {n : Nat} (hn : x.size = n + 1) (h : n < x.size) : x.data.toList = x.data.toList.take n ++ [x[n]] := by
  have e : x.data.toList.take (n + 1) = x.data.toList := List.take_of_length_le (by rw [Array.length_toList]; have : x.data.size = x.size := rfl; omega)
  have s := List.take_succ_eq_append_getElem (l := x.data.toList) (i := n) (by rw [Array.length_toList]; exact h)
  rw [e] at s
  exact s
theorem last_no {x : ByteArray} {n : Nat} (hn : x.size = n + 1) (h : n < x.size) (hb : blk x[n] = false) : trimr x.data.toList = x.data.toList := by
  rw [last_split hn h]; exact trimr_snoc_no hb
theorem last_yes {x : ByteArray} {n : Nat} (hn : x.size = n + 1) (h : n < x.size) (hb : blk x[n] = true) : trimr x.data.toList = trimr (x.data.toList.take n) := by
  conv => lhs; rw [last_split hn h]
  exact trimr_snoc_blk hb

end Go.Proofs.YtbbpepghkhfcbaaDoor.Tx
