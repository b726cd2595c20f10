/-
  CONTRACTS AND PLAIN FACTS, several texts in one; each says in its own words what it proves.
-/
import Derived.Test.YtojmkdggkaocdaaGreatDoorPvK
import Derived.Test.YtojmkdggkaocdaaGreatDoorPvG
import Derived.Test.YtojmkdggkaocdaaGreatDoorPvN
import Derived.Test.YtojmkdggkaocdaaGreatDoorPvI
import Derived.Test.YtojmkdggkaocdaaGreatDoorPvM
import Derived.Lib.ConvBytes
import Derived.Lib.AtoiAllMem
import Derived.Laws.Strings3
import Derived.Laws.Closers25
import Derived.Laws.Closers25b
import Derived.WalkKit
import Derived.IntWalk

/-
  PLAIN FACTS on targets: the percent signs of a text in their one way.
-/
namespace Go.Proofs.YtojmkdggkaocdaaGreatDoor.Nt
open Go Go.RowKit
set_option linter.unusedVariables false
set_option maxRecDepth 1000000

def hexn (c : UInt8) : Nat := if 48 ≤ c.toNat ∧ c.toNat ≤ 57 then c.toNat - 48 else if 97 ≤ c.toNat ∧ c.toNat ≤ 102 then c.toNat - 87 else if 65 ≤ c.toNat ∧ c.toNat ≤ 70 then c.toNat - 55 else 16
def hexi (c : UInt8) : Int := if hexn c < 16 then (hexn c : Int) else -1
theorem hexi_yes {c : UInt8} (h : hexn c < 16) : hexi c = (hexn c : Int) := if_pos h
theorem hexi_no {c : UInt8} (h : ¬ hexn c < 16) : hexi c = -1 := if_neg h
def plainb (b : UInt8) : Bool := Tx.letc b || (b == 45 || b == 46 || b == 95 || b == 126)
def dig (n : Nat) : UInt8 := UInt8.ofNat (if n < 10 then 48 + n else 55 + n)
def bt (x y : Nat) : UInt8 := UInt8.ofNat (16 * x + y)
theorem bt_nat {x y : Nat} (hx : x < 16) (hy : y < 16) : (bt x y).toNat = 16 * x + y := by
  unfold bt; rw [UInt8.toNat_ofNat']; omega
def code (x y : Nat) : List UInt8 := if plainb (bt x y) = true then [bt x y] else [37, dig x, dig y]
theorem code_yes {x y : Nat} (h : plainb (bt x y) = true) : code x y = [bt x y] := if_pos h
theorem code_no {x y : Nat} (h : plainb (bt x y) = false) : code x y = [37, dig x, dig y] := if_neg (by simp [h])
theorem code_len (x y : Nat) : (code x y).length ≤ 3 := by unfold code; split <;> simp

/-- The text with each percent sign in its one way; none if one is bad. -/
def norm : List UInt8 → Option (List UInt8)
  | [] => some []
  | c :: r =>
    if c = 37 then
      match r with
      | a :: b :: t => if hexn a < 16 ∧ hexn b < 16 then (norm t).map (code (hexn a) (hexn b) ++ ·) else none
      | _ => none
    else (norm r).map (c :: ·)
theorem norm_nil : norm [] = some [] := by rw [norm]
theorem norm_plain {c : UInt8} (r : List UInt8) (h : c ≠ 37) : norm (c :: r) = (norm r).map ([c] ++ ·) := by rw [norm.eq_def]; simp only [if_neg h]; rfl
theorem norm_code {a b : UInt8} (t : List UInt8) (h1 : hexn a < 16) (h2 : hexn b < 16) : norm (37 :: a :: b :: t) = (norm t).map (code (hexn a) (hexn b) ++ ·) := by
  rw [norm.eq_def]; simp only [if_true]; rw [if_pos ⟨h1, h2⟩]
theorem norm_short {r : List UInt8} (h : r.length < 2) : norm (37 :: r) = none := by
  rw [norm.eq_def]; simp only [if_true]
  match r, h with
  | [], _ => rfl
  | [_], _ => rfl
theorem norm_bad {a b : UInt8} (t : List UInt8) (h : ¬ (hexn a < 16 ∧ hexn b < 16)) : norm (37 :: a :: b :: t) = none := by
  rw [norm.eq_def]; simp only [if_true]; rw [if_neg h]
/-- .. as two results. -/
def normp (l : List UInt8) : List UInt8 × Bool := match norm l with | some t => (t, true) | none => ([], false)
theorem normp_some {l t : List UInt8} (h : norm l = some t) : normp l = (t, true) := by unfold normp; rw [h]
theorem normp_none {l : List UInt8} (h : norm l = none) : normp l = ([], false) := by unfold normp; rw [h]
theorem norm_len : ∀ (n : Nat) (l t : List UInt8), l.length ≤ n → norm l = some t → t.length ≤ l.length
  | 0, l, t, hn, h => by
    have : l = [] := List.eq_nil_of_length_eq_zero (by omega)
    subst this; rw [norm_nil] at h; cases h; simp
  | n + 1, [], t, hn, h => by rw [norm_nil] at h; cases h; simp
  | n + 1, c :: r, t, hn, h => by
    by_cases hc : c = 37
    · subst hc
      match r, hn, h with
      | [], hn, h => rw [norm_short (by simp)] at h; cases h
      | [_], hn, h => rw [norm_short (by simp)] at h; cases h
      | a :: b :: r', hn, h =>
        by_cases hx : hexn a < 16 ∧ hexn b < 16
        · rw [norm_code r' hx.1 hx.2] at h
          cases hr : norm r' with
          | none => rw [hr] at h; cases h
          | some q =>
            rw [hr] at h; cases h
            have := norm_len n r' q (by simp at hn; omega) hr
            have := code_len (hexn a) (hexn b)
            simp only [List.length_append, List.length_cons]; omega
        · rw [norm_bad r' hx] at h; cases h
    · rw [norm_plain r hc] at h
      cases hr : norm r with
      | none => rw [hr] at h; cases h
      | some q =>
        rw [hr] at h; cases h
        have := norm_len n r q (by simp at hn; omega) hr
        simp; omega
theorem normp_len (l : List UInt8) : (normp l).1.length ≤ l.length := by
  cases h : norm l with
  | none => rw [normp_none h]; simp
  | some t => rw [normp_some h]; exact norm_len _ l t (Nat.le_refl _) h

/-- What a walk over the bytes of s holds at place k: out is what the bytes before mean. -/
def NR (s : ByteArray) (k : Nat) (out : List UInt8) : Prop := norm s.data.toList = (norm (s.data.toList.drop k)).map (out ++ ·) ∧ out.length ≤ k
theorem nr_start (s : ByteArray) : NR s 0 [] := ⟨by rw [List.drop_zero]; cases norm s.data.toList <;> rfl, Nat.le_refl _⟩
theorem map_map (o : Option (List UInt8)) (a b : List UInt8) : (o.map (b ++ ·)).map (a ++ ·) = o.map ((a ++ b) ++ ·) := by cases o <;> simp
theorem nr_plain {s : ByteArray} {k : Nat} {out : List UInt8} (h : NR s k out) (hk : k < s.size) (hc : s[k] ≠ 37) : NR s (k + 1) (out ++ [s[k]]) := by
  refine ⟨?_, by have := h.2; simp; omega⟩
  rw [h.1, Tx.drop_cons s k hk, norm_plain _ hc, map_map]
theorem nr_code {s : ByteArray} {k : Nat} {out : List UInt8} (h : NR s k out) (hk : k + 2 < s.size) (hc : s[k] = 37) (h1 : hexn s[k + 1] < 16) (h2 : hexn s[k + 2] < 16) : NR s (k + 3) (out ++ code (hexn s[k + 1]) (hexn s[k + 2])) := by
  refine ⟨?_, by have := h.2; have := code_len (hexn s[k + 1]) (hexn s[k + 2]); simp; omega⟩
  rw [h.1, Tx.drop_cons s k (by omega), Tx.drop_cons s (k + 1) (by omega), Tx.drop_cons s (k + 2) hk, hc, norm_code _ h1 h2, map_map]
theorem nr_short {s : ByteArray} {k : Nat} {out : List UInt8} (h : NR s k out) (hk : k < s.size) (hc : s[k] = 37) (h2 : s.size ≤ k + 2) : norm s.data.toList = none := by
  rw [h.1, Tx.drop_cons s k hk, hc, norm_short (by rw [List.length_drop, Tx.list_len]; omega)]; rfl
theorem nr_bad {s : ByteArray} {k : Nat} {out : List UInt8} (h : NR s k out) (hk : k + 2 < s.size) (hc : s[k] = 37) (hx : ¬ (hexn s[k + 1] < 16 ∧ hexn s[k + 2] < 16)) : norm s.data.toList = none := by
  rw [h.1, Tx.drop_cons s k (by omega), Tx.drop_cons s (k + 1) (by omega), Tx.drop_cons s (k + 2) hk, hc, norm_bad _ hx]; rfl
theorem nr_end {s : ByteArray} {k : Nat} {out : List UInt8} (h : NR s k out) (hk : ¬ k < s.size) : norm s.data.toList = some out := by
  rw [h.1, List.drop_of_length_le (by rw [Tx.list_len]; omega), norm_nil]; simp

/-! the sixteen digits -/
def hexs : ByteArray := ⟨#[48, 49, 50, 51, 52, 53, 54, 55, 56, 57, 65, 66, 67, 68, 69, 70]⟩
theorem hex_fin : ∀ r : Fin 16, (⟨#[48, 49, 50, 51, 52, 53, 54, 55, 56, 57, 65, 66, 67, 68, 69, 70]⟩ : ByteArray)[r.1]'(r.2) = dig r.1 := by decide
theorem hex_at (u : Nat) (h : u < (⟨#[48, 49, 50, 51, 52, 53, 54, 55, 56, 57, 65, 66, 67, 68, 69, 70]⟩ : ByteArray).size) :
    (⟨#[48, 49, 50, 51, 52, 53, 54, 55, 56, 57, 65, 66, 67, 68, 69, 70]⟩ : ByteArray)[u]'h = dig u := hex_fin ⟨u, h⟩
def PairEnd (p : List UInt8 × Bool) (w : World) (e : Ending) (w' : World) : Prop := e = .returned (.tuple #[.string ⟨p.1.toArray⟩, .bool p.2]) ∧ Below w.heap.size w w'
theorem ret_p {p q : List UInt8 × Bool} (h : p = q) : Ending.returned (.tuple #[.string ⟨p.1.toArray⟩, .bool p.2]) = .returned (.tuple #[.string ⟨q.1.toArray⟩, .bool q.2]) := by rw [h]
end Go.Proofs.YtojmkdggkaocdaaGreatDoor.Nt

/-
  CONTRACTS of the library's ParseUint at a text of two bytes, base 16 and 8 bits: the number that the two digits mean, or an error; nothing that was there before is changed.
-/
namespace Go.Proofs.YtojmkdggkaocdaaGreatDoor.Nt
open Go Go.RowKit Bys
set_option linter.unusedVariables false
set_option maxRecDepth 1000000
set_option maxRecDepth 1000000

theorem or32 : ∀ r : Fin 256, bits .or .u8 ((r.1 : Nat) : Int) 32 = (if r.1 / 32 % 2 = 1 then (r.1 : Int) else (r.1 : Int) + 32) := by decide
/-- What is read up to place k of two digits x, y. -/
def acc (x y k : Nat) : Nat := if k = 0 then 0 else if k = 1 then x else 16 * x + y
def PuEnd (x y : Nat) (w : World) (e : Ending) (w' : World) : Prop := (e = .returned (.tuple #[.int .u64 (if x < 16 ∧ y < 16 then (16 * x + y : Nat) else 0 : Int), if x < 16 ∧ y < 16 then .nilIface else .iface 211 (.int .i64 2)])) ∧ Below w.heap.size w w'

/-- What a byte is for the reader: a digit, a small or a capital letter of the sixteen, or neither. -/
theorem hex_kind (c : UInt8) : (48 ≤ c.toNat ∧ c.toNat ≤ 57 ∧ hexn c = c.toNat - 48) ∨ (97 ≤ c.toNat ∧ c.toNat ≤ 102 ∧ hexn c = c.toNat - 87) ∨ (65 ≤ c.toNat ∧ c.toNat ≤ 70 ∧ hexn c = c.toNat - 55) ∨ (hexn c = 16 ∧ ¬ (48 ≤ c.toNat ∧ c.toNat ≤ 57) ∧ ¬ (97 ≤ c.toNat ∧ c.toNat ≤ 102) ∧ ¬ (65 ≤ c.toNat ∧ c.toNat ≤ 70)) := by
  unfold hexn
  by_cases h1 : 48 ≤ c.toNat ∧ c.toNat ≤ 57
  · exact Or.inl ⟨h1.1, h1.2, if_pos h1⟩
  by_cases h2 : 97 ≤ c.toNat ∧ c.toNat ≤ 102
  · exact Or.inr (Or.inl ⟨h2.1, h2.2, by rw [if_neg h1, if_pos h2]⟩)
  by_cases h3 : 65 ≤ c.toNat ∧ c.toNat ≤ 70
  · exact Or.inr (Or.inr (Or.inl ⟨h3.1, h3.2, by rw [if_neg h1, if_neg h2, if_pos h3]⟩))
  · exact Or.inr (Or.inr (Or.inr ⟨by rw [if_neg h1, if_neg h2, if_neg h3], h1, h2, h3⟩))
theorem or_small {n : Nat} (h : 97 ≤ n ∧ n ≤ 102) : bits .or .u8 (n : Int) 32 = (n : Int) := by
  have := or32 ⟨n, by omega⟩; simp only at this; rw [this, if_pos (by omega)]
theorem or_big {n : Nat} (h : 65 ≤ n ∧ n ≤ 70) : bits .or .u8 (n : Int) 32 = (n : Int) + 32 := by
  have := or32 ⟨n, by omega⟩; simp only at this; rw [this, if_neg (by omega)]
/-- .. and of the others no letter below g. -/
theorem or_no {n : Nat} (h0 : n < 256) (h1 : ¬ (97 ≤ n ∧ n ≤ 102)) (h2 : ¬ (65 ≤ n ∧ n ≤ 70)) : ¬ (97 ≤ bits .or .u8 (n : Int) 32 ∧ bits .or .u8 (n : Int) 32 ≤ 102) := by
  have := or32 ⟨n, h0⟩; simp only at this; rw [this]; split <;> omega

set_option maxHeartbeats 8000000 in
theorem pu_in (a b : UInt8) (w : World) : Calls Tryz.prog 253 #[.string ⟨#[a, b]⟩, .int .i64 16, .int .i64 8] w (PuEnd (hexn a) (hexn b) w) := by
  have hcv := Lib.run_convert_string_bytes (P := Tryz.prog) w 9 149 5 ⟨#[a, b]⟩ (u := .string) Tryz.underlying9 Tryz.underlying149 Tryz.underlying5
  have hB : ∀ j, j < 2 → (Lib.bytesWorld w 5 ⟨#[a, b]⟩).cell? ⟨w.heap.size, j, none⟩ = some (.int .u8 (([a, b].getD j 0).toNat : Int)) := fun j hj => Lib.bytesWorld_cell w 5 ⟨#[a, b]⟩ j hj
  have hbw : Below w.heap.size w (Lib.bytesWorld w 5 ⟨#[a, b]⟩) := Joins.below_bytesWorld _ _ _ _ (Nat.le_refl _)
  obtain ⟨W1, hW1⟩ : ∃ W1, W1 = Lib.bytesWorld w 5 ⟨#[a, b]⟩ := ⟨_, rfl⟩
  rw [← hW1] at hcv hB hbw
  clear hW1
  have HBW := Lib.hid hbw
  have HBB := Lib.hid hB
  clear hbw hB
  have hmv : IntKind.u64.wrap (IntKind.u64.wrap 256 - 1) = 255 := by rw [IntKind.wrap_u64, IntKind.wrap_u64]; decide
  have hsz : (⟨#[a, b]⟩ : ByteArray).size = 2 := rfl
  unfold PuEnd
  obtain ⟨v1, hv1⟩ : ∃ v : Int, v = (if hexn a < 16 ∧ hexn b < 16 then (16 * hexn a + hexn b : Nat) else 0 : Int) := ⟨_, rfl⟩
  obtain ⟨v2, hv2⟩ : ∃ v : Value, v = (if hexn a < 16 ∧ hexn b < 16 then .nilIface else .iface 211 (.int .i64 2)) := ⟨_, rfl⟩
  rw [← hv1, ← hv2]
  have HV : Hid (v1 = (if hexn a < 16 ∧ hexn b < 16 then (16 * hexn a + hexn b : Nat) else 0 : Int) ∧ v2 = (if hexn a < 16 ∧ hexn b < 16 then .nilIface else .iface 211 (.int .i64 2))) := Lib.hid ⟨hv1, hv2⟩
  clear hv1 hv2
  go_enter Tryz.func253, Tryz.ntmps253
  go_wp2
  go_loop [12, 13, 101] (fun vu vn vi => ∃ (k : Nat) (n : Int), vu = .bool false ∧ vn = .int .u64 n ∧ vi = .int .i64 (k : Int) ∧ k ≤ 2 ∧ Hid (n = (acc (hexn a) (hexn b) k : Int) ∧ (1 ≤ k → hexn a < 16) ∧ (2 ≤ k → hexn b < 16)))
    (fun _ _ vi => 2 - (intOf vi).toNat)
  case atStart => exact ⟨0, 0, rfl, rfl, rfl, by omega, Lib.hid ⟨rfl, fun h => by omega, fun h => by omega⟩⟩
  case round =>
    obtain ⟨k, n, rfl, rfl, rfl, hk, HH⟩ := hrel
    by_cases hkn : k < 2
    · have hc := HBB.out k hkn
      have hki : (k : Int) < 2 := by omega
      -- the byte, what it is, and what the number is before it
      obtain ⟨c, hcd⟩ : ∃ c, c = [a, b].getD k 0 := ⟨_, rfl⟩
      rw [← hcd] at hc
      have HC := Lib.hid hcd
      clear hcd
      have hc256 : c.toNat < 256 := c.toNat_lt
      have n0 : 0 ≤ n ∧ n < 16 := by
        obtain ⟨e, h1, h2⟩ := HH.out
        rw [e]; unfold acc
        match k, hkn with
        | 0, _ => simp
        | 1, _ => have := h1 (by omega); simp; omega
      obtain ⟨n1, n2⟩ := n0
      have HN : Hid (hexn c < 16 → (16 * n + (hexn c : Int)) = (acc (hexn a) (hexn b) (k + 1) : Int) ∧ (1 ≤ k + 1 → hexn a < 16) ∧ (2 ≤ k + 1 → hexn b < 16)) := Lib.hid (fun hx => by
        obtain ⟨e, h1, h2⟩ := HH.out
        have hc' := HC.out
        match k, hkn with
        | 0, _ => obtain rfl : c = a := by simpa using hc'
                  rw [e]; exact ⟨by simp [acc], fun _ => hx, fun h => by omega⟩
        | 1, _ => obtain rfl : c = b := by simpa using hc'
                  rw [e]; exact ⟨by simp [acc], fun _ => h1 (by omega), fun _ => hx⟩)
      have HBad : Hid (¬ hexn c < 16 → v1 = 0 ∧ v2 = .iface 211 (.int .i64 2)) := Lib.hid (fun hx => by
        have hc' := HC.out
        have hnn : ¬ (hexn a < 16 ∧ hexn b < 16) := by
          match k, hkn with
          | 0, _ => obtain rfl : c = a := by simpa using hc'
                    exact fun h => hx h.1
          | 1, _ => obtain rfl : c = b := by simpa using hc'
                    exact fun h => hx h.2
        have := HV.out; rw [if_neg hnn, if_neg hnn] at this; exact this)
      have HB := Lib.hid HBW.out
      clear HH HC hkn
      rcases hex_kind c with ⟨p1, p2, p3⟩ | ⟨p1, p2, p3⟩ | ⟨p1, p2, p3⟩ | ⟨p3, p4, p5, p6⟩
      · have HN := Lib.hid (HN.out (by omega))
        rw [p3] at HN
        have q1 : 48 ≤ (c.toNat : Int) := by omega
        have q2 : (c.toNat : Int) ≤ 57 := by omega
        have HQ : Hid (((c.toNat - 48 : Nat) : Int) = (c.toNat : Int) - 48) := Lib.hid (by omega)
        rw [HQ.out] at HN
        clear p1 p2 p3 HBad HQ
        generalize (c.toNat : Int) = m at *
        have icut : n < 1152921504606846976 := by omega
        have iov : n * 16 + (m - 48) ≤ 255 := by omega
        have HM : Hid (n * 16 + (m - 48) = (acc (hexn a) (hexn b) (k + 1) : Int) ∧ (1 ≤ k + 1 → hexn a < 16) ∧ (2 ≤ k + 1 → hexn b < 16)) := Lib.hid (by have h := HN.out; rw [show n * 16 + (m - 48) = 16 * n + (m - 48) by omega]; exact h)
        clear HN hc256
        go_wp2
        refine ⟨⟨k + 1, n * 16 + (m - 48), rfl, (by first | rfl | (congr 1; omega)), (by first | rfl | (congr 1; omega)), by omega, HM⟩, by simp [intOf]; omega⟩
      · have HN := Lib.hid (HN.out (by omega))
        rw [p3] at HN
        have q1 : 97 ≤ (c.toNat : Int) := by omega
        have q2 : (c.toNat : Int) ≤ 102 := by omega
        have HQ : Hid (((c.toNat - 87 : Nat) : Int) = (c.toNat : Int) - 87) := Lib.hid (by omega)
        have HLW : Hid (∀ W, Calls Tryz.prog 289 #[.int .u8 (c.toNat : Int)] W fun e w' => e = .returned (.int .u8 ((c.toNat : Int))) ∧ w' = W) := Lib.hid (fun W => by have h := Tryz.internal_strconv_lower (c.toNat : Int) W; rw [or_small ⟨p1, p2⟩] at h; exact h)
        rw [HQ.out] at HN
        clear p1 p2 p3 HBad HQ hc256
        generalize (c.toNat : Int) = m at *
        have icut : n < 1152921504606846976 := by omega
        have iov : n * 16 + (m - 87) ≤ 255 := by omega
        have HM : Hid (n * 16 + (m - 87) = (acc (hexn a) (hexn b) (k + 1) : Int) ∧ (1 ≤ k + 1 → hexn a < 16) ∧ (2 ≤ k + 1 → hexn b < 16)) := Lib.hid (by have h := HN.out; rw [show n * 16 + (m - 87) = 16 * n + (m - 87) by omega]; exact h)
        clear HN
        go_wp2_with (go_at_call 289; refine (HLW.out _).mono ?_; rintro e w' ⟨rfl, rfl⟩)
        refine ⟨⟨k + 1, n * 16 + (m - 87), rfl, (by first | rfl | (congr 1; omega)), (by first | rfl | (congr 1; omega)), by omega, HM⟩, by simp [intOf]; omega⟩
      · have HN := Lib.hid (HN.out (by omega))
        rw [p3] at HN
        have q1 : 65 ≤ (c.toNat : Int) := by omega
        have q2 : (c.toNat : Int) ≤ 70 := by omega
        have HQ : Hid (((c.toNat - 55 : Nat) : Int) = (c.toNat : Int) - 55) := Lib.hid (by omega)
        have HLW : Hid (∀ W, Calls Tryz.prog 289 #[.int .u8 (c.toNat : Int)] W fun e w' => e = .returned (.int .u8 ((c.toNat : Int) + 32)) ∧ w' = W) := Lib.hid (fun W => by have h := Tryz.internal_strconv_lower (c.toNat : Int) W; rw [or_big ⟨p1, p2⟩] at h; exact h)
        rw [HQ.out] at HN
        clear p1 p2 p3 HBad HQ hc256
        generalize (c.toNat : Int) = m at *
        have icut : n < 1152921504606846976 := by omega
        have iov : n * 16 + (m - 55) ≤ 255 := by omega
        have HM : Hid (n * 16 + (m - 55) = (acc (hexn a) (hexn b) (k + 1) : Int) ∧ (1 ≤ k + 1 → hexn a < 16) ∧ (2 ≤ k + 1 → hexn b < 16)) := Lib.hid (by have h := HN.out; rw [show n * 16 + (m - 55) = 16 * n + (m - 55) by omega]; exact h)
        clear HN
        go_wp2_with (go_at_call 289; refine (HLW.out _).mono ?_; rintro e w' ⟨rfl, rfl⟩)
        refine ⟨⟨k + 1, n * 16 + (m - 55), rfl, (by first | rfl | (congr 1; omega)), (by first | rfl | (congr 1; omega)), by omega, HM⟩, by simp [intOf]; omega⟩
      · have HE := Lib.hid (HBad.out (by omega))
        have hz1 := or_no hc256 p5 p6
        have hz2 := bits_lo_u8 .or (c.toNat : Int) 32
        have hz3 := bits_hi_u8 .or (c.toNat : Int) 32
        have q1 : ¬ (48 ≤ (c.toNat : Int) ∧ (c.toNat : Int) ≤ 57) := by omega
        have q3 : 0 ≤ (c.toNat : Int) := by omega
        have q4 : (c.toNat : Int) ≤ 255 := by omega
        have HLW : Hid (∀ W, Calls Tryz.prog 289 #[.int .u8 (c.toNat : Int)] W fun e w' => e = .returned (.int .u8 (bits .or .u8 (c.toNat : Int) 32)) ∧ w' = W) := Lib.hid (fun W => Tryz.internal_strconv_lower (c.toNat : Int) W)
        generalize bits .or .u8 (c.toNat : Int) 32 = z at *
        clear p3 p4 p5 p6 HBad HN hc256
        generalize (c.toNat : Int) = m at *
        by_cases h95 : m = 95
        · subst h95
          by_cases g1 : 97 ≤ z
          · have g2 : 102 < z := by omega
            clear hz1 q1
            go_wp2_with (go_at_call 289; refine (HLW.out _).mono ?_; rintro e w' ⟨rfl, rfl⟩)
            all_goals go_ret2
            all_goals exact ⟨by rw [HE.out.1, HE.out.2] <;> rfl, HB.out⟩
          · clear hz1 q1
            go_wp2_with (go_at_call 289; refine (HLW.out _).mono ?_; rintro e w' ⟨rfl, rfl⟩)
            all_goals go_ret2
            all_goals exact ⟨by rw [HE.out.1, HE.out.2] <;> rfl, HB.out⟩
        · have h95' : (m == 95) = false := by simpa using h95
          by_cases g0 : 48 ≤ m
          · have g3 : 57 < m := by omega
            by_cases g1 : 97 ≤ z
            · have g2 : 102 < z := by omega
              clear hz1 q1 h95
              go_wp2_with (go_at_call 289; refine (HLW.out _).mono ?_; rintro e w' ⟨rfl, rfl⟩)
              all_goals go_ret2
              all_goals exact ⟨by rw [HE.out.1, HE.out.2] <;> rfl, HB.out⟩
            · clear hz1 q1 h95
              go_wp2_with (go_at_call 289; refine (HLW.out _).mono ?_; rintro e w' ⟨rfl, rfl⟩)
              all_goals go_ret2
              all_goals exact ⟨by rw [HE.out.1, HE.out.2] <;> rfl, HB.out⟩
          · by_cases g1 : 97 ≤ z
            · have g2 : 102 < z := by omega
              clear hz1 q1 h95
              go_wp2_with (go_at_call 289; refine (HLW.out _).mono ?_; rintro e w' ⟨rfl, rfl⟩)
              all_goals go_ret2
              all_goals exact ⟨by rw [HE.out.1, HE.out.2] <;> rfl, HB.out⟩
            · clear hz1 q1 h95
              go_wp2_with (go_at_call 289; refine (HLW.out _).mono ?_; rintro e w' ⟨rfl, rfl⟩)
              all_goals go_ret2
              all_goals exact ⟨by rw [HE.out.1, HE.out.2] <;> rfl, HB.out⟩
    · have HE : Hid (v1 = n ∧ v2 = .nilIface) := Lib.hid (by
        obtain ⟨e, h1, h2⟩ := HH.out
        have hk2 : k = 2 := by omega
        subst hk2
        have hx : hexn a < 16 ∧ hexn b < 16 := ⟨h1 (by omega), h2 (by omega)⟩
        have h := HV.out
        rw [if_pos hx, if_pos hx] at h
        exact ⟨by rw [h.1, e]; rfl, h.2⟩)
      have hki : ¬ (k : Int) < 2 := by omega
      have HB := Lib.hid HBW.out
      clear HH
      go_wp2
      go_ret2
      exact ⟨by rw [HE.out.1, HE.out.2] <;> rfl, HB.out⟩

/-- .. the package's own: the error is some value that is not nil. -/
def PuOut (x y : Nat) (w : World) (e : Ending) (w' : World) : Prop := (if x < 16 ∧ y < 16 then e = .returned (.tuple #[.int .u64 ((16 * x + y : Nat) : Int), .nilIface]) else ∃ t v, e = .returned (.tuple #[.int .u64 0, .iface t v])) ∧ Below w.heap.size w w'
set_option maxHeartbeats 4000000 in
theorem pu_call (a b : UInt8) (w : World) (he : Par.Errs w) : Calls Tryz.prog 214 #[.string ⟨#[a, b]⟩, .int .i64 16, .int .i64 8] w (PuOut (hexn a) (hexn b) w) := by
  have HI := Lib.hid (pu_in a b w)
  unfold PuEnd at HI
  have HE := Lib.hid (fun W (hb : Below w.heap.size w W) => Par.errs_below he hb)
  unfold PuOut
  clear he
  by_cases hx : hexn a < 16 ∧ hexn b < 16
  · rw [if_pos hx, if_pos hx] at HI
    simp only [if_pos hx]
    clear hx HE
    generalize ((16 * hexn a + hexn b : Nat) : Int) = n at HI ⊢
    go_enter Tryz.func214, Tryz.ntmps214
    go_wp2_with (fail)
    go_at_call 253
    refine HI.out.mono ?_
    rintro e w1 ⟨rfl, hb1⟩
    have HB := Lib.hid hb1
    clear hb1
    go_wp2
    go_ret2
    exact ⟨rfl, HB.out⟩
  · rw [if_neg hx, if_neg hx] at HI
    simp only [if_neg hx]
    clear hx
    go_enter Tryz.func214, Tryz.ntmps214
    go_wp2_with (fail)
    go_at_call 253
    refine HI.out.mono ?_
    rintro e w1 ⟨rfl, hb1⟩
    have HB := Lib.hid hb1
    have HEW := Lib.hid (HE.out w1 hb1)
    obtain ⟨⟨tp, pv, hvar⟩, _⟩ := HEW.out
    have HTE := Lib.hid (Tryz.strconv_toError_syntax ⟨#[80, 97, 114, 115, 101, 85, 105, 110, 116]⟩ ⟨#[a, b]⟩ 16 8 (.iface tp pv) w1 (by show 2 ≤ _; decide) (by have h0 := World.var?_cell Tryz.laysC245.m15 hvar 0; simpa [Tryz.laysC245_ren] using h0) (Or.inr ⟨tp, pv, rfl⟩))
    clear hb1 hvar HEW
    go_wp2_with (fail)
    go_at_call 197
    refine HTE.out.mono ?_
    rintro e w2 ⟨N, rfl, _, _, hb2⟩
    have HB2 := Lib.hid (Base.then_below HB.out hb2)
    clear hb2
    go_wp2
    go_ret2
    exact ⟨⟨_, _, rfl⟩, HB2.out⟩
end Go.Proofs.YtojmkdggkaocdaaGreatDoor.Nt
