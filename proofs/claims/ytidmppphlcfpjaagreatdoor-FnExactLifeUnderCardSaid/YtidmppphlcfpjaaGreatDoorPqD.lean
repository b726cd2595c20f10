/-
  CONTRACTS AND PLAIN FACTS, several texts in one; each says in its own words what it proves.
-/
import Derived.Test.YtidmppphlcfpjaaGreatDoorPqC
import Derived.Test.YtidmppphlcfpjaaGreatDoorPqA
import Derived.Laws.IdiomStrings
import Derived.Laws.BytesArg
import Derived.OwnWalk
import Derived.Laws.OwnMore
import Derived.Laws.AppendOwn
set_option linter.unusedSimpArgs false
set_option linter.unusedVariables false

/-
  PLAIN FACTS on the bytes of a text, one by one.
-/
namespace Go.Proofs.YtidmppphlcfpjaaGreatDoor.Tx
open Go
set_option linter.unusedVariables false
set_option maxRecDepth 1000000

theorem take_snoc (s : ByteArray) (k : Nat) (h : k < s.size) : s.data.toList.take (k + 1) = s.data.toList.take k ++ [s[k]] := by
  rw [List.take_succ_eq_append_getElem (by simpa using h)]; rfl
theorem drop_cons (s : ByteArray) (k : Nat) (h : k < s.size) : s.data.toList.drop k = s[k] :: s.data.toList.drop (k + 1) := by
  rw [List.drop_eq_getElem_cons (by simpa using h)]; rfl
theorem list_len (s : ByteArray) : s.data.toList.length = s.size := by rw [Array.length_toList]; rfl
theorem eq_nat {c : UInt8} {n : Nat} (hn : n < 256) : ((c.toNat : Int) == (n : Int)) = (c == UInt8.ofNat n) := by
  rw [Bool.eq_iff_iff, beq_iff_eq, beq_iff_eq]
  constructor
  · intro h; exact UInt8.toNat_inj.1 (by simp; omega)
  · intro h; rw [h]; simp; omega
theorem e34 (c : UInt8) : ((c.toNat : Int) == 34) = (c == 34) := eq_nat (n := 34) (by omega)
theorem e92 (c : UInt8) : ((c.toNat : Int) == 92) = (c == 92) := eq_nat (n := 92) (by omega)
theorem e44 (c : UInt8) : ((c.toNat : Int) == 44) = (c == 44) := eq_nat (n := 44) (by omega)

end Go.Proofs.YtidmppphlcfpjaaGreatDoor.Tx

/-
  PLAIN FACTS on slices of bytes that a call makes out of a text, or builds byte by byte, and on reading them back as a text.
-/
namespace Go.Proofs.YtidmppphlcfpjaaGreatDoor.Bys
open Go Go.RowKit
set_option linter.unusedVariables false
set_option maxRecDepth 1000000

theorem info_byte : (Tryz.prog.info? 5).map (fun i => (i.zero, i.size, i.bytes)) = some (some (.int .u8 0), 1, 1) := by kernel_rfl
def bvl (c : UInt8) : Value := .int .u8 (c.toNat : Int)
def bvs (l : List UInt8) : List Value := l.map bvl
theorem bvs_len (l : List UInt8) : (bvs l).length = l.length := by unfold bvs; simp
theorem bvs_more (l : List UInt8) (c : UInt8) : bvs (l ++ [c]) = bvs l ++ [bvl c] := by unfold bvs; simp
theorem bvl_one (c : UInt8) : ∀ u ∈ [bvl c], u.oneCell' = true := by intro u hu; simp at hu; subst hu; rfl
theorem ret_str {a b : List UInt8} (h : a = b) : Ending.returned (.string ⟨a.toArray⟩) = .returned (.string ⟨b.toArray⟩) := by rw [h]

/-- Block g holds these bytes, from its head on; they can be written. -/
def BAt (w : World) (g : Nat) (l : List UInt8) : Prop := g < w.heap.size ∧ ∀ j, j < l.length → w.cell? ⟨g, j, none⟩ = some (bvl (l.getD j 0)) ∧ w.frozen? ⟨g, j, none⟩ = false
theorem of_string (s : ByteArray) (w : World) : ∃ cap w1, (convert 9 98 (.string s)).run Tryz.prog w = .ok (.slice (some ⟨w.heap.size, 0, none⟩) s.size cap) w1 ∧ BAt w1 w.heap.size s.data.toList ∧ Below w.heap.size w w1 := by
  refine ⟨_, _, run_bytes_of_string w 9 98 5 s Tryz.underlying9 Tryz.underlying98 Tryz.underlying5, ⟨by simp, fun j hj => ?_⟩, (Below.refl _ _).drew.alloc (Nat.le_refl _) _⟩
  have hj' : j < s.data.size := by simpa using hj
  have hc := World.cell?_alloc_mark w.drew (bytesRow s (grownCap w s.size 0 5)) 5 ((bytesRow s (grownCap w s.size 0 5)).size, (bytesRow s (grownCap w s.size 0 5)).size + 1) j
  have hf := World.frozen?_alloc_mark w.drew (bytesRow s (grownCap w s.size 0 5)) 5 (bytesRow s (grownCap w s.size 0 5)).size ((bytesRow s (grownCap w s.size 0 5)).size + 1) j
  have hsz : j < (bytesRow s (grownCap w s.size 0 5)).size := by unfold bytesRow; rw [Array.size_append, Array.size_map]; omega
  refine ⟨?_, ?_⟩
  · refine (hc : _).trans ?_
    rw [bytesRow_at s _ j hj']
    have : s.data.toList.getD j 0 = s.data[j] := by simp [List.getD, Array.getElem?_eq_getElem hj']
    rw [this]; rfl
  · refine (hf : _).trans ?_
    simp; omega
theorem back (w : World) (g cap : Nat) (l : List UInt8) (h : BAt w g l) : (convert 98 9 (.slice (some ⟨g, 0, none⟩) l.length cap)).run Tryz.prog w = .ok (.string ⟨l.toArray⟩) w := by
  refine run_convert_bytes_back (P := Tryz.prog) w 98 9 5 ⟨g, 0, none⟩ cap l Tryz.underlying98 Tryz.underlying5 Tryz.underlying9 (fun j hj => ?_)
  rw [WideShapes.add_plain, Nat.zero_add, (h.2 j hj).1]
  simp [List.getD, hj, bvl]
theorem bat_set {w : World} {g k : Nat} {l : List UInt8} (c : UInt8) (h : BAt w g l) (hk : k < l.length) : BAt (w.setCell ⟨g, k, none⟩ (bvl c)) g (l.set k c) := by
  refine ⟨by simpa [World.setCell] using h.1, fun j hj => ?_⟩
  rw [List.length_set] at hj
  rw [World.frozen?_setCell]
  refine ⟨?_, (h.2 j hj).2⟩
  by_cases e : j = k
  · subst e
    rw [World.cell?_setCell_same' _ _ _ (by rw [(h.2 j hj).1]; rfl)]
    simp [List.getD, hj]
  · rw [World.cell?_setCell_other _ _ _ _ (by intro h'; apply e; injection h' with _ h2; exact h2.symm)]
    rw [(h.2 j hj).1]
    simp [List.getD, hj, List.getElem?_set, show ¬ k = j from fun h' => e h'.symm]
theorem bat_below {w w' : World} {B g : Nat} {l : List UInt8} (h : BAt w g l) (hb : Below B w w') (hg : g < B) : BAt w' g l :=
  ⟨Nat.lt_of_lt_of_le h.1 hb.size, fun j hj => ⟨(hb.cell (p := ⟨g, j, none⟩) hg).trans (h.2 j hj).1, (hb.frozen (p := ⟨g, j, none⟩) hg).trans (h.2 j hj).2⟩⟩
theorem bat_drew {w : World} {g : Nat} {l : List UInt8} (h : BAt w g l) : BAt w.drew g l := h
theorem below_set {B : Nat} {a w : World} {g k : Nat} (u : Value) (h : Below B a w) (hg : B ≤ g) : Below B a (w.setCell ⟨g, k, none⟩ u) := h.setCell hg _

/-! bytes put one behind another -/
abbrev Own (w : World) (B : Nat) (v : Value) (l : List UInt8) : Prop := w.ownsRow B 5 1 v l.length (bvs l)
theorem news_one (w : World) (x : Value) (T : TypeId) : ∀ j u, [x][j]? = some u → (w.alloc (.cells #[x] T)).cell? ((⟨w.heap.size, 0, none⟩ : Addr).add j) = some u := by
  intro j u hj
  match j, hj with
  | 0, hj =>
    simp at hj; subst hj
    show World.cell? _ ⟨w.heap.size, 0 + 0, none⟩ = _
    rw [World.cell?_alloc_new]; simp
theorem push_own {B : Nat} {a w w1 : World} {v v' : Value} {l : List UInt8} {c : UInt8} {o : Obj} (hown : Own w B v l) (hb : Below a.heap.size a w) (hB : a.heap.size ≤ B)
    (h' : w1.ownsRow B 5 1 v' (l.length + 1) (bvs l ++ [bvl c])) (hg : (w.alloc o).grownBy w1 v.ownBlock) :
    Own w1 B v' (l ++ [c]) ∧ Below a.heap.size a w1 := by
  refine ⟨by show w1.ownsRow B 5 1 v' (l ++ [c]).length (bvs (l ++ [c])); rw [List.length_append, bvs_more]; exact h', (hb.alloc hb.size o).grown hg (by have := hb.size; simp; omega) (fun k e => Nat.le_trans hB (hown.lt k e).1)⟩
theorem own_lit_nil (w : World) : Own (w.alloc (.cells #[] 5)) w.heap.size (.slice (some ⟨w.heap.size, 0, none⟩) 0 0) [] := World.ownsRow_lit w #[] 0 (Nat.le_refl _) (by decide) rfl
theorem own_lit_one (w : World) (c : UInt8) : Own (w.alloc (.cells #[bvl c] 5)) w.heap.size (.slice (some ⟨w.heap.size, 0, none⟩) 1 1) [c] := World.ownsRow_lit w #[bvl c] 1 (Nat.le_refl _) (by decide) rfl
/-- A slice of bytes that the call has built, read as a text. -/
theorem own_str {w : World} {B : Nat} {v : Value} {l : List UInt8} (h : Own w B v l) : (convert 98 9 v).run Tryz.prog w = .ok (.string ⟨l.toArray⟩) w := by
  have h' := h
  rcases h.2 with ⟨rfl, h0⟩ | ⟨g, cap, cur, rfl, _⟩
  · have : l = [] := List.eq_nil_of_length_eq_zero (by omega)
    subst this
    exact run_convert_bytes_nil w 98 5 Tryz.underlying98 Tryz.underlying5 0 0 9 Tryz.underlying9
  · refine run_convert_bytes_back (P := Tryz.prog) w 98 9 5 ⟨g, 0, none⟩ cap l Tryz.underlying98 Tryz.underlying5 Tryz.underlying9 (fun j hj => ?_)
    rw [WideShapes.add_plain, Nat.zero_add, h'.cellAt j (by omega)]
    simp [bvs, hj, bvl]
end Go.Proofs.YtidmppphlcfpjaaGreatDoor.Bys

/-
  PLAIN FACTS on targets: the percent signs of a text in their one way.
-/
namespace Go.Proofs.YtidmppphlcfpjaaGreatDoor.Nt
open Go Go.RowKit
set_option linter.unusedVariables false
set_option maxRecDepth 1000000

def hexn (c : UInt8) : Nat := if 48 ≤ c.toNat ∧ c.toNat ≤ 57 then c.toNat - 48 else if 97 ≤ c.toNat ∧ c.toNat ≤ 102 then c.toNat - 87 else if 65 ≤ c.toNat ∧ c.toNat ≤ 70 then c.toNat - 55 else 16
def hexi (c : UInt8) : Int := if hexn c < 16 then (hexn c : Int) else -1
theorem hexi_yes {c : UInt8} (h : hexn c < 16) : hexi c = (hexn c : Int) := if_pos h
theorem hexi_no {c : UInt8} (h : ¬ hexn c < 16) : hexi c = -1 := if_neg h
def plainb (b : UInt8) : Bool := Tx.letc b || (b == 45 || b == 46 || b == 95 || b == 126)
def dig (n : Nat) : UInt8 := UInt8.ofNat (if n < 10 then 48 + n else 55 + n)
def bt (x y : Nat) : UInt8 := UInt8.ofNat (16 * x + y)
theorem bt_nat {x y : Nat} (hx : x < 16) (hy : y < 16) : (bt x y).toNat = 16 * x + y := by
  unfold bt; rw [UInt8.toNat_ofNat']; omega
def code (x y : Nat) : List UInt8 := if plainb (bt x y) = true then [bt x y] else [37, dig x, dig y]
theorem code_yes {x y : Nat} (h : plainb (bt x y) = true) : code x y = [bt x y] := if_pos h
theorem code_no {x y : Nat} (h : plainb (bt x y) = false) : code x y = [37, dig x, dig y] := if_neg (by simp [h])
theorem code_len (x y : Nat) : (code x y).length ≤ 3 := by unfold code; split <;> simp

/-- The text with each percent sign in its one way; none if one is bad. -/
def norm : List UInt8 → Option (List UInt8)
  | [] => some []
  | c :: r =>
    if c = 37 then
      match r with
      | a :: b :: t => if hexn a < 16 ∧ hexn b < 16 then (norm t).map (code (hexn a) (hexn b) ++ ·) else none
      | _ => none
    else (norm r).map (c :: ·)
theorem norm_nil : norm [] = some [] := by rw [norm]
theorem norm_plain {c : UInt8} (r : List UInt8) (h : c ≠ 37) : norm (c :: r) = (norm r).map ([c] ++ ·) := by rw [norm.eq_def]; simp only [if_neg h]; rfl
theorem norm_code {a b : UInt8} (t : List UInt8) (h1 : hexn a < 16) (h2 : hexn b < 16) : norm (37 :: a :: b :: t) = (norm t).map (code (hexn a) (hexn b) ++ ·) := by
  rw [norm.eq_def]; simp only [if_true]; rw [if_pos ⟨h1, h2⟩]
theorem norm_short {r : List UInt8} (h : r.length < 2) : norm (37 :: r) = none := by
  rw [norm.eq_def]; simp only [if_true]
  match r, h with
  | [], _ => rfl
  | [_], _ => rfl
theorem norm_bad {a b : UInt8} (t : List UInt8) (h : ¬ (hexn a < 16 ∧ hexn b < 16)) : norm (37 :: a :: b :: t) = none := by
  rw [norm.eq_def]; simp only [if_true]; rw [if_neg h]
/-- .. as two results. -/
def normp (l : List UInt8) : List UInt8 × Bool := match norm l with | some t => (t, true) | none => ([], false)
theorem normp_some {l t : List UInt8} (h : norm l = some t) : normp l = (t, true) := by unfold normp; rw [h]
theorem normp_none {l : List UInt8} (h : norm l = none) : normp l = ([], false) := by unfold normp; rw [h]
theorem norm_len : ∀ (n : Nat) (l t : List UInt8), l.length ≤ n → norm l = some t → t.length ≤ l.length
  | 0, l, t, hn, h => by
    have : l = [] := List.eq_nil_of_length_eq_zero (by omega)
    subst this; rw [norm_nil] at h; cases h; simp
  | n + 1, [], t, hn, h => by rw [norm_nil] at h; cases h; simp
  | n + 1, c :: r, t, hn, h => by
    by_cases hc : c = 37
    · subst hc
      match r, hn, h with
      | [], hn, h => rw [norm_short (by simp)] at h; cases h
      | [_], hn, h => rw [norm_short (by simp)] at h; cases h
      | a :: b :: r', hn, h =>
        by_cases hx : hexn a < 16 ∧ hexn b < 16
        · rw [norm_code r' hx.1 hx.2] at h
          cases hr : norm r' with
          | none => rw [hr] at h; cases h
          | some q =>
            rw [hr] at h; cases h
            have := norm_len n r' q (by simp at hn; omega) hr
            have := code_len (hexn a) (hexn b)
            simp only [List.length_append, List.length_cons]; omega
        · rw [norm_bad r' hx] at h; cases h
    · rw [norm_plain r hc] at h
      cases hr : norm r with
      | none => rw [hr] at h; cases h
      | some q =>
        rw [hr] at h; cases h
        have := norm_len n r q (by simp at hn; omega) hr
        simp; omega
theorem normp_len (l : List UInt8) : (normp l).1.length ≤ l.length := by
  cases h : norm l with
  | none => rw [normp_none h]; simp
  | some t => rw [normp_some h]; exact norm_len _ l t (Nat.le_refl _) h

/-- What a walk over the bytes of s holds at place k: out is what the bytes before mean. -/
def NR (s : ByteArray) (k : Nat) (out : List UInt8) : Prop := norm s.data.toList = (norm (s.data.toList.drop k)).map (out ++ ·) ∧ out.length ≤ k
theorem nr_start (s : ByteArray) : NR s 0 [] := ⟨by rw [List.drop_zero]; cases norm s.data.toList <;> rfl, Nat.le_refl _⟩
theorem map_map (o : Option (List UInt8)) (a b : List UInt8) : (o.map (b ++ ·)).map (a ++ ·) = o.map ((a ++ b) ++ ·) := by cases o <;> simp
theorem nr_plain {s : ByteArray} {k : Nat} {out : List UInt8} (h : NR s k out) (hk : k < s.size) (hc : s[k] ≠ 37) : NR s (k + 1) (out ++ [s[k]]) := by
  refine ⟨?_, by have := h.2; simp; omega⟩
  rw [h.1, Tx.drop_cons s k hk, norm_plain _ hc, map_map]
theorem nr_code {s : ByteArray} {k : Nat} {out : List UInt8} (h : NR s k out) (hk : k + 2 < s.size) (hc : s[k] = 37) (h1 : hexn s[k + 1] < 16) (h2 : hexn s[k + 2] < 16) : NR s (k + 3) (out ++ code (hexn s[k + 1]) (hexn s[k + 2])) := by
  refine ⟨?_, by have := h.2; have := code_len (hexn s[k + 1]) (hexn s[k + 2]); simp; omega⟩
  rw [h.1, Tx.drop_cons s k (by omega), Tx.drop_cons s (k + 1) (by omega), Tx.drop_cons s (k + 2) hk, hc, norm_code _ h1 h2, map_map]
theorem nr_short {s : ByteArray} {k : Nat} {out : List UInt8} (h : NR s k out) (hk : k < s.size) (hc : s[k] = 37) (h2 : s.size ≤ k + 2) : norm s.data.toList = none := by
  rw [h.1, Tx.drop_cons s k hk, hc, norm_short (by rw [List.length_drop, Tx.list_len]; omega)]; rfl
theorem nr_bad {s : ByteArray} {k : Nat} {out : List UInt8} (h : NR s k out) (hk : k + 2 < s.size) (hc : s[k] = 37) (hx : ¬ (hexn s[k + 1] < 16 ∧ hexn s[k + 2] < 16)) : norm s.data.toList = none := by
  rw [h.1, Tx.drop_cons s k (by omega), Tx.drop_cons s (k + 1) (by omega), Tx.drop_cons s (k + 2) hk, hc, norm_bad _ hx]; rfl
theorem nr_end {s : ByteArray} {k : Nat} {out : List UInt8} (h : NR s k out) (hk : ¬ k < s.size) : norm s.data.toList = some out := by
  rw [h.1, List.drop_of_length_le (by rw [Tx.list_len]; omega), norm_nil]; simp

/-! the sixteen digits -/
def hexs : ByteArray := ⟨#[48, 49, 50, 51, 52, 53, 54, 55, 56, 57, 65, 66, 67, 68, 69, 70]⟩
theorem hex_fin : ∀ r : Fin 16, (⟨#[48, 49, 50, 51, 52, 53, 54, 55, 56, 57, 65, 66, 67, 68, 69, 70]⟩ : ByteArray)[r.1]'(r.2) = dig r.1 := by decide
theorem hex_at (u : Nat) (h : u < (⟨#[48, 49, 50, 51, 52, 53, 54, 55, 56, 57, 65, 66, 67, 68, 69, 70]⟩ : ByteArray).size) :
    (⟨#[48, 49, 50, 51, 52, 53, 54, 55, 56, 57, 65, 66, 67, 68, 69, 70]⟩ : ByteArray)[u]'h = dig u := hex_fin ⟨u, h⟩
def PairEnd (p : List UInt8 × Bool) (w : World) (e : Ending) (w' : World) : Prop := e = .returned (.tuple #[.string ⟨p.1.toArray⟩, .bool p.2]) ∧ Below w.heap.size w w'
theorem ret_p {p q : List UInt8 × Bool} (h : p = q) : Ending.returned (.tuple #[.string ⟨p.1.toArray⟩, .bool p.2]) = .returned (.tuple #[.string ⟨q.1.toArray⟩, .bool q.2]) := by rw [h]
end Go.Proofs.YtidmppphlcfpjaaGreatDoor.Nt
