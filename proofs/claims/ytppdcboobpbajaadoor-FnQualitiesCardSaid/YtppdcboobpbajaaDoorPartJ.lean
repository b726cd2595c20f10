/-
  CONTRACTS AND PLAIN FACTS, several texts in one; each says in its own words what it proves.
-/
import Derived.Test.YtppdcboobpbajaaDoorPartA
import Derived.Laws.IdiomStrings
import Derived.Laws.BytesArg
import Derived.OwnWalk
import Derived.Laws.OwnMore
import Derived.Laws.AppendOwn
import Derived.Test.YtppdcboobpbajaaDoorPartB
import Derived.Test.YtppdcboobpbajaaDoorPartG
import Derived.LoopTactic
import Derived.Deep.QuietTactic
import Derived.BigQuiet
import Derived.Test.YtppdcboobpbajaaDoorPartI
import Derived.Outline
import Derived.RegionTactic
import Derived.Test.YtppdcboobpbajaaDoorPartH
import Derived.Test.YtppdcboobpbajaaDoorPartC
import Derived.Laws.DeepStrings4
set_option linter.unusedSimpArgs false
set_option linter.unusedVariables false

/-
  PLAIN FACTS on slices of bytes that a call makes out of a text, or builds byte by byte, and on reading them back as a text.
-/
namespace Go.Proofs.YtppdcboobpbajaaDoor.Bys
open Go Go.RowKit
set_option linter.unusedVariables false
set_option maxRecDepth 1000000

theorem info_byte : (Tryd.prog.info? 5).map (fun i => (i.zero, i.size, i.bytes)) = some (some (.int .u8 0), 1, 1) := by kernel_rfl
def bvl (c : UInt8) : Value := .int .u8 (c.toNat : Int)
def bvs (l : List UInt8) : List Value := l.map bvl
theorem bvs_len (l : List UInt8) : (bvs l).length = l.length := by unfold bvs; simp
theorem bvs_more (l : List UInt8) (c : UInt8) : bvs (l ++ [c]) = bvs l ++ [bvl c] := by unfold bvs; simp
theorem bvl_one (c : UInt8) : ∀ u ∈ [bvl c], u.oneCell' = true := by intro u hu; simp at hu; subst hu; rfl
theorem ret_str {a b : List UInt8} (h : a = b) : Ending.returned (.string ⟨a.toArray⟩) = .returned (.string ⟨b.toArray⟩) := by rw [h]

/-- Block g holds these bytes, from its head on; they can be written. -/
def BAt (w : World) (g : Nat) (l : List UInt8) : Prop := g < w.heap.size ∧ ∀ j, j < l.length → w.cell? ⟨g, j, none⟩ = some (bvl (l.getD j 0)) ∧ w.frozen? ⟨g, j, none⟩ = false
theorem of_string (s : ByteArray) (w : World) : ∃ cap w1, (convert 9 22 (.string s)).run Tryd.prog w = .ok (.slice (some ⟨w.heap.size, 0, none⟩) s.size cap) w1 ∧ BAt w1 w.heap.size s.data.toList ∧ Below w.heap.size w w1 := by
  refine ⟨_, _, run_bytes_of_string w 9 22 5 s Tryd.underlying9 Tryd.underlying22 Tryd.underlying5, ⟨by simp, fun j hj => ?_⟩, (Below.refl _ _).drew.alloc (Nat.le_refl _) _⟩
  have hj' : j < s.data.size := by simpa using hj
  have hc := World.cell?_alloc_mark w.drew (bytesRow s (grownCap w s.size 0 5)) 5 ((bytesRow s (grownCap w s.size 0 5)).size, (bytesRow s (grownCap w s.size 0 5)).size + 1) j
  have hf := World.frozen?_alloc_mark w.drew (bytesRow s (grownCap w s.size 0 5)) 5 (bytesRow s (grownCap w s.size 0 5)).size ((bytesRow s (grownCap w s.size 0 5)).size + 1) j
  have hsz : j < (bytesRow s (grownCap w s.size 0 5)).size := by unfold bytesRow; rw [Array.size_append, Array.size_map]; omega
  refine ⟨?_, ?_⟩
  · refine (hc : _).trans ?_
    rw [bytesRow_at s _ j hj']
    have : s.data.toList.getD j 0 = s.data[j] := by simp [List.getD, Array.getElem?_eq_getElem hj']
    rw [this]; rfl
  · refine (hf : _).trans ?_
    simp; omega
theorem back (w : World) (g cap : Nat) (l : List UInt8) (h : BAt w g l) : (convert 22 9 (.slice (some ⟨g, 0, none⟩) l.length cap)).run Tryd.prog w = .ok (.string ⟨l.toArray⟩) w := by
  refine run_convert_bytes_back (P := Tryd.prog) w 22 9 5 ⟨g, 0, none⟩ cap l Tryd.underlying22 Tryd.underlying5 Tryd.underlying9 (fun j hj => ?_)
  rw [WideShapes.add_plain, Nat.zero_add, (h.2 j hj).1]
  simp [List.getD, hj, bvl]
theorem bat_set {w : World} {g k : Nat} {l : List UInt8} (c : UInt8) (h : BAt w g l) (hk : k < l.length) : BAt (w.setCell ⟨g, k, none⟩ (bvl c)) g (l.set k c) := by
  refine ⟨by simpa [World.setCell] using h.1, fun j hj => ?_⟩
  rw [List.length_set] at hj
  rw [World.frozen?_setCell]
  refine ⟨?_, (h.2 j hj).2⟩
  by_cases e : j = k
  · subst e
    rw [World.cell?_setCell_same' _ _ _ (by rw [(h.2 j hj).1]; rfl)]
    simp [List.getD, hj]
  · rw [World.cell?_setCell_other _ _ _ _ (by intro h'; apply e; injection h' with _ h2; exact h2.symm)]
    rw [(h.2 j hj).1]
    simp [List.getD, hj, List.getElem?_set, show ¬ k = j from fun h' => e h'.symm]
theorem bat_below {w w' : World} {B g : Nat} {l : List UInt8} (h : BAt w g l) (hb : Below B w w') (hg : g < B) : BAt w' g l :=
  ⟨Nat.lt_of_lt_of_le h.1 hb.size, fun j hj => ⟨(hb.cell (p := ⟨g, j, none⟩) hg).trans (h.2 j hj).1, (hb.frozen (p := ⟨g, j, none⟩) hg).trans (h.2 j hj).2⟩⟩
theorem bat_drew {w : World} {g : Nat} {l : List UInt8} (h : BAt w g l) : BAt w.drew g l := h
theorem below_set {B : Nat} {a w : World} {g k : Nat} (u : Value) (h : Below B a w) (hg : B ≤ g) : Below B a (w.setCell ⟨g, k, none⟩ u) := h.setCell hg _

/-! bytes put one behind another -/
abbrev Own (w : World) (B : Nat) (v : Value) (l : List UInt8) : Prop := w.ownsRow B 5 1 v l.length (bvs l)
theorem news_one (w : World) (x : Value) (T : TypeId) : ∀ j u, [x][j]? = some u → (w.alloc (.cells #[x] T)).cell? ((⟨w.heap.size, 0, none⟩ : Addr).add j) = some u := by
  intro j u hj
  match j, hj with
  | 0, hj =>
    simp at hj; subst hj
    show World.cell? _ ⟨w.heap.size, 0 + 0, none⟩ = _
    rw [World.cell?_alloc_new]; simp
theorem push_own {B : Nat} {a w w1 : World} {v v' : Value} {l : List UInt8} {c : UInt8} {o : Obj} (hown : Own w B v l) (hb : Below a.heap.size a w) (hB : a.heap.size ≤ B)
    (h' : w1.ownsRow B 5 1 v' (l.length + 1) (bvs l ++ [bvl c])) (hg : (w.alloc o).grownBy w1 v.ownBlock) :
    Own w1 B v' (l ++ [c]) ∧ Below a.heap.size a w1 := by
  refine ⟨by show w1.ownsRow B 5 1 v' (l ++ [c]).length (bvs (l ++ [c])); rw [List.length_append, bvs_more]; exact h', (hb.alloc hb.size o).grown hg (by have := hb.size; simp; omega) (fun k e => Nat.le_trans hB (hown.lt k e).1)⟩
theorem own_lit_nil (w : World) : Own (w.alloc (.cells #[] 5)) w.heap.size (.slice (some ⟨w.heap.size, 0, none⟩) 0 0) [] := World.ownsRow_lit w #[] 0 (Nat.le_refl _) (by decide) rfl
theorem own_lit_one (w : World) (c : UInt8) : Own (w.alloc (.cells #[bvl c] 5)) w.heap.size (.slice (some ⟨w.heap.size, 0, none⟩) 1 1) [c] := World.ownsRow_lit w #[bvl c] 1 (Nat.le_refl _) (by decide) rfl
/-- A slice of bytes that the call has built, read as a text. -/
theorem own_str {w : World} {B : Nat} {v : Value} {l : List UInt8} (h : Own w B v l) : (convert 22 9 v).run Tryd.prog w = .ok (.string ⟨l.toArray⟩) w := by
  have h' := h
  rcases h.2 with ⟨rfl, h0⟩ | ⟨g, cap, cur, rfl, _⟩
  · have : l = [] := List.eq_nil_of_length_eq_zero (by omega)
    subst this
    exact run_convert_bytes_nil w 22 5 Tryd.underlying22 Tryd.underlying5 0 0 9 Tryd.underlying9
  · refine run_convert_bytes_back (P := Tryd.prog) w 22 9 5 ⟨g, 0, none⟩ cap l Tryd.underlying22 Tryd.underlying5 Tryd.underlying9 (fun j hj => ?_)
    rw [WideShapes.add_plain, Nat.zero_add, h'.cellAt j (by omega)]
    simp [bvs, hj, bvl]
end Go.Proofs.YtppdcboobpbajaaDoor.Bys

/-
  PLAIN FACTS on a quoted string that is being read.
-/
namespace Go.Proofs.YtppdcboobpbajaaDoor.Tx
open Go Go.RowKit Bys
set_option linter.unusedVariables false
set_option maxRecDepth 1000000

theorem unq_nil : unq [] = ([], none) := by rw [unq]
theorem unq_34 (r : List UInt8) : unq (34 :: r) = ([], some r) := by cases r <;> simp [unq]
theorem unq_esc (d : UInt8) (r : List UInt8) : unq (92 :: d :: r) = (d :: (unq r).1, (unq r).2) := by rw [unq, if_neg (by decide), if_pos (by decide)]
theorem unq_plain {c : UInt8} {r : List UInt8} (h1 : c ≠ 34) (h2 : c ≠ 92 ∨ r = []) : unq (c :: r) = (c :: (unq r).1, (unq r).2) := by
  have h34 : ¬ (c == 34) = true := by simpa using h1
  cases r with
  | nil => simp [unq, h1]
  | cons d t =>
    rcases h2 with h2 | h2
    · rw [unq, if_neg h34, if_neg (by simpa using h2)]
    · cases h2
/-- What is read when k bytes are behind: l so far. -/
def UQ (s : ByteArray) (k : Nat) (l : List UInt8) : Prop := l ++ (unq (s.data.toList.drop k)).1 = unqText s.data.toList ∧ (unq (s.data.toList.drop k)).2 = (unq (s.data.toList.drop 1)).2 ∧ l.length ≤ k
theorem uq_start (s : ByteArray) : UQ s 1 [] := ⟨by unfold unqText; simp, rfl, by simp⟩
theorem uq_plain {s : ByteArray} {k : Nat} {l : List UInt8} (h : UQ s k l) (hk : k < s.size) (h1 : s[k] ≠ 34) (h2 : s[k] ≠ 92 ∨ s.size ≤ k + 1) : UQ s (k + 1) (l ++ [s[k]]) := by
  obtain ⟨a, b, c⟩ := h
  have h2' : s[k] ≠ 92 ∨ s.data.toList.drop (k + 1) = [] := by
    rcases h2 with h2 | h2
    · exact Or.inl h2
    · exact Or.inr (List.drop_eq_nil_of_le (by rw [list_len]; exact h2))
  rw [drop_cons s k hk, unq_plain h1 h2'] at a b
  exact ⟨by rw [List.append_assoc]; exact a, b, by rw [List.length_append]; simp; omega⟩
theorem uq_esc {s : ByteArray} {k : Nat} {l : List UInt8} (h : UQ s k l) (hk : k < s.size) (hk1 : k + 1 < s.size) (h2 : s[k] = 92) : UQ s (k + 1 + 1) (l ++ [s[k + 1]]) := by
  obtain ⟨a, b, c⟩ := h
  rw [drop_cons s k hk, drop_cons s (k + 1) hk1, h2, unq_esc] at a b
  exact ⟨by rw [List.append_assoc]; exact a, b, by rw [List.length_append]; simp; omega⟩
theorem uq_end {s : ByteArray} {k : Nat} {l : List UInt8} (h : UQ s k l) (hk : s.size ≤ k) : l = unqText s.data.toList ∧ unqOk s.data.toList = false := by
  obtain ⟨a, b, c⟩ := h
  rw [List.drop_eq_nil_of_le (by rw [list_len]; exact hk), unq_nil] at a b
  refine ⟨by simpa using a, ?_⟩
  unfold unqOk
  rw [← b]; simp
theorem head_at {s : ByteArray} (h : 0 < s.size) : s.data.toList.head? = some s[0] := by
  have := drop_cons s 0 h
  rw [List.drop_zero] at this
  rw [this]; rfl
theorem uq_quote {s : ByteArray} {k : Nat} {l : List UInt8} (h : UQ s k l) (hk : k < s.size) (h1 : s[k] = 34) (h0 : 0 < s.size) : l = unqText s.data.toList ∧ unqOk s.data.toList = (s[0] == 34 && ((k : Int) == (s.size : Int) - 1)) := by
  obtain ⟨a, b, c⟩ := h
  rw [drop_cons s k hk, h1, unq_34] at a b
  refine ⟨by simpa using a, ?_⟩
  unfold unqOk
  rw [← b, head_at h0, Bool.eq_iff_iff, Bool.and_eq_true, Bool.and_eq_true]
  refine and_congr (by simp) ?_
  simp only [beq_iff_eq, Option.some.injEq, List.drop_eq_nil_iff, list_len]
  omega

/-- How UnquoteText ends. -/
def Unq (l : List UInt8) (w : World) (e : Ending) (w' : World) : Prop := e = .returned (.tuple #[.string ⟨(unqText l).toArray⟩, .bool (unqOk l)]) ∧ Below w.heap.size w w'
theorem unq_ret {l m : List UInt8} {b : Bool} {w : World} {e : Ending} {w' : World} (h : m = unqText l ∧ unqOk l = b) (hb : Below w.heap.size w w') (he : e = .returned (.tuple #[.string ⟨m.toArray⟩, .bool b])) : Unq l w e w' := by
  obtain ⟨rfl, rfl⟩ := h; exact ⟨he, hb⟩
theorem below_drewN {B : Nat} {a w : World} (h : Below B a w) (n : Nat) : Below B a (w.drewN n) := ⟨h.os, h.tape, h.output, h.size, h.block⟩

end Go.Proofs.YtppdcboobpbajaaDoor.Tx

/-
  CONTRACT of the program's UnquoteText: at every text it returns what a quoted string means and whether the text is just one; nothing that was there before is changed.
-/
namespace Go.Proofs.YtppdcboobpbajaaDoor.Tx
open Go Go.RowKit Bys
set_option linter.unusedVariables false
set_option maxRecDepth 1000000

end Go.Proofs.YtppdcboobpbajaaDoor.Tx

/-
  PLAIN FACTS on a text whose first bytes are in lower case.
-/
namespace Go.Proofs.YtppdcboobpbajaaDoor.Tx
open Go Go.RowKit Bys
set_option linter.unusedVariables false
set_option maxRecDepth 1000000

/-- The first k bytes are in lower case. -/
def lowk (l : List UInt8) (k : Nat) : List UInt8 := (l.take k).map lowc ++ l.drop k
theorem lowk_zero (l : List UInt8) : lowk l 0 = l := by unfold lowk; simp
theorem lowk_len (l : List UInt8) (k : Nat) : (lowk l k).length = l.length := by unfold lowk; simp; omega
theorem getD_at {l : List UInt8} {k : Nat} (h : k < l.length) : l.getD k 0 = l[k] := by simp [List.getD, h]
theorem lowk_at {l : List UInt8} {k : Nat} (h : k < l.length) : (lowk l k).getD k 0 = l.getD k 0 := by
  unfold lowk
  rw [List.getD, List.getElem?_append_right (by simp; omega)]
  simp [Nat.min_eq_left (Nat.le_of_lt h), h]
theorem lowk_more {l : List UInt8} {k : Nat} (h : k < l.length) : (lowk l k).set k (lowc (l.getD k 0)) = lowk l (k + 1) := by
  rw [getD_at h]
  unfold lowk
  rw [List.set_append_right _ _ (by simp; omega), List.take_succ_eq_append_getElem h, List.map_append, List.append_assoc, List.length_map, List.length_take, Nat.min_eq_left (Nat.le_of_lt h), Nat.sub_self, List.drop_eq_getElem_cons h, List.set_cons_zero]
  rfl
theorem lowk_same {l : List UInt8} {k : Nat} (h : k < l.length) (hc : upc (l.getD k 0) = false) : lowk l (k + 1) = lowk l k := by
  rw [getD_at h] at hc
  unfold lowk
  rw [List.take_succ_eq_append_getElem h, List.map_append, List.append_assoc, List.drop_eq_getElem_cons h]
  simp [lowc_no hc]
theorem lowk_all {l : List UInt8} {k : Nat} (h : k = l.length) : lowk l k = lower l := by unfold lowk lower; subst h; simp

end Go.Proofs.YtppdcboobpbajaaDoor.Tx

/-
  CONTRACT of the program's LowerText: at every text it returns it with the letters A to Z as a to z; nothing that was there before is changed.
-/
namespace Go.Proofs.YtppdcboobpbajaaDoor.Tx
open Go Go.RowKit Bys
set_option linter.unusedVariables false
set_option maxRecDepth 1000000

set_option maxHeartbeats 1000000 in
theorem impl_lower (s : ByteArray) (w : World) (hs : s.size ≤ 9223372036854775806) :
    Calls Tryd.prog 25 #[.string s] w fun e w' => e = .returned (.string ⟨(lower s.data.toList).toArray⟩) ∧ Below w.heap.size w w' := by
  obtain ⟨cap, w1, hcv, hat, hb⟩ := of_string s w
  have HT := Lib.hid (And.intro hat hb)
  clear hat hb
  go_enter Tryd.func25, Tryd.ntmps25
  go_wp2
  clear hcv
  go_loopw [4, 5, 10] (fun x y i wr => ∃ k : Nat, k ≤ s.size ∧ i = .int .i64 k ∧ BAt wr w.heap.size (lowk s.data.toList k) ∧ Below w.heap.size w wr) (fun _ _ i _ => s.size - (intOf i).toNat)
  case atStart => exact ⟨0, Nat.zero_le _, rfl, by rw [lowk_zero]; exact HT.out.1, HT.out.2⟩
  case round =>
    clear HT
    obtain ⟨k, hk, rfl, hat, hb⟩ := hrel
    have hL := list_len s
    by_cases hlt : k < s.size
    · have hlt' : k < s.data.toList.length := by omega
      have hcell := (hat.2 k (by rw [lowk_len]; exact hlt')).1
      have hfz := (hat.2 k (by rw [lowk_len]; exact hlt')).2
      rw [lowk_at hlt'] at hcell
      have HM := Lib.hid (lowk_more hlt')
      have HN := Lib.hid (lowk_same hlt')
      have HS := Lib.hid (bat_set (lowc (s.data.toList.getD k 0)) hat (by rw [lowk_len]; exact hlt'))
      have hub : ((s.data.toList.getD k 0).toNat : Int) ≤ 255 := by have := (s.data.toList.getD k 0).toNat_lt; omega
      have hub0 : 0 ≤ ((s.data.toList.getD k 0).toNat : Int) := by omega
      have HB := Lib.hid hb
      have HA := Lib.hid hat
      have HK := Lib.hid (show (k + 1 : Nat) ≤ s.size by omega)
      clear hlt' hL hb hat
      generalize s.data.toList.getD k 0 = c at *
      unfold bvl at hcell
      rcases hu : upc c with _ | _
      · have h1 : (c.toNat : Int) < 65 ∨ 90 < (c.toNat : Int) := by unfold upc at hu; simp at hu; omega
        have H1 := Lib.hid h1
        have HU := Lib.hid hu
        clear h1 hu
        go_wp2_with (go_at_call 26; (with_reducible refine (up_no _ _ H1.out).mono ?_); rintro e w' ⟨rfl, rfl⟩)
        go_roundw
        case rel => exact ⟨k + 1, HK.out, by go_num, by rw [HN.out HU.out]; exact HA.out, HB.out⟩
        case measure => simp [intOf]; omega
      · have h1 : 65 ≤ (c.toNat : Int) := by unfold upc at hu; simp at hu; omega
        have h2 : (c.toNat : Int) ≤ 90 := by unfold upc at hu; simp at hu; omega
        have hs : (c.toNat : Int) - 65 + 97 = ((lowc c).toNat : Int) := by rw [lowc_up hu]; omega
        clear hu
        go_wp2_with (go_at_call 26; (with_reducible refine (up_yes _ _ h1 h2).mono ?_); rintro e w' ⟨rfl, rfl⟩)
        go_roundw
        case rel => exact ⟨k + 1, HK.out, by go_num, by rw [← HM.out]; exact HS.out, below_set _ HB.out (Nat.le_refl _)⟩
        case measure => simp [intOf]; omega
    · have HE := Lib.hid (lowk_all (l := s.data.toList) (k := k) (by omega))
      have hbk := back wr w.heap.size cap (lowk s.data.toList k) hat
      rw [lowk_len, hL] at hbk
      have HB := Lib.hid hb
      clear hat hL hb
      go_wp2
      go_ret
      exact ⟨ret_str HE.out, HB.out⟩
end Go.Proofs.YtppdcboobpbajaaDoor.Tx

/-
  CONTRACTS of the program's parseDirective and directiveValue: an element that is a directive, or an error; nothing that was there before is changed.
-/
namespace Go.Proofs.YtppdcboobpbajaaDoor.Dir
open Go Go.RowKit
set_option linter.unusedVariables false
set_option maxRecDepth 1000000

def Got (t : List UInt8) (w : World) (e : Ending) (w' : World) : Prop := e = .returned (.tuple #[.string ⟨t.toArray⟩, .nilIface]) ∧ Below w.heap.size w w'
def Bad (w : World) (e : Ending) (w' : World) : Prop := (∃ tp p, e = .returned (.tuple #[.string ⟨#[]⟩, .iface tp p])) ∧ Below w.heap.size w w'

/-- The result's own cells are there behind what a call did. -/
theorem res_kept {w w1 : World} {T : TypeId} {x y z : Value} (hb : Below (w.alloc (.cells #[x, y, z] T)).heap.size (w.alloc (.cells #[x, y, z] T)) w1) :
    w1.cell? ⟨w.heap.size, 0, none⟩ = some x ∧ w1.cell? ⟨w.heap.size, 1, none⟩ = some y ∧ w1.cell? ⟨w.heap.size, 2, none⟩ = some z ∧ w1.frozen? ⟨w.heap.size, 0, none⟩ = false ∧ w1.frozen? ⟨w.heap.size, 1, none⟩ = false ∧ w1.frozen? ⟨w.heap.size, 2, none⟩ = false := by
  refine ⟨?_, ?_, ?_, ?_, ?_, ?_⟩
  · rw [hb.cell (p := ⟨w.heap.size, 0, none⟩) (by simp), World.cell?_alloc_new]; rfl
  · rw [hb.cell (p := ⟨w.heap.size, 1, none⟩) (by simp), World.cell?_alloc_new]; rfl
  · rw [hb.cell (p := ⟨w.heap.size, 2, none⟩) (by simp), World.cell?_alloc_new]; rfl
  · rw [hb.frozen (p := ⟨w.heap.size, 0, none⟩) (by simp)]; simp [go_sem]
  · rw [hb.frozen (p := ⟨w.heap.size, 1, none⟩) (by simp)]; simp [go_sem]
  · rw [hb.frozen (p := ⟨w.heap.size, 2, none⟩) (by simp)]; simp [go_sem]

def PdYes (d : T) (w : World) (e : Ending) (w' : World) : Prop := e = .returned (.tuple #[fv d, .nilIface]) ∧ Below w.heap.size w w'
def PdNo (w : World) (e : Ending) (w' : World) : Prop := (∃ tp p, e = .returned (.tuple #[fv ([], [], false), .iface tp p])) ∧ Below w.heap.size w w'
theorem pair_i {x a b : List UInt8} {q : Bool} (hp : Tx.pairs x = (a, b, q)) (hl : x.length ≤ 1048576) (W : World) : Calls Tryd.prog 31 #[.string ⟨x.toArray⟩] W fun e w' => e = .returned (.tuple #[.string ⟨a.toArray⟩, .string ⟨b.toArray⟩, .bool q]) ∧ Below W.heap.size W w' := by
  have h := Tx.impl_pair ⟨x.toArray⟩ W (by simp [ByteArray.size]; omega)
  unfold Tx.PairEnd at h
  rw [show (⟨x.toArray⟩ : ByteArray).data.toList = x from rfl, hp] at h
  exact h
theorem tok_i (a : List UInt8) (hl : a.length ≤ 1048576) (W : World) : Calls Tryd.prog 7 #[.string ⟨a.toArray⟩] W fun e w' => e = .returned (.bool (Tx.token a)) ∧ W = w' := Tx.impl_token ⟨a.toArray⟩ W (by simp [ByteArray.size]; omega)
theorem low_i (a : List UInt8) (hl : a.length ≤ 1048576) (W : World) : Calls Tryd.prog 25 #[.string ⟨a.toArray⟩] W fun e w' => e = .returned (.string ⟨(Tx.lower a).toArray⟩) ∧ Below W.heap.size W w' := Tx.impl_lower ⟨a.toArray⟩ W (by simp [ByteArray.size]; omega)

end Go.Proofs.YtppdcboobpbajaaDoor.Dir

/-
  CONTRACT of the laws' comparison of two slices of texts (eqStringS): where both hold the same texts it returns true; nothing that was there before is changed.
-/
namespace Go.Proofs.YtppdcboobpbajaaDoor.Strs
open Go Go.RowKit
set_option linter.unusedVariables false
set_option maxRecDepth 1000000

def Yes (w : World) (e : Ending) (w' : World) : Prop := e = .returned (.bool true) ∧ Below w.heap.size w w'
theorem below_drew {B : Nat} {a w : World} (h : Below B a w) : Below B a w.drew := ⟨h.os, h.tape, h.output, h.size, h.block⟩

end Go.Proofs.YtppdcboobpbajaaDoor.Strs

/-
  CONTRACTS of the weights of qualities: the model's l13Weight, the program's readWeight and readParameter; nothing that was there before is changed.
-/
namespace Go.Proofs.YtppdcboobpbajaaDoor.Qua
open Go Go.RowKit
set_option linter.unusedVariables false
set_option maxRecDepth 1000000
set_option maxRecDepth 1000000

def wint (s : List UInt8) : Int := match wgt s with | some n => (n : Int) | none => -1
theorem wint_some {s : List UInt8} {n : Nat} (h : wgt s = some n) : wint s = n := by unfold wint; rw [h]
theorem wint_none {s : List UInt8} (h : wgt s = none) : wint s = -1 := by unfold wint; rw [h]
def wpair (o : Option Nat) : Value := match o with | some n => .tuple #[.int .i64 (n : Int), .bool true] | none => .tuple #[.int .i64 0, .bool false]
theorem wpair_some {o : Option Nat} {n : Nat} (h : o = some n) : wpair o = .tuple #[.int .i64 (n : Int), .bool true] := by rw [h]; rfl
theorem wpair_none {o : Option Nat} (h : o = none) : wpair o = .tuple #[.int .i64 0, .bool false] := by rw [h]; rfl
theorem ret_i {a b : Int} (h : a = b) : Ending.returned (.int .i64 a) = .returned (.int .i64 b) := by rw [h]
theorem ret_v {a b : Value} (h : a = b) : Ending.returned a = .returned b := by rw [h]
theorem bsz (y : List UInt8) : (⟨y.toArray⟩ : ByteArray).size = y.length := by simp [ByteArray.size]
theorem list_of {s : ByteArray} (h : 2 ≤ s.size) : s.data.toList = s[0] :: s[1] :: s.data.toList.drop 2 := by
  have h0 := Tx.drop_cons s 0 (by omega)
  have h1 := Tx.drop_cons s 1 (by omega)
  rw [List.drop_zero] at h0
  rw [h0, h1]; rfl
theorem list_one {s : ByteArray} (h : s.size = 1) : s.data.toList = [s[0]'(by omega)] := by
  have h0 := Tx.drop_cons s 0 (by omega)
  rw [List.drop_zero] at h0
  rw [h0, List.drop_of_length_le (by rw [Tx.list_len]; omega)]
def mid (s : ByteArray) (k : Nat) : List UInt8 := (s.data.toList.drop 2).take (k - 2)
theorem mid_more {s : ByteArray} {k : Nat} (h2 : 2 ≤ k) (hk : k < s.size) : mid s (k + 1) = mid s k ++ [s[k]] := by
  unfold mid
  rw [show k + 1 - 2 = (k - 2) + 1 by omega, List.take_add_one, List.getElem?_drop, show 2 + (k - 2) = k by omega]
  rw [List.getElem?_eq_getElem (by rw [Tx.list_len]; exact hk)]
  rfl
theorem mid_len {s : ByteArray} {k : Nat} (h : k ≤ s.size) : (mid s k).length = k - 2 := by
  unfold mid; rw [List.length_take, List.length_drop, Tx.list_len]; omega
theorem mid_all {s : ByteArray} : mid s s.size = s.data.toList.drop 2 := by
  unfold mid; exact List.take_of_length_le (by rw [List.length_drop, Tx.list_len]; omega)
theorem mid_two (s : ByteArray) : mid s 2 = [] := by unfold mid; simp
/-- The unit at a place. -/
def unt (k : Nat) : Int := ((10 ^ (4 - k) : Nat) : Int) * (if k ≤ 4 then 1 else 0)
theorem unt_cases {k : Nat} (h : 2 ≤ k) (h5 : k < 5) : (10 ^ (2 - (k - 2)) = 100 ∧ unt k = 100 ∧ unt (k + 1) = 10) ∨ (10 ^ (2 - (k - 2)) = 10 ∧ unt k = 10 ∧ unt (k + 1) = 1) ∨ (10 ^ (2 - (k - 2)) = 1 ∧ unt k = 1 ∧ unt (k + 1) = 0) := by
  have : k = 2 ∨ k = 3 ∨ k = 4 := by omega
  rcases this with rfl | rfl | rfl
  · exact Or.inl ⟨rfl, by decide, by decide⟩
  · exact Or.inr (Or.inl ⟨rfl, by decide, by decide⟩)
  · exact Or.inr (Or.inr ⟨rfl, by decide, by decide⟩)
theorem wfold_small {c : UInt8} {d : List UInt8} (hc : c.toNat ≤ 49) (hd : d.length ≤ 3) (h : digs d = true) : wfold c d ≤ 1999 := by
  have h1 := val_small d 1 (c.toNat - 48) (dig_iff h) (by omega)
  unfold wfold
  have h9 := dig_iff h
  match d, hd, h9 with
  | [], _, _ => rw [Par.val_nil]; simp; omega
  | [x], _, h9 => have := h9 x (by simp); simp only [Par.val, Par.stp, List.foldl_cons, List.foldl_nil, List.length_cons, List.length_nil]; omega
  | [x, y], _, h9 => have := h9 x (by simp); have := h9 y (by simp); simp only [Par.val, Par.stp, List.foldl_cons, List.foldl_nil, List.length_cons, List.length_nil]; omega
  | [x, y, z], _, h9 => have := h9 x (by simp); have := h9 y (by simp); have := h9 z (by simp); simp only [Par.val, Par.stp, List.foldl_cons, List.foldl_nil, List.length_cons, List.length_nil]; omega
theorem digs_more {d : List UInt8} {x : UInt8} (h : digs d = true) (h1 : 48 ≤ (x.toNat : Int)) (h2 : (x.toNat : Int) ≤ 57) : digs (d ++ [x]) = true := by
  unfold digs at h ⊢; rw [List.all_append, h]; simp [Par.isDig]; omega
theorem digs_bad {s : ByteArray} {k : Nat} (h2 : 2 ≤ k) (hk : k < s.size) (h : (s[k].toNat : Int) < 48 ∨ 57 < (s[k].toNat : Int)) : digs (s.data.toList.drop 2) = false := by
  unfold digs
  rw [List.all_eq_false]
  refine ⟨s[k], ?_, by simp [Par.isDig]; omega⟩
  have : s[k] = (s.data.toList.drop 2)[k - 2]'(by rw [List.length_drop, Tx.list_len]; omega) := by
    rw [List.getElem_drop]; simp only [show 2 + (k - 2) = k by omega]; rfl
  rw [this]; exact List.getElem_mem _

end Go.Proofs.YtppdcboobpbajaaDoor.Qua
