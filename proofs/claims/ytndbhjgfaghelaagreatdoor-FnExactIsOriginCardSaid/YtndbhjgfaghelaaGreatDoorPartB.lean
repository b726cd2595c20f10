/-
  CONTRACTS AND PLAIN FACTS, several texts in one; each says in its own words what it proves.
-/
import Derived.Test.YtndbhjgfaghelaaGreatDoorPartA
import Derived.ChangeSlices
import Derived.SliceStrings
import Derived.OwnWalk
import Derived.Laws.OwnMore
import Derived.Laws.AppendOwn
import Derived.Lib.SplitLaws
import Derived.Lib.IndexBytes
import Derived.Lib.SlicesS
import Derived.Test.YtndbhjgfaghelaaGreatDoorRows
import Derived.WalkKit
import Derived.ProofKit
import Derived.Lib.Hide
import Derived.OpenShut
set_option linter.unusedSimpArgs false
set_option linter.unusedVariables false

/-
  PLAIN FACTS on slices of texts: what a slice holds (as a list of texts), how that is kept, how a slice that the call itself has built is such a one, and how one more text is put behind it.
-/
namespace Go.Proofs.YtndbhjgfaghelaaGreatDoor.Strs
open Go Go.RowKit
set_option linter.unusedVariables false
set_option maxRecDepth 1000000

theorem info_str : (Tryz.prog.info? 9).map (fun i => (i.zero, i.size, i.bytes)) = some (some (.string ⟨#[]⟩), 1, 16) := by kernel_rfl

/-- A text as a value. -/
def sv (x : List UInt8) : Value := .string ⟨x.toArray⟩
def svs (xs : List (List UInt8)) : List Value := xs.map sv
theorem svs_len (xs : List (List UInt8)) : (svs xs).length = xs.length := by unfold svs; simp
theorem svs_at {xs : List (List UInt8)} {j : Nat} (h : j < xs.length) : (svs xs)[j]? = some (sv (xs.getD j [])) := by unfold svs; simp [List.getD, h]
theorem svs_more (xs : List (List UInt8)) (x : List UInt8) : svs (xs ++ [x]) = svs xs ++ [sv x] := by unfold svs; simp
theorem svs_one (xs : List (List UInt8)) : ∀ u ∈ svs xs, u.oneCell' = true := by
  intro u hu; obtain ⟨x, _, rfl⟩ := List.mem_map.1 hu; rfl
theorem sv_one (x : List UInt8) : ∀ u ∈ [sv x], u.oneCell' = true := by intro u hu; simp at hu; subst hu; rfl

/-- The cells from (b, off) on are these texts. -/
def At (w : World) (b off : Nat) (xs : List (List UInt8)) : Prop := ∀ j, j < xs.length → w.cell? ⟨b, off + j, none⟩ = some (sv (xs.getD j []))
/-- The slice v reads as the texts xs; its cells lie below block B. -/
def Holds (w : World) (B : Nat) (v : Value) (xs : List (List UInt8)) : Prop := (xs = [] ∧ ∃ a cap, v = .slice a 0 cap) ∨ (0 < xs.length ∧ ∃ b off cap, v = .slice (some ⟨b, off, none⟩) xs.length cap ∧ b < B ∧ xs.length ≤ cap ∧ At w b off xs)

theorem lt_of_cell {w : World} {b o : Nat} {u : Value} (h : w.cell? ⟨b, o, none⟩ = some u) : b < w.heap.size := by
  rcases Nat.lt_or_ge b w.heap.size with h' | h'
  · exact h'
  · simp [World.cell?, Array.getElem?_eq_none h'] at h
theorem at_lt {w : World} {b off : Nat} {xs : List (List UInt8)} (h : At w b off xs) (h0 : 0 < xs.length) : b < w.heap.size := lt_of_cell (h 0 h0)
theorem at_below {w w' : World} {B b off : Nat} {xs : List (List UInt8)} (h : At w b off xs) (hb : Below B w w') (hlt : b < B) : At w' b off xs := fun j hj => by
  rw [hb.cell (p := ⟨b, off + j, none⟩) hlt]; exact h j hj
theorem holds_lt {w : World} {B : Nat} {v : Value} {xs : List (List UInt8)} (h : Holds w B v xs) : Holds w w.heap.size v xs := by
  rcases h with h | ⟨h0, b, off, cap, rfl, hB, hc, h1⟩
  · exact Or.inl h
  · exact Or.inr ⟨h0, b, off, cap, rfl, at_lt h1 h0, hc, h1⟩
theorem holds_more {w : World} {B B' : Nat} {v : Value} {xs : List (List UInt8)} (h : Holds w B v xs) (hB : B ≤ B') : Holds w B' v xs := by
  rcases h with h | ⟨h0, b, off, cap, rfl, h2, hc, h1⟩
  · exact Or.inl h
  · exact Or.inr ⟨h0, b, off, cap, rfl, by omega, hc, h1⟩
theorem holds_below {w w' : World} {B : Nat} {v : Value} {xs : List (List UInt8)} (h : Holds w B v xs) (hb : Below B w w') : Holds w' B v xs := by
  rcases h with h | ⟨h0, b, off, cap, rfl, hB, hc, h1⟩
  · exact Or.inl h
  · exact Or.inr ⟨h0, b, off, cap, rfl, hB, hc, at_below h1 hb hB⟩
/-- Kept where only one block of others is written. -/
theorem holds_grown {w w' : World} {B : Nat} {v : Value} {xs : List (List UInt8)} {row : Option Nat} (h : Holds w B v xs) (hg : w.grownBy w' row) (hr : ∀ k, row = some k → B ≤ k) : Holds w' B v xs := by
  rcases h with h | ⟨h0, b, off, cap, rfl, hB, hc, h1⟩
  · exact Or.inl h
  · refine Or.inr ⟨h0, b, off, cap, rfl, hB, hc, fun j hj => ?_⟩
    exact hg.cell (h1 j hj) (fun e => by have := hr b e.symm; omega)
abbrev Own (w : World) (B : Nat) (v : Value) (xs : List (List UInt8)) : Prop := w.ownsRow B 9 1 v xs.length (svs xs)
theorem own_cell {w : World} {B g cap : Nat} {xs : List (List UInt8)} {n : Nat} (h : w.ownsRow B 9 1 (.slice (some ⟨g, 0, none⟩) n cap) n (svs xs)) {j : Nat} (hj : j < n) : w.cell? ⟨g, j, none⟩ = some (sv (xs.getD j [])) := by
  have hn : xs.length = n := by have := h.1; rw [svs_len] at this; omega
  rw [h.cellAt j (by omega)]
  exact svs_at (by omega)
/-- A slice that the call has built reads as what it owns. -/
theorem own_holds {w : World} {B : Nat} {v : Value} {xs : List (List UInt8)} (h : Own w B v xs) : Holds w w.heap.size v xs := by
  have h' := h
  obtain ⟨hl, hc⟩ := h
  rcases hc with ⟨rfl, h0⟩ | ⟨g, cap, cur, rfl, hb, hg, hn, hcap, hs, ht⟩
  · have : xs = [] := List.eq_nil_of_length_eq_zero h0
    subst this; exact Or.inl ⟨rfl, _, _, rfl⟩
  · by_cases h0 : xs = []
    · subst h0; exact Or.inl ⟨rfl, _, _, rfl⟩
    · refine Or.inr ⟨List.length_pos_iff.2 h0, g, 0, cap, rfl, ?_, hn, fun j hj => ?_⟩
      · have := h'.lt g rfl; exact this.2
      · rw [Nat.zero_add]; exact own_cell h' hj
theorem news_one (w : World) (x : Value) (T : TypeId) : ∀ j u, [x][j]? = some u → (w.alloc (.cells #[x] T)).cell? ((⟨w.heap.size, 0, none⟩ : Addr).add j) = some u := by
  intro j u hj
  match j, hj with
  | 0, hj =>
    simp at hj; subst hj
    show World.cell? _ ⟨w.heap.size, 0 + 0, none⟩ = _
    rw [World.cell?_alloc_new]; simp
/-- One more text behind a slice that the call has built. -/
theorem push_own {B : Nat} {a w w1 : World} {v v' : Value} {xs : List (List UInt8)} {x : List UInt8} {o : Obj} (hown : Own w B v xs) (hb : Below a.heap.size a w) (hB : a.heap.size ≤ B)
    (h' : w1.ownsRow B 9 1 v' (xs.length + 1) (svs xs ++ [sv x])) (hg : (w.alloc o).grownBy w1 v.ownBlock) :
    Own w1 B v' (xs ++ [x]) ∧ Below a.heap.size a w1 := by
  refine ⟨by show w1.ownsRow B 9 1 v' (xs ++ [x]).length (svs (xs ++ [x])); rw [List.length_append, svs_more]; exact h', (hb.alloc hb.size o).grown hg (by have := hb.size; simp; omega) (fun k e => Nat.le_trans hB (hown.lt k e).1)⟩
theorem own_lit_nil (w : World) : Own (w.alloc (.cells #[] 9)) w.heap.size (.slice (some ⟨w.heap.size, 0, none⟩) 0 0) [] := World.ownsRow_lit w #[] 0 (Nat.le_refl _) (by decide) rfl
end Go.Proofs.YtndbhjgfaghelaaGreatDoor.Strs

/-
  A TEXT DIVIDED AT A BYTE: plain facts, the library's list is this one, and the CONTRACT of the model's l12Split; nothing that was there before is changed.
-/
namespace Go.Proofs.YtndbhjgfaghelaaGreatDoor.Spc
open Go Go.RowKit
set_option linter.unusedVariables false
set_option maxRecDepth 1000000

def spl (c : UInt8) : List UInt8 → List (List UInt8)
  | [] => [[]]
  | x :: l => if x = c then [] :: spl c l else Tx.push [x] (spl c l)
theorem spl_hit {c x : UInt8} (l : List UInt8) (h : x = c) : spl c (x :: l) = [] :: spl c l := by rw [spl, if_pos h]
theorem spl_miss {c x : UInt8} (l : List UInt8) (h : x ≠ c) : spl c (x :: l) = Tx.push [x] (spl c l) := by rw [spl, if_neg h]
theorem push_ne {p : List UInt8} {L : List (List UInt8)} (h : L ≠ []) : Tx.push p L ≠ [] := by cases L <;> simp_all [Tx.push]
theorem push_len (p : List UInt8) (L : List (List UInt8)) : (Tx.push p L).length = L.length := by cases L <;> rfl
theorem spl_ne (c : UInt8) (l : List UInt8) : spl c l ≠ [] := by
  induction l with
  | nil => simp [spl]
  | cons x l ih => unfold spl; split; · simp
                   · exact push_ne ih
theorem spl_len (c : UInt8) (l : List UInt8) : (spl c l).length ≤ l.length + 1 := by
  induction l with
  | nil => simp [spl]
  | cons x l ih => unfold spl; split; · simp; omega
                   · rw [push_len]; simp; omega
theorem spl_mem (c : UInt8) : ∀ (l : List UInt8) (x : List UInt8), x ∈ spl c l → x.length ≤ l.length
  | [], x, h => by simp [spl] at h; subst h; simp
  | y :: l, x, h => by
    unfold spl at h
    split at h
    · rcases List.mem_cons.1 h with rfl | h
      · simp
      · have := spl_mem c l x h; simp; omega
    · cases hs : spl c l with
      | nil => exact absurd hs (spl_ne c l)
      | cons a r =>
        rw [hs] at h
        simp only [Tx.push] at h
        rcases List.mem_cons.1 h with rfl | h
        · have := spl_mem c l a (by rw [hs]; exact List.mem_cons_self ..); simp; omega
        · have := spl_mem c l x (by rw [hs]; exact List.mem_cons_of_mem _ h); simp; omega
theorem splitK_spl (c : UInt8) : ∀ l : List UInt8, Lib.splitK [c] 0 (l.count c) l = spl c l
  | [] => rfl
  | x :: l => by
    have ih := splitK_spl c l
    by_cases h : x = c
    · subst h
      have hi : Lib.index (x :: l) [x] = 0 := by rw [Lib.index_one]; simp [Lib.indexByte]
      rw [List.count_cons_self]
      unfold Lib.splitK spl
      rw [hi, if_pos rfl, if_neg (by decide)]
      simpa using ih
    · have hb : (x == c) = false := beq_eq_false_iff_ne.2 h
      rw [List.count_cons_of_ne h]
      unfold spl
      rw [if_neg h, ← ih]
      cases hn : l.count c with
      | zero => rfl
      | succ n =>
        by_cases hm : Lib.indexByte l c = -1
        · have hi : Lib.index (x :: l) [c] = -1 := by rw [Lib.index_one]; simp [Lib.indexByte, hb, hm]
          have hj : Lib.index l [c] = -1 := by rw [Lib.index_one]; exact hm
          unfold Lib.splitK
          rw [hi, hj]
          rfl
        · have hge := Lib.indexByte_ge l c
          obtain ⟨i, hi0⟩ : ∃ i : Nat, Lib.indexByte l c = i := ⟨(Lib.indexByte l c).toNat, by omega⟩
          have hmb : (Lib.indexByte l c == -1) = false := beq_eq_false_iff_ne.2 hm
          have hi : Lib.index (x :: l) [c] = (i : Int) + 1 := by rw [Lib.index_one]; simp [Lib.indexByte, hb, hmb, hi0]
          have hj : Lib.index l [c] = (i : Int) := by rw [Lib.index_one]; exact hi0
          have e1 : (((i : Int) + 1) == -1) = false := beq_eq_false_iff_ne.2 (by omega)
          have e2 : (((i : Int)) == -1) = false := beq_eq_false_iff_ne.2 (by omega)
          have t1 : ((i : Int) + 1).toNat = i + 1 := by omega
          unfold Lib.splitK
          rw [hi, hj, e1, e2, t1]
          simp [Tx.push]
/-- What the library's Split lays is this. -/
theorem split_spl (c : UInt8) (s : ByteArray) : (Lib.splitB ⟨#[c]⟩ 0 (Lib.countB s ⟨#[c]⟩) s).map (·.data.toList) = spl c s.data.toList := by
  rw [Lib.splitB_data]
  show Lib.splitK [c] 0 (Lib.count s.data.toList [c]) s.data.toList = _
  rw [Lib.count_one, splitK_spl]
theorem split_len (c : UInt8) (s : ByteArray) : (Lib.splitB ⟨#[c]⟩ 0 (Lib.countB s ⟨#[c]⟩) s).length = (spl c s.data.toList).length := by
  rw [← split_spl, List.length_map]
theorem split_has (c : UInt8) (s x : ByteArray) : Lib.containsS (Lib.splitB ⟨#[c]⟩ 0 (Lib.countB s ⟨#[c]⟩) s) x = (spl c s.data.toList).contains x.data.toList := by
  rw [Bool.eq_iff_iff, Lib.containsS_iff, ← split_spl]
  simp only [List.contains_iff_mem, List.mem_map]
  constructor
  · intro h; exact ⟨x, h, rfl⟩
  · rintro ⟨y, hy, he⟩
    have : y = x := by
      have e1 : y.data = x.data := by rw [← Array.toArray_toList (xs := y.data), he, Array.toArray_toList]
      cases y; cases x; simp_all
    rw [← this]; exact hy

def seg (l : List UInt8) (f k : Nat) : List UInt8 := (l.drop f).take (k - f)
theorem seg_same (l : List UInt8) (k : Nat) : seg l k k = [] := by unfold seg; simp
theorem seg_ext {s : ByteArray} {f k : Nat} : (s.extract f k).data.toList = seg s.data.toList f k := by unfold seg; simp
theorem seg_all {l : List UInt8} {f k : Nat} (h : l.length ≤ k) : seg l f k = l.drop f := by unfold seg; exact List.take_of_length_le (by rw [List.length_drop]; omega)
theorem seg_more {s : ByteArray} {f k : Nat} (h : f ≤ k) (hk : k < s.size) : seg s.data.toList f (k + 1) = seg s.data.toList f k ++ [s[k]] := by
  unfold seg
  rw [show k + 1 - f = (k - f) + 1 by omega, List.take_add_one, List.getElem?_drop, show f + (k - f) = k by omega]
  rw [List.getElem?_eq_getElem (by rw [Tx.list_len]; exact hk)]
  rfl
/-- The state of l12Split. -/
def SP (c : UInt8) (s : ByteArray) (k f : Nat) (xs : List (List UInt8)) : Prop := f ≤ k ∧ k ≤ s.size ∧ xs.length ≤ k ∧ xs ++ Tx.push (seg s.data.toList f k) (spl c (s.data.toList.drop k)) = spl c s.data.toList
theorem sp_start (c : UInt8) (s : ByteArray) : SP c s 0 0 [] := ⟨Nat.le_refl _, Nat.zero_le _, Nat.le_refl _, by rw [seg_same, Tx.push_nil, List.drop_zero]; rfl⟩
theorem sp_hit {c : UInt8} {s : ByteArray} {k f : Nat} {xs : List (List UInt8)} (h : SP c s k f xs) (hk : k < s.size) (h1 : s[k] = c) : SP c s (k + 1) (k + 1) (xs ++ [(s.extract f k).data.toList]) := by
  obtain ⟨a, b, b', e⟩ := h
  refine ⟨Nat.le_refl _, by omega, by rw [List.length_append]; simp; omega, ?_⟩
  rw [Tx.drop_cons s k hk] at e
  rw [spl_hit _ h1] at e
  rw [seg_same, Tx.push_nil, seg_ext, List.append_assoc]
  simp only [Tx.push, List.append_nil] at e
  rw [← e]
  rfl
theorem sp_miss {c : UInt8} {s : ByteArray} {k f : Nat} {xs : List (List UInt8)} (h : SP c s k f xs) (hk : k < s.size) (h1 : s[k] ≠ c) : SP c s (k + 1) f xs := by
  obtain ⟨a, b, b', e⟩ := h
  refine ⟨by omega, by omega, by omega, ?_⟩
  rw [Tx.drop_cons s k hk] at e
  rw [spl_miss _ h1, Tx.push_push] at e
  rw [seg_more a hk]
  exact e
theorem sp_end {c : UInt8} {s : ByteArray} {k f : Nat} {xs : List (List UInt8)} (h : SP c s k f xs) (hk : ¬ k < s.size) : xs ++ [(s.extract f s.size).data.toList] = spl c s.data.toList := by
  obtain ⟨a, b, b', e⟩ := h
  have hks : k = s.size := by omega
  subst hks
  rw [List.drop_eq_nil_of_le (by rw [Tx.list_len]; exact Nat.le_refl _)] at e
  rw [seg_ext]
  simpa [spl, Tx.push] using e
theorem sv_ext (x : ByteArray) : Strs.sv x.data.toList = .string x := by unfold Strs.sv; simp
theorem byte_is {x c : UInt8} (h : x = c) : ((x.toNat : Int) == (c.toNat : Int)) = true := by rw [h]; simp
theorem byte_not {x c : UInt8} (h : x ≠ c) : ((x.toNat : Int) == (c.toNat : Int)) = false := by
  rw [beq_eq_false_iff_ne]; intro e; exact h (UInt8.toNat_inj.1 (by omega))
/-- How l12Split ends. -/
def SplEnd (c : UInt8) (l : List UInt8) (w : World) (e : Ending) (w' : World) : Prop := ∃ v, e = .returned v ∧ Strs.Own w' w.heap.size v (spl c l) ∧ Below w.heap.size w w'

set_option maxHeartbeats 2000000 in
theorem spec_spl (c : UInt8) (s : ByteArray) (w : World) (hs : s.size ≤ 4194304) :
    Calls Tryz.prog 163 #[.string s, .int .u8 (c.toNat : Int)] w (SplEnd c s.data.toList w) := by
  obtain ⟨i0, hi, hz0, hz1, hz2⟩ := info_parts Strs.info_str
  have HO := Lib.hid (Strs.own_lit_nil w)
  go_enter Tryz.func163, Tryz.ntmps163
  go_wp2
  go_loopw [5, 6, 7] (fun v f i wr => ∃ (k fr : Nat) (xs : List (List UInt8)), i = .int .i64 (k : Int) ∧ f = .int .i64 (fr : Int) ∧ Strs.Own wr w.heap.size v xs ∧ SP c s k fr xs ∧ Below w.heap.size w wr) (fun _ _ i _ => s.size - (intOf i).toNat)
  case atStart => exact ⟨0, 0, [], rfl, rfl, HO.out, sp_start c s, (Below.refl _ _).alloc (Nat.le_refl _) _⟩
  case round =>
    clear HO
    obtain ⟨k, fr, xs, rfl, rfl, hown, hsp, hb⟩ := hrel
    have HS := Lib.hid hsp
    have hf1 : fr ≤ k := hsp.1
    have hf2 : k ≤ s.size := hsp.2.1
    have hfi : (fr : Int) ≤ (k : Int) := by omega
    have HX := Lib.hid hsp.2.2.1
    have hsl : (Strs.svs xs).length = xs.length := Strs.svs_len xs
    have hbs := hb.size
    have HB := Lib.hid hb
    clear hsp hb
    by_cases hlt : k < s.size
    · by_cases hc : s[k] = c
      · have hcc := byte_is hc
        have HE := Lib.hid (sp_hit HS.out hlt hc)
        clear hc
        go_wp2_with (at_builtin; refine wpList_append_own _ rfl (.tmp 20) (.tmp 25) 72 rfl w.heap.size 9 i0 (.string ⟨#[]⟩) 1 16 Tryz.underlying72 hi hz0 hz1 hz2 rfl (by decide) _ _ _ rfl (hown.alloc _) ⟨wr.heap.size, 0, none⟩ 1 1 [.string (s.extract fr k)] rfl rfl (Strs.news_one _ _ _) (by intro u hu; simp at hu; subst hu; rfl) (by have := HX.out; unfold maxLen; omega) (by have := HX.out; omega) (by simp; omega) ?_; intro v1 w1 hown1 hg1 _)
        have R := Lib.hid (Strs.push_own (x := (s.extract fr k).data.toList) hown HB.out (Nat.le_refl _) (by rw [sv_ext]; exact hown1) hg1)
        clear hown hown1 hg1
        go_wp2
        go_roundw
        case rel => exact ⟨k + 1, k + 1, _, by go_num, by go_num, R.out.1, HE.out, R.out.2⟩
        case measure => simp [intOf]; omega
      · have hcc := byte_not hc
        have HE := Lib.hid (sp_miss HS.out hlt hc)
        have HO := Lib.hid hown
        clear hc hown
        go_wp2
        go_roundw
        case rel => exact ⟨k + 1, fr, xs, by go_num, rfl, HO.out, HE.out, HB.out⟩
        case measure => simp [intOf]; omega
    · have HE := Lib.hid (sp_end HS.out hlt)
      have hks : (s.size : Int) ≤ (k : Int) := by omega
      have hfs : (fr : Int) ≤ (s.size : Int) := by omega
      go_wp2_with (at_builtin; refine wpList_append_own _ rfl (.tmp 29) (.tmp 33) 72 rfl w.heap.size 9 i0 (.string ⟨#[]⟩) 1 16 Tryz.underlying72 hi hz0 hz1 hz2 rfl (by decide) _ _ _ rfl (hown.alloc _) ⟨wr.heap.size, 0, none⟩ 1 1 [.string (s.extract fr s.size)] rfl rfl (Strs.news_one _ _ _) (by intro u hu; simp at hu; subst hu; rfl) (by have := HX.out; unfold maxLen; omega) (by have := HX.out; omega) (by simp; omega) ?_; intro v1 w1 hown1 hg1 _)
      have R := Lib.hid (Strs.push_own (x := (s.extract fr s.size).data.toList) hown HB.out (Nat.le_refl _) (by rw [sv_ext]; exact hown1) hg1)
      clear hown hown1 hg1
      go_wp2
      go_ret
      exact ⟨_, rfl, by rw [← HE.out]; exact R.out.1, R.out.2⟩
end Go.Proofs.YtndbhjgfaghelaaGreatDoor.Spc

/-
  PLAIN FACTS OF NUMBERS that the contracts of chapter 1 lean on: remainder and quotient rounded down, and Go's own. No word of the program stands here.
-/
namespace Go.Proofs.YtndbhjgfaghelaaGreatDoor.NumDiv
open Go Go.RowKit
set_option linter.unusedVariables false
set_option maxRecDepth 1000000

/-- Go's remainder, made not negative; 0 for a divisor out of range. -/
def md (n m : Int) : Int := if 1 ≤ m ∧ m ≤ 1000000000000 then n % m else 0
/-- the quotient rounded down; 0 for a divisor out of range. -/
def fd (n m : Int) : Int := if 1 ≤ m ∧ m ≤ 1000000000000 then n / m else 0

theorem md_out {n m : Int} (h : m < 1 ∨ 1000000000000 < m) : md n m = 0 := by unfold md; rw [if_neg (by omega)]
theorem fd_out {n m : Int} (h : m < 1 ∨ 1000000000000 < m) : fd n m = 0 := by unfold fd; rw [if_neg (by omega)]
theorem md_in {n m : Int} (h : 1 ≤ m) (h2 : m ≤ 1000000000000) : md n m = n % m := by unfold md; rw [if_pos ⟨h, h2⟩]
theorem fd_in {n m : Int} (h : 1 ≤ m) (h2 : m ≤ 1000000000000) : fd n m = n / m := by unfold fd; rw [if_pos ⟨h, h2⟩]

theorem tmod_bd (n m : Int) (h : 1 ≤ m) : -m < n.tmod m ∧ n.tmod m < m := by
  constructor
  · exact Int.lt_tmod_of_pos n (by omega)
  · exact Int.tmod_lt_of_pos n (by omega)
theorem tmod_split (n m : Int) (h : 1 ≤ m) : n.tmod m = n % m ∨ (0 < n % m ∧ n.tmod m = n % m - m) := by
  have e := Int.tmod_eq_emod (a := n) (b := m)
  have p := Int.emod_nonneg n (show m ≠ 0 by omega)
  by_cases c : 0 ≤ n ∨ m ∣ n
  · rw [if_pos c] at e; left; rw [e]; simp
  · rw [if_neg c] at e
    right
    have hz : n % m ≠ 0 := fun z => c (Or.inr (Int.dvd_of_emod_eq_zero z))
    exact ⟨by omega, by omega⟩
theorem tmod_neg_emod {n m : Int} (h : 1 ≤ m) (hr : n.tmod m < 0) : n.tmod m + m = n % m := by
  have p := Int.emod_nonneg n (show m ≠ 0 by omega)
  rcases tmod_split n m h with e | ⟨_, e⟩ <;> omega
theorem tmod_pos_emod {n m : Int} (h : 1 ≤ m) (hr : 0 ≤ n.tmod m) : n.tmod m = n % m := by
  have p := Int.emod_lt_of_pos n (show 0 < m by omega)
  rcases tmod_split n m h with e | ⟨_, e⟩ <;> omega
theorem tdiv_neg {n m : Int} (h : 1 ≤ m) (hr : n.tmod m < 0) : n.tdiv m - 1 = n / m := by
  have e := tmod_neg_emod h hr
  have a := Int.mul_tdiv_add_tmod n m
  have b := Int.mul_ediv_add_emod n m
  have : m * (n.tdiv m - 1) = m * (n / m) := by rw [Int.mul_sub]; omega
  exact Int.eq_of_mul_eq_mul_left (show m ≠ 0 by omega) this
theorem tdiv_pos {n m : Int} (h : 1 ≤ m) (hr : 0 ≤ n.tmod m) : n.tdiv m = n / m := by
  have e := tmod_pos_emod h hr
  have a := Int.mul_tdiv_add_tmod n m
  have b := Int.mul_ediv_add_emod n m
  have : m * (n.tdiv m) = m * (n / m) := by omega
  exact Int.eq_of_mul_eq_mul_left (show m ≠ 0 by omega) this

theorem q_bd' (n m : Int) (h : 1 ≤ m) (a : -9223372036854775808 ≤ n) (b : n ≤ 9223372036854775807) : -9223372036854775808 ≤ n / m ∧ n / m ≤ 9223372036854775807 := by
  constructor
  · refine Int.le_ediv_of_mul_le (by omega) ?_
    have : (-9223372036854775808 : Int) * m ≤ -9223372036854775808 * 1 := Int.mul_le_mul_of_nonpos_left (by omega) h
    omega
  · by_cases z : 0 ≤ n
    · have := Int.ediv_le_self m z; omega
    · have := Int.ediv_neg_of_neg_of_pos (show n < 0 by omega) (show 0 < m by omega); omega
theorem q_bd (n m : Int) (h : 1 ≤ m) (a : -9223372036854775808 ≤ n) (b : n ≤ 9223372036854775807) : -9223372036854775808 ≤ n.tdiv m ∧ n.tdiv m ≤ 9223372036854775807 := by
  have c := q_bd' n m h a b
  by_cases hr : n.tmod m < 0
  · have d := tdiv_neg h hr
    have e : n < 0 := by
      by_cases z : 0 ≤ n
      · have := Int.tmod_nonneg m z; omega
      · omega
    have := Int.ediv_neg_of_neg_of_pos e (show 0 < m by omega)
    omega
  · rw [tdiv_pos h (by omega)]; exact c
theorem ret_int {k : IntKind} {a b : Int} (h : a = b) : Ending.returned (.int k a) = .returned (.int k b) := by rw [h]
end Go.Proofs.YtndbhjgfaghelaaGreatDoor.NumDiv

/-
  CONTRACT of the model's small test l1In: whether a number lies between two others; the world stays as it was.
-/
namespace Go.Proofs.YtndbhjgfaghelaaGreatDoor.NumDiv
open Go Go.RowKit
set_option linter.unusedVariables false
set_option maxRecDepth 1000000

theorem in_yes (x lo hi : Int) (w : World) (h1 : lo ≤ x) (h2 : x ≤ hi) :
    Calls Tryz.prog 90 #[.int .i64 x, .int .i64 lo, .int .i64 hi] w fun e w' => e = .returned (.bool true) ∧ w = w' := by
  go_enter Tryz.func90, Tryz.ntmps90
  go_wp2
  go_ret
  exact ⟨rfl, rfl⟩
theorem in_no (x lo hi : Int) (w : World) (h : x < lo ∨ hi < x) :
    Calls Tryz.prog 90 #[.int .i64 x, .int .i64 lo, .int .i64 hi] w fun e w' => e = .returned (.bool false) ∧ w = w' := by
  by_cases h1 : lo ≤ x
  · have h2 : ¬ x ≤ hi := by omega
    clear h
    go_enter Tryz.func90, Tryz.ntmps90
    go_wp2
    go_ret
    exact ⟨rfl, rfl⟩
  · clear h
    go_enter Tryz.func90, Tryz.ntmps90
    go_wp2
    go_ret
    exact ⟨rfl, rfl⟩
end Go.Proofs.YtndbhjgfaghelaaGreatDoor.NumDiv

/-
  CONTRACT of the program's isUpper; the world stays as it was.
-/
namespace Go.Proofs.YtndbhjgfaghelaaGreatDoor.Tx
open Go Go.RowKit
set_option linter.unusedVariables false
set_option maxRecDepth 1000000

theorem ret_bool {a b : Bool} (h : a = b) : Ending.returned (.bool a) = .returned (.bool b) := by rw [h]
theorem up_yes (x : Int) (w : World) (h1 : 65 ≤ x) (h2 : x ≤ 90) : Calls Tryz.prog 157 #[.int .u8 x] w fun e w' => e = .returned (.bool true) ∧ w = w' := by
  go_enter Tryz.func157, Tryz.ntmps157
  go_wp2
  go_ret
  exact ⟨rfl, rfl⟩
theorem up_no (x : Int) (w : World) (h : x < 65 ∨ 90 < x) : Calls Tryz.prog 157 #[.int .u8 x] w fun e w' => e = .returned (.bool false) ∧ w = w' := by
  by_cases h1 : 65 ≤ x
  · have h2 : ¬ x ≤ 90 := by omega
    clear h
    go_enter Tryz.func157, Tryz.ntmps157
    go_wp2
    go_ret
    exact ⟨rfl, rfl⟩
  · clear h
    go_enter Tryz.func157, Tryz.ntmps157
    go_wp2
    go_ret
    exact ⟨rfl, rfl⟩

end Go.Proofs.YtndbhjgfaghelaaGreatDoor.Tx
