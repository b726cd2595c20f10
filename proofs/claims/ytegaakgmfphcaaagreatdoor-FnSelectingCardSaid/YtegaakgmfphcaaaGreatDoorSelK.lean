/-
  CONTRACTS AND PLAIN FACTS, several texts in one; each says in its own words what it proves.
-/
import Derived.Test.YtegaakgmfphcaaaGreatDoorSelB
import Derived.Test.YtegaakgmfphcaaaGreatDoorSelG
import Derived.Test.YtegaakgmfphcaaaGreatDoorSelA
import Derived.Lib.SplitLaws
import Derived.Lib.IndexBytes
import Derived.Lib.SlicesS
import Derived.Test.YtegaakgmfphcaaaGreatDoorSelD
import Derived.Test.YtegaakgmfphcaaaGreatDoorSelJ
import Derived.Lib.AtoiAllCases
import Derived.LoopTactic
import Derived.Laws.IdiomStrings
import Derived.Laws.Concat
import Derived.Test.YtegaakgmfphcaaaGreatDoorSelI
import Derived.Outline
import Derived.Test.YtegaakgmfphcaaaGreatDoorSelF
import Derived.Lib.SmallJoins
import Derived.Stop.LaidErr
import Derived.LaidMore
set_option linter.unusedSimpArgs false
set_option linter.unusedVariables false

/-
  A TEXT DIVIDED AT A BYTE: plain facts, the library's list is this one, and the CONTRACT of the model's l12Split; nothing that was there before is changed.
-/
namespace Go.Proofs.YtegaakgmfphcaaaGreatDoor.Spc
open Go Go.RowKit
set_option linter.unusedVariables false
set_option maxRecDepth 1000000

def spl (c : UInt8) : List UInt8 → List (List UInt8)
  | [] => [[]]
  | x :: l => if x = c then [] :: spl c l else Tx.push [x] (spl c l)
theorem spl_hit {c x : UInt8} (l : List UInt8) (h : x = c) : spl c (x :: l) = [] :: spl c l := by rw [spl, if_pos h]
theorem spl_miss {c x : UInt8} (l : List UInt8) (h : x ≠ c) : spl c (x :: l) = Tx.push [x] (spl c l) := by rw [spl, if_neg h]
theorem push_ne {p : List UInt8} {L : List (List UInt8)} (h : L ≠ []) : Tx.push p L ≠ [] := by cases L <;> simp_all [Tx.push]
theorem push_len (p : List UInt8) (L : List (List UInt8)) : (Tx.push p L).length = L.length := by cases L <;> rfl
theorem spl_ne (c : UInt8) (l : List UInt8) : spl c l ≠ [] := by
  induction l with
  | nil => simp [spl]
  | cons x l ih => unfold spl; split; · simp
                   · exact push_ne ih
theorem spl_len (c : UInt8) (l : List UInt8) : (spl c l).length ≤ l.length + 1 := by
  induction l with
  | nil => simp [spl]
  | cons x l ih => unfold spl; split; · simp; omega
                   · rw [push_len]; simp; omega
theorem spl_mem (c : UInt8) : ∀ (l : List UInt8) (x : List UInt8), x ∈ spl c l → x.length ≤ l.length
  | [], x, h => by simp [spl] at h; subst h; simp
  | y :: l, x, h => by
    unfold spl at h
    split at h
    · rcases List.mem_cons.1 h with rfl | h
      · simp
      · have := spl_mem c l x h; simp; omega
    · cases hs : spl c l with
      | nil => exact absurd hs (spl_ne c l)
      | cons a r =>
        rw [hs] at h
        simp only [Tx.push] at h
        rcases List.mem_cons.1 h with rfl | h
        · have := spl_mem c l a (by rw [hs]; exact List.mem_cons_self ..); simp; omega
        · have := spl_mem c l x (by rw [hs]; exact List.mem_cons_of_mem _ h); simp; omega
theorem splitK_spl (c : UInt8) : ∀ l : List UInt8, Lib.splitK [c] 0 (l.count c) l = spl c l
  | [] => rfl
  | x :: l => by
    have ih := splitK_spl c l
    by_cases h : x = c
    · subst h
      have hi : Lib.index (x :: l) [x] = 0 := by rw [Lib.index_one]; simp [Lib.indexByte]
      rw [List.count_cons_self]
      unfold Lib.splitK spl
      rw [hi, if_pos rfl, if_neg (by decide)]
      simpa using ih
    · have hb : (x == c) = false := beq_eq_false_iff_ne.2 h
      rw [List.count_cons_of_ne h]
      unfold spl
      rw [if_neg h, ← ih]
      cases hn : l.count c with
      | zero => rfl
      | succ n =>
        by_cases hm : Lib.indexByte l c = -1
        · have hi : Lib.index (x :: l) [c] = -1 := by rw [Lib.index_one]; simp [Lib.indexByte, hb, hm]
          have hj : Lib.index l [c] = -1 := by rw [Lib.index_one]; exact hm
          unfold Lib.splitK
          rw [hi, hj]
          rfl
        · have hge := Lib.indexByte_ge l c
          obtain ⟨i, hi0⟩ : ∃ i : Nat, Lib.indexByte l c = i := ⟨(Lib.indexByte l c).toNat, by omega⟩
          have hmb : (Lib.indexByte l c == -1) = false := beq_eq_false_iff_ne.2 hm
          have hi : Lib.index (x :: l) [c] = (i : Int) + 1 := by rw [Lib.index_one]; simp [Lib.indexByte, hb, hmb, hi0]
          have hj : Lib.index l [c] = (i : Int) := by rw [Lib.index_one]; exact hi0
          have e1 : (((i : Int) + 1) == -1) = false := beq_eq_false_iff_ne.2 (by omega)
          have e2 : (((i : Int)) == -1) = false := beq_eq_false_iff_ne.2 (by omega)
          have t1 : ((i : Int) + 1).toNat = i + 1 := by omega
          unfold Lib.splitK
          rw [hi, hj, e1, e2, t1]
          simp [Tx.push]
/-- What the library's Split lays is this. -/
theorem split_spl (c : UInt8) (s : ByteArray) : (Lib.splitB ⟨#[c]⟩ 0 (Lib.countB s ⟨#[c]⟩) s).map (·.data.toList) = spl c s.data.toList := by
  rw [Lib.splitB_data]
  show Lib.splitK [c] 0 (Lib.count s.data.toList [c]) s.data.toList = _
  rw [Lib.count_one, splitK_spl]
theorem split_len (c : UInt8) (s : ByteArray) : (Lib.splitB ⟨#[c]⟩ 0 (Lib.countB s ⟨#[c]⟩) s).length = (spl c s.data.toList).length := by
  rw [← split_spl, List.length_map]
theorem split_has (c : UInt8) (s x : ByteArray) : Lib.containsS (Lib.splitB ⟨#[c]⟩ 0 (Lib.countB s ⟨#[c]⟩) s) x = (spl c s.data.toList).contains x.data.toList := by
  rw [Bool.eq_iff_iff, Lib.containsS_iff, ← split_spl]
  simp only [List.contains_iff_mem, List.mem_map]
  constructor
  · intro h; exact ⟨x, h, rfl⟩
  · rintro ⟨y, hy, he⟩
    have : y = x := by
      have e1 : y.data = x.data := by rw [← Array.toArray_toList (xs := y.data), he, Array.toArray_toList]
      cases y; cases x; simp_all
    rw [← this]; exact hy

def seg (l : List UInt8) (f k : Nat) : List UInt8 := (l.drop f).take (k - f)
theorem seg_same (l : List UInt8) (k : Nat) : seg l k k = [] := by unfold seg; simp
theorem seg_ext {s : ByteArray} {f k : Nat} : (s.extract f k).data.toList = seg s.data.toList f k := by unfold seg; simp
theorem seg_all {l : List UInt8} {f k : Nat} (h : l.length ≤ k) : seg l f k = l.drop f := by unfold seg; exact List.take_of_length_le (by rw [List.length_drop]; omega)
theorem seg_more {s : ByteArray} {f k : Nat} (h : f ≤ k) (hk : k < s.size) : seg s.data.toList f (k + 1) = seg s.data.toList f k ++ [s[k]] := by
  unfold seg
  rw [show k + 1 - f = (k - f) + 1 by omega, List.take_add_one, List.getElem?_drop, show f + (k - f) = k by omega]
  rw [List.getElem?_eq_getElem (by rw [Tx.list_len]; exact hk)]
  rfl
/-- The state of l12Split. -/
def SP (c : UInt8) (s : ByteArray) (k f : Nat) (xs : List (List UInt8)) : Prop := f ≤ k ∧ k ≤ s.size ∧ xs.length ≤ k ∧ xs ++ Tx.push (seg s.data.toList f k) (spl c (s.data.toList.drop k)) = spl c s.data.toList
theorem sp_start (c : UInt8) (s : ByteArray) : SP c s 0 0 [] := ⟨Nat.le_refl _, Nat.zero_le _, Nat.le_refl _, by rw [seg_same, Tx.push_nil, List.drop_zero]; rfl⟩
theorem sp_hit {c : UInt8} {s : ByteArray} {k f : Nat} {xs : List (List UInt8)} (h : SP c s k f xs) (hk : k < s.size) (h1 : s[k] = c) : SP c s (k + 1) (k + 1) (xs ++ [(s.extract f k).data.toList]) := by
  obtain ⟨a, b, b', e⟩ := h
  refine ⟨Nat.le_refl _, by omega, by rw [List.length_append]; simp; omega, ?_⟩
  rw [Tx.drop_cons s k hk] at e
  rw [spl_hit _ h1] at e
  rw [seg_same, Tx.push_nil, seg_ext, List.append_assoc]
  simp only [Tx.push, List.append_nil] at e
  rw [← e]
  rfl
theorem sp_miss {c : UInt8} {s : ByteArray} {k f : Nat} {xs : List (List UInt8)} (h : SP c s k f xs) (hk : k < s.size) (h1 : s[k] ≠ c) : SP c s (k + 1) f xs := by
  obtain ⟨a, b, b', e⟩ := h
  refine ⟨by omega, by omega, by omega, ?_⟩
  rw [Tx.drop_cons s k hk] at e
  rw [spl_miss _ h1, Tx.push_push] at e
  rw [seg_more a hk]
  exact e
theorem sp_end {c : UInt8} {s : ByteArray} {k f : Nat} {xs : List (List UInt8)} (h : SP c s k f xs) (hk : ¬ k < s.size) : xs ++ [(s.extract f s.size).data.toList] = spl c s.data.toList := by
  obtain ⟨a, b, b', e⟩ := h
  have hks : k = s.size := by omega
  subst hks
  rw [List.drop_eq_nil_of_le (by rw [Tx.list_len]; exact Nat.le_refl _)] at e
  rw [seg_ext]
  simpa [spl, Tx.push] using e
theorem sv_ext (x : ByteArray) : Strs.sv x.data.toList = .string x := by unfold Strs.sv; simp
theorem byte_is {x c : UInt8} (h : x = c) : ((x.toNat : Int) == (c.toNat : Int)) = true := by rw [h]; simp
theorem byte_not {x c : UInt8} (h : x ≠ c) : ((x.toNat : Int) == (c.toNat : Int)) = false := by
  rw [beq_eq_false_iff_ne]; intro e; exact h (UInt8.toNat_inj.1 (by omega))
/-- How l12Split ends. -/
def SplEnd (c : UInt8) (l : List UInt8) (w : World) (e : Ending) (w' : World) : Prop := ∃ v, e = .returned v ∧ Strs.Own w' w.heap.size v (spl c l) ∧ Below w.heap.size w w'

set_option maxHeartbeats 2000000 in
theorem spec_spl (c : UInt8) (s : ByteArray) (w : World) (hs : s.size ≤ 4194304) :
    Calls Tryz.prog 65 #[.string s, .int .u8 (c.toNat : Int)] w (SplEnd c s.data.toList w) := by
  obtain ⟨i0, hi, hz0, hz1, hz2⟩ := info_parts Strs.info_str
  have HO := Lib.hid (Strs.own_lit_nil w)
  go_enter Tryz.func65, Tryz.ntmps65
  go_wp2
  go_loopw [5, 6, 7] (fun v f i wr => ∃ (k fr : Nat) (xs : List (List UInt8)), i = .int .i64 (k : Int) ∧ f = .int .i64 (fr : Int) ∧ Strs.Own wr w.heap.size v xs ∧ SP c s k fr xs ∧ Below w.heap.size w wr) (fun _ _ i _ => s.size - (intOf i).toNat)
  case atStart => exact ⟨0, 0, [], rfl, rfl, HO.out, sp_start c s, (Below.refl _ _).alloc (Nat.le_refl _) _⟩
  case round =>
    clear HO
    obtain ⟨k, fr, xs, rfl, rfl, hown, hsp, hb⟩ := hrel
    have HS := Lib.hid hsp
    have hf1 : fr ≤ k := hsp.1
    have hf2 : k ≤ s.size := hsp.2.1
    have hfi : (fr : Int) ≤ (k : Int) := by omega
    have HX := Lib.hid hsp.2.2.1
    have hsl : (Strs.svs xs).length = xs.length := Strs.svs_len xs
    have hbs := hb.size
    have HB := Lib.hid hb
    clear hsp hb
    by_cases hlt : k < s.size
    · by_cases hc : s[k] = c
      · have hcc := byte_is hc
        have HE := Lib.hid (sp_hit HS.out hlt hc)
        clear hc
        go_wp2_with (at_builtin; refine wpList_append_own _ rfl (.tmp 20) (.tmp 25) 27 rfl w.heap.size 9 i0 (.string ⟨#[]⟩) 1 16 Tryz.underlying27 hi hz0 hz1 hz2 rfl (by decide) _ _ _ rfl (hown.alloc _) ⟨wr.heap.size, 0, none⟩ 1 1 [.string (s.extract fr k)] rfl rfl (Strs.news_one _ _ _) (by intro u hu; simp at hu; subst hu; rfl) (by have := HX.out; unfold maxLen; omega) (by have := HX.out; omega) (by simp; omega) ?_; intro v1 w1 hown1 hg1 _)
        have R := Lib.hid (Strs.push_own (x := (s.extract fr k).data.toList) hown HB.out (Nat.le_refl _) (by rw [sv_ext]; exact hown1) hg1)
        clear hown hown1 hg1
        go_wp2
        go_roundw
        case rel => exact ⟨k + 1, k + 1, _, by go_num, by go_num, R.out.1, HE.out, R.out.2⟩
        case measure => simp [intOf]; omega
      · have hcc := byte_not hc
        have HE := Lib.hid (sp_miss HS.out hlt hc)
        have HO := Lib.hid hown
        clear hc hown
        go_wp2
        go_roundw
        case rel => exact ⟨k + 1, fr, xs, by go_num, rfl, HO.out, HE.out, HB.out⟩
        case measure => simp [intOf]; omega
    · have HE := Lib.hid (sp_end HS.out hlt)
      have hks : (s.size : Int) ≤ (k : Int) := by omega
      have hfs : (fr : Int) ≤ (s.size : Int) := by omega
      go_wp2_with (at_builtin; refine wpList_append_own _ rfl (.tmp 29) (.tmp 33) 27 rfl w.heap.size 9 i0 (.string ⟨#[]⟩) 1 16 Tryz.underlying27 hi hz0 hz1 hz2 rfl (by decide) _ _ _ rfl (hown.alloc _) ⟨wr.heap.size, 0, none⟩ 1 1 [.string (s.extract fr s.size)] rfl rfl (Strs.news_one _ _ _) (by intro u hu; simp at hu; subst hu; rfl) (by have := HX.out; unfold maxLen; omega) (by have := HX.out; omega) (by simp; omega) ?_; intro v1 w1 hown1 hg1 _)
      have R := Lib.hid (Strs.push_own (x := (s.extract fr s.size).data.toList) hown HB.out (Nat.le_refl _) (by rw [sv_ext]; exact hown1) hg1)
      clear hown hown1 hg1
      go_wp2
      go_ret
      exact ⟨_, rfl, by rw [← HE.out]; exact R.out.1, R.out.2⟩
end Go.Proofs.YtegaakgmfphcaaaGreatDoor.Spc

/-
  PLAIN FACTS on slices of Quality (written by rec.py): what a slice holds, how that is kept, and how a slice that the call itself has built is such a one.
-/
namespace Go.Proofs.YtegaakgmfphcaaaGreatDoor.Qua
open Go Go.RowKit
set_option linter.unusedVariables false
set_option maxRecDepth 1000000

theorem info_r : (Tryz.prog.info? 78).map (fun i => (i.zero, i.size, i.bytes)) = some (some (.agg #[.string ⟨#[]⟩, .int .i64 0]), 2, 24) := by kernel_rfl

abbrev T : Type := List UInt8 × Int
def nov : T := ([], 0)
def cs (f : T) : List Value := [.string ⟨(f.1).toArray⟩, .int .i64 (f.2)]
def fv (f : T) : Value := .agg #[.string ⟨(f.1).toArray⟩, .int .i64 (f.2)]
theorem cs_len (f : T) : (cs f).length = 2 := rfl
theorem cs_one (f : T) : ∀ u ∈ cs f, u.oneCell' = true := by
  intro u hu; simp [cs] at hu; rcases hu with rfl | rfl <;> rfl
def fcs (l : List T) : List Value := Rec.flat cs l
theorem fcs_len (l : List T) : (fcs l).length = l.length * 2 := Rec.flat_len cs_len l
theorem fcs_more (l : List T) (f : T) : fcs (l ++ [f]) = fcs l ++ [.string ⟨(f.1).toArray⟩, .int .i64 (f.2)] := Rec.flat_more l f
theorem fcs_one (l : List T) : ∀ u ∈ fcs l, u.oneCell' = true := Rec.flat_one cs_one l
theorem fcs_put {l : List T} {k : Nat} (f : T) (h : k < l.length) : ((fcs l).set (k * 2) (.string ⟨(f.1).toArray⟩)).set (k * 2 + 1) (.int .i64 (f.2)) = fcs (l.set k f) := Rec.flat_put cs_len f h
def Ok (f : T) : Prop := f.1.length ≤ maxLen ∧ (-9223372036854775808 ≤ f.2 ∧ f.2 ≤ 9223372036854775807)
/-- The cells from (b, off) on are these. -/
def At (w : World) (b off : Nat) (l : List T) : Prop := Rec.At 2 cs nov w b off l
/-- The slice v reads as l; its cells lie below block B. -/
def Holds (w : World) (B : Nat) (v : Value) (l : List T) : Prop := Rec.Holds 2 cs nov w B v l
abbrev Own (w : World) (B : Nat) (v : Value) (l : List T) : Prop := w.ownsRow B 78 2 v l.length (fcs l)
theorem holds_iff {w : World} {B : Nat} {v : Value} {l : List T} (h : Holds w B v l) : (l = [] ∧ ∃ a cap, v = .slice a 0 cap) ∨ (0 < l.length ∧ ∃ b off cap, v = .slice (some ⟨b, off, none⟩) l.length cap ∧ b < B ∧ l.length ≤ cap ∧ At w b off l) := h
theorem holds_nil (w : World) (B : Nat) (a : Option Addr) (cap : Nat) : Holds w B (.slice a 0 cap) [] := Or.inl ⟨rfl, _, _, rfl⟩
theorem at_cells {w : World} {b off : Nat} {l : List T} (h : At w b off l) {j : Nat} (hj : j < l.length) : w.cell? ⟨b, off + j * 2, none⟩ = some (.string ⟨((l.getD j nov).1).toArray⟩) ∧ w.cell? ⟨b, off + j * 2 + 1, none⟩ = some (.int .i64 ((l.getD j nov).2)) := ⟨h j hj 0 _ rfl, h j hj 1 _ rfl⟩
theorem at_lt {w : World} {b off : Nat} {l : List T} (h : At w b off l) (h0 : 0 < l.length) : b < w.heap.size := Rec.at_lt cs_len (by decide) h h0
theorem at_below {w w' : World} {B b off : Nat} {l : List T} (h : At w b off l) (hb : Below B w w') (hlt : b < B) : At w' b off l := Rec.at_below h hb hlt
theorem holds_more {w : World} {B B' : Nat} {v : Value} {l : List T} (h : Holds w B v l) (hB : B ≤ B') : Holds w B' v l := Rec.holds_more h hB
theorem holds_below {w w' : World} {B : Nat} {v : Value} {l : List T} (h : Holds w B v l) (hb : Below B w w') : Holds w' B v l := Rec.holds_below h hb
theorem holds_grown {w w' : World} {B : Nat} {v : Value} {l : List T} {row : Option Nat} (h : Holds w B v l) (hg : w.grownBy w' row) (hr : ∀ k, row = some k → B ≤ k) : Holds w' B v l := Rec.holds_grown h hg hr
theorem own_len {w : World} {B : Nat} {v : Value} {l : List T} {n : Nat} (h : w.ownsRow B 78 2 v n (fcs l)) : n = l.length := Rec.own_len cs_len (by decide) h
theorem own_cells {w : World} {B g cap : Nat} {l : List T} {n : Nat} (h : w.ownsRow B 78 2 (.slice (some ⟨g, 0, none⟩) n cap) n (fcs l)) {j : Nat} (hj : j < n) : w.cell? ⟨g, j * 2, none⟩ = some (.string ⟨((l.getD j nov).1).toArray⟩) ∧ w.cell? ⟨g, j * 2 + 1, none⟩ = some (.int .i64 ((l.getD j nov).2)) :=
  ⟨Rec.own_cell (z := nov) (i := 0) cs_len (by decide) h hj rfl, Rec.own_cell (z := nov) (i := 1) cs_len (by decide) h hj rfl⟩
theorem own_holds {w : World} {B : Nat} {v : Value} {l : List T} (h : Own w B v l) : Holds w w.heap.size v l := Rec.own_holds cs_len (by decide) h
theorem own_mono {w : World} {B B' : Nat} {v : Value} {l : List T} (h : Own w B v l) (hB : B' ≤ B) : Own w B' v l := Rec.own_mono h hB
theorem row_below {w w' : World} {B n : Nat} {v : Value} {xs : List Value} (h : w.ownsRow B 78 2 v n xs) (hb : Below w.heap.size w w') : w'.ownsRow B 78 2 v n xs := Rec.row_below h hb
theorem row_grown {w w' : World} {B n : Nat} {v : Value} {xs : List Value} {row : Option Nat} (h : w.ownsRow B 78 2 v n xs) (hg : w.grownBy w' row) (hr : ∀ g, v.ownBlock = some g → some g ≠ row) : w'.ownsRow B 78 2 v n xs := Rec.row_grown h hg hr
theorem push_own {B : Nat} {a w w1 : World} {v v' : Value} {l : List T} {f : T} {o : Obj} (hown : Own w B v l) (hb : Below a.heap.size a w) (hB : a.heap.size ≤ B)
    (h' : w1.ownsRow B 78 2 v' (l.length + 1) (fcs l ++ [.string ⟨(f.1).toArray⟩, .int .i64 (f.2)])) (hg : (w.alloc o).grownBy w1 v.ownBlock) : Own w1 B v' (l ++ [f]) ∧ Below a.heap.size a w1 := Rec.push_own hown hb hB h' hg
theorem own_lit_nil (w : World) : Own (w.alloc (.cells #[] 78)) w.heap.size (.slice (some ⟨w.heap.size, 0, none⟩) 0 0) [] := Rec.own_lit_nil w _
theorem holds_drew {w : World} {B : Nat} {v : Value} {l : List T} (h : Holds w B v l) : Holds w.drew B v l := h
theorem row_drew {w : World} {B n : Nat} {v : Value} {xs : List Value} (h : w.ownsRow B 78 2 v n xs) : w.drew.ownsRow B 78 2 v n xs := h
def part (l : List T) (k : Nat) : List T := Rec.part nov l k
theorem part_len (l : List T) {k : Nat} (h : k ≤ l.length) : (part l k).length = l.length := Rec.part_len l h
theorem part_all (l : List T) : part l l.length = l := Rec.part_all l
theorem part_more {l : List T} {k : Nat} (h : k < l.length) : (part l k).set k (l.getD k nov) = part l (k + 1) := Rec.part_more h
theorem made_part (l : List T) : (madeCells (Value.agg #[.string ⟨#[]⟩, .int .i64 0]).cells (l.length * 2)).toList = fcs (part l 0) := Rec.made_part cs_len (by decide) l _ rfl
def wt (f : T) : Nat := f.1.length
def total (l : List T) : Nat := Rec.total wt l
theorem len_le_total (l : List T) : l.length ≤ total l := Rec.len_le_total wt l
theorem mem_total {l : List T} {f : T} (h : f ∈ l) : wt f ≤ total l := Rec.mem_total wt h
end Go.Proofs.YtegaakgmfphcaaaGreatDoor.Qua

/-
  PLAIN FACTS: the weight of a quality, and an element of a list of qualities; no world.
-/
namespace Go.Proofs.YtegaakgmfphcaaaGreatDoor.Qua
open Go Go.RowKit
set_option linter.unusedVariables false
set_option maxRecDepth 1000000

def digs (d : List UInt8) : Bool := d.all Par.isDig
/-- The number that the digits of a weight make, in thousandths. -/
def wnum (a d : List UInt8) : Nat := Par.val 0 (a ++ d ++ List.replicate (3 - d.length) 48)
def wgt2 (a d : List UInt8) : Option Nat := if ((a = [48] ∨ a = [49]) ∧ d.length ≤ 3) ∧ digs d = true ∧ wnum a d ≤ 1000 then some (wnum a d) else none
def wgt (s : List UInt8) : Option Nat := wgt2 (Tx.cutAt 46 s).1 (Tx.cutAt 46 s).2.1
theorem wgt2_no {a d : List UInt8} (h : ¬ ((a = [48] ∨ a = [49]) ∧ d.length ≤ 3)) : wgt2 a d = none := if_neg (fun x => h x.1)
theorem wgt2_dig {a d : List UInt8} (h : digs d = false) : wgt2 a d = none := if_neg (fun x => by rw [h] at x; exact Bool.noConfusion x.2.1)
theorem wgt2_big {a d : List UInt8} (h : 1000 < wnum a d) : wgt2 a d = none := if_neg (fun x => by have := x.2.2; omega)
theorem wgt2_yes {a d : List UInt8} (h : a = [48] ∨ a = [49]) (h2 : d.length ≤ 3) (h3 : digs d = true) (h4 : wnum a d ≤ 1000) : wgt2 a d = some (wnum a d) := if_pos ⟨⟨h, h2⟩, h3, h4⟩
theorem wgt2_le {a d : List UInt8} {n : Nat} (h : wgt2 a d = some n) : n ≤ 1000 := by
  unfold wgt2 at h; split at h
  · rename_i hx; cases h; exact hx.2.2
  · cases h
theorem wgt_le {s : List UInt8} {n : Nat} (h : wgt s = some n) : n ≤ 1000 := wgt2_le h

/-! how strconv.Atoi ends -/
theorem uint_bad (l : List UInt8) : ∀ (k acc : Nat), acc < 10 ^ k → k + l.length ≤ 18 → l.all Par.isDig = false → Lib.parseUint10 acc l = .syntax := by
  induction l with
  | nil => intro k acc _ _ h; cases h
  | cons c r ih =>
    intro k acc ha hl h
    by_cases hc : 48 ≤ c.toNat ∧ c.toNat ≤ 57
    · have hl' : r.length + 1 = (c :: r).length := rfl
      have hp : 10 ^ (k + 1) = 10 ^ k * 10 := Nat.pow_succ ..
      have hq : 10 ^ k ≤ 10 ^ 17 := Nat.pow_le_pow_right (by omega) (by omega)
      rw [Lib.parseUint10, if_pos hc, if_neg (by omega), if_neg (by omega)]
      refine ih (k + 1) _ (by omega) (by omega) ?_
      have hd : Par.isDig c = true := by unfold Par.isDig; exact decide_eq_true hc
      rw [List.all_cons, hd] at h; exact h
    · rw [Lib.parseUint10, if_neg hc]
theorem dig_iff {d : List UInt8} (h : digs d = true) : ∀ c ∈ d, 48 ≤ c.toNat ∧ c.toNat ≤ 57 := by
  intro c hc
  have := List.all_eq_true.1 h c hc
  unfold Par.isDig at this
  exact of_decide_eq_true this
theorem rep_dig (n : Nat) : ∀ c ∈ List.replicate n (48 : UInt8), 48 ≤ c.toNat ∧ c.toNat ≤ 57 := by
  intro c hc; rw [List.mem_replicate] at hc; rw [hc.2]; decide
theorem val_small : ∀ (d : List UInt8) (k acc : Nat), (∀ c ∈ d, 48 ≤ c.toNat ∧ c.toNat ≤ 57) → acc < 10 ^ k → Par.val acc d < 10 ^ (k + d.length)
  | [], k, acc, _, ha => by rw [Par.val_nil]; exact ha
  | c :: r, k, acc, hd, ha => by
    have hc := hd c (List.mem_cons_self ..)
    rw [Par.val_cons, List.length_cons, show k + (r.length + 1) = (k + 1) + r.length by omega]
    refine val_small r (k + 1) _ (fun x hx => hd x (List.mem_cons_of_mem _ hx)) ?_
    rw [Nat.pow_succ]; omega
theorem atoi_w {a d : List UInt8} (ha : a = [48] ∨ a = [49]) (hd : d.length ≤ 3) (h : digs d = true) : Lib.atoiAll (a ++ d ++ List.replicate (3 - d.length) 48) = .ok (wnum a d : Int) := by
  obtain ⟨c, rfl, hc⟩ : ∃ c : UInt8, a = [c] ∧ (48 ≤ c.toNat ∧ c.toNat ≤ 49) := by rcases ha with rfl | rfl; exact ⟨48, rfl, by decide⟩; exact ⟨49, rfl, by decide⟩
  have hall : ∀ x ∈ [c] ++ d ++ List.replicate (3 - d.length) 48, 48 ≤ x.toNat ∧ x.toNat ≤ 57 := by
    intro x hx
    rcases List.mem_append.1 hx with hx | hx
    · rcases List.mem_append.1 hx with hx | hx
      · rw [List.mem_singleton] at hx; subst hx; omega
      · exact dig_iff h x hx
    · exact rep_dig _ x hx
  have hlen : ([c] ++ d ++ List.replicate (3 - d.length) 48).length = 4 := by simp; omega
  have hv := Par.uint_val ([c] ++ d ++ List.replicate (3 - d.length) 48) 0 0 hall (by decide) (by omega)
  have hw : wnum [c] d = Par.val 0 ([c] ++ d ++ List.replicate (3 - d.length) 48) := rfl
  rw [hw]
  show Lib.atoiAll (c :: (d ++ List.replicate (3 - d.length) 48)) = _
  rw [Lib.atoiAll_plain c _ (by omega) (by omega)]
  unfold Lib.parseMag
  rw [if_neg (by simp)]
  rw [show c :: (d ++ List.replicate (3 - d.length) 48) = [c] ++ d ++ List.replicate (3 - d.length) 48 by simp, hv]
  show (if 9223372036854775808 ≤ Par.val 0 ([c] ++ d ++ List.replicate (3 - d.length) 48) then Lib.NumEnd.range else .ok _) = _
  have hs := val_small ([c] ++ d ++ List.replicate (3 - d.length) 48) 0 0 hall (by decide)
  rw [hlen] at hs
  rw [if_neg (by omega)]
theorem atoi_no {a d : List UInt8} (ha : a = [48] ∨ a = [49]) (hd : d.length ≤ 3) (h : digs d = false) : ∀ v, Lib.atoiAll (a ++ d ++ List.replicate (3 - d.length) 48) ≠ .ok v := by
  obtain ⟨c, rfl, hc⟩ : ∃ c : UInt8, a = [c] ∧ (48 ≤ c.toNat ∧ c.toNat ≤ 49) := by rcases ha with rfl | rfl; exact ⟨48, rfl, by decide⟩; exact ⟨49, rfl, by decide⟩
  have hlen : ([c] ++ d ++ List.replicate (3 - d.length) 48).length = 4 := by simp; omega
  have hv := uint_bad ([c] ++ d ++ List.replicate (3 - d.length) 48) 0 0 (by decide) (by omega) (by
    unfold digs at h
    rw [List.all_append, List.all_append, h]; simp)
  intro v
  show Lib.atoiAll (c :: (d ++ List.replicate (3 - d.length) 48)) ≠ _
  rw [Lib.atoiAll_plain c _ (by omega) (by omega)]
  unfold Lib.parseMag
  rw [if_neg (by simp), show c :: (d ++ List.replicate (3 - d.length) 48) = [c] ++ d ++ List.replicate (3 - d.length) 48 by simp, hv]
  intro e; cases e

/-! the model's way: the value byte by byte -/
def wfold (c : UInt8) (d : List UInt8) : Nat := Par.val (c.toNat - 48) d * 10 ^ (3 - d.length)
theorem wfold_num {c : UInt8} {d : List UInt8} (hd : d.length ≤ 3) : wnum [c] d = wfold c d := by
  unfold wnum wfold
  match d, hd with
  | [], _ => simp [Par.val, Par.stp]; omega
  | [x], _ => simp [Par.val, Par.stp]; omega
  | [x, y], _ => simp [Par.val, Par.stp]; omega
  | [x, y, z], _ => simp [Par.val, Par.stp]
theorem wfold_more {c x : UInt8} {d : List UInt8} (hd : d.length ≤ 2) : wfold c (d ++ [x]) = wfold c d + 10 ^ (2 - d.length) * (x.toNat - 48) := by
  unfold wfold
  rw [Par.val_append, Par.val_one, List.length_append, List.length_singleton]
  match hl : d.length, hd with
  | 0, _ => simp; omega
  | 1, _ => simp; omega
  | 2, _ => simp; omega

theorem cut46_one {c : UInt8} (h : c ≠ 46) : Tx.cutAt 46 [c] = ([c], [], false) := by
  have : (c == 46) = false := beq_eq_false_iff_ne.2 h
  unfold Tx.cutAt Tx.idx; rw [this]; simp [Tx.idx]
theorem cut46_dot {c : UInt8} (d : List UInt8) (h : c ≠ 46) : Tx.cutAt 46 (c :: 46 :: d) = ([c], d, true) := by
  have : (c == 46) = false := beq_eq_false_iff_ne.2 h
  unfold Tx.cutAt
  have hi : Tx.idx 46 (c :: 46 :: d) = 1 := by unfold Tx.idx; rw [this]; simp [Tx.idx]
  rw [hi, if_pos (by simp)]; rfl
theorem cut46_other {c x : UInt8} (d : List UInt8) (h : c ≠ 46) (hx : x ≠ 46) : 2 ≤ (Tx.cutAt 46 (c :: x :: d)).1.length := by
  have h1 : (c == 46) = false := beq_eq_false_iff_ne.2 h
  have h2 : (x == 46) = false := beq_eq_false_iff_ne.2 hx
  unfold Tx.cutAt
  have hi : Tx.idx 46 (c :: x :: d) = Tx.idx 46 d + 2 := by simp [Tx.idx, h1, h2]
  split
  · rename_i hh; rw [hi] at hh ⊢; rw [List.length_take]; simp only [List.length_cons] at hh ⊢; omega
  · simp
theorem wgt_nil : wgt [] = none := rfl
theorem wgt_head {c : UInt8} {d : List UInt8} (h : c ≠ 48 ∧ c ≠ 49) : wgt (c :: d) = none := by
  refine wgt2_no (fun x => ?_)
  by_cases hc : c = 46
  · subst hc
    have hz : (Tx.cutAt 46 (46 :: d)).1 = [] := by unfold Tx.cutAt Tx.idx; simp
    rw [hz] at x; rcases x.1 with e | e <;> cases e
  · have h1 : (c == 46) = false := beq_eq_false_iff_ne.2 hc
    have hi : Tx.idx 46 (c :: d) = Tx.idx 46 d + 1 := by simp [Tx.idx, h1]
    have hz : (Tx.cutAt 46 (c :: d)).1.head? = some c := by
      unfold Tx.cutAt; rw [hi]; split <;> simp
    rcases x.1 with e | e <;> rw [e] at hz <;> simp at hz
    · exact h.1 hz.symm
    · exact h.2 hz.symm
theorem wgt_other {c x : UInt8} {d : List UInt8} (hx : x ≠ 46) : wgt (c :: x :: d) = none := by
  by_cases hc : c = 48 ∨ c = 49
  · have h46 : c ≠ 46 := by rcases hc with rfl | rfl <;> decide
    refine wgt2_no (fun y => ?_)
    have := cut46_other d h46 hx
    rcases y.1 with e | e <;> rw [e] at this <;> simp at this
  · exact wgt_head ⟨fun e => hc (Or.inl e), fun e => hc (Or.inr e)⟩
theorem wgt_one {c : UInt8} (hc : c = 48 ∨ c = 49) : wgt [c] = some (wfold c []) := by
  have h46 : c ≠ 46 := by rcases hc with rfl | rfl <;> decide
  unfold wgt; rw [cut46_one h46]
  have hn : wnum [c] [] = wfold c [] := wfold_num (by simp)
  rw [← hn]
  exact wgt2_yes (by rcases hc with rfl | rfl; exact Or.inl rfl; exact Or.inr rfl) (by simp) rfl (by rw [hn]; rcases hc with rfl | rfl <;> decide)
theorem wgt_dot {c : UInt8} {d : List UInt8} (hc : c = 48 ∨ c = 49) : wgt (c :: 46 :: d) = if d.length ≤ 3 ∧ digs d = true ∧ wfold c d ≤ 1000 then some (wfold c d) else none := by
  have h46 : c ≠ 46 := by rcases hc with rfl | rfl <;> decide
  unfold wgt; rw [cut46_dot d h46]
  by_cases h3 : d.length ≤ 3
  · have hn : wnum [c] d = wfold c d := wfold_num h3
    unfold wgt2
    simp only [hn]
    by_cases h : digs d = true ∧ wfold c d ≤ 1000
    · rw [if_pos ⟨⟨by rcases hc with rfl | rfl; exact Or.inl rfl; exact Or.inr rfl, h3⟩, h⟩, if_pos ⟨h3, h⟩]
    · rw [if_neg (fun x => h x.2), if_neg (fun x => h x.2)]
  · rw [if_neg (fun x => h3 x.1)]; exact wgt2_no (fun x => h3 x.2)
theorem wgt_long {s : List UInt8} (h : 5 < s.length) : wgt s = none := by
  match s, h with
  | c :: x :: d, h =>
    by_cases hc : c = 48 ∨ c = 49
    · by_cases hx : x = 46
      · subst hx; rw [wgt_dot hc, if_neg (fun y => by have := y.1; simp at h; omega)]
      · exact wgt_other hx
    · exact wgt_head ⟨fun e => hc (Or.inl e), fun e => hc (Or.inr e)⟩

/-- What an element of a list of qualities gives. -/
def qpar (s : List UInt8) : Option Nat := if Tx.lower (Tx.pairs s).1 = [113] then wgt (Tx.pairs s).2.1 else none
def qel (x : List UInt8) : Option T :=
  if Tx.token (Tx.trim ((Spc.spl 59 x).getD 0 [])) = true ∧ (Spc.spl 59 x).length ≤ 2 then
    (if (Spc.spl 59 x).length = 2 then (qpar ((Spc.spl 59 x).getD 1 [])).map (fun n => (Tx.lower (Tx.trim ((Spc.spl 59 x).getD 0 [])), (n : Int)))
     else some (Tx.lower (Tx.trim ((Spc.spl 59 x).getD 0 [])), 1000))
  else none
def quals (xs : List (List UInt8)) : List T := xs.filterMap qel
def pqs (s : List UInt8) : List T := quals (Tx.split s)
theorem quals_yes {xs : List (List UInt8)} {k : Nat} {d : T} (h : k < xs.length) (hd : qel (xs.getD k []) = some d) : quals (xs.take (k + 1)) = quals (xs.take k) ++ [d] := by
  unfold quals
  rw [List.take_succ_eq_append_getElem h, List.filterMap_append, show xs[k] = xs.getD k [] by simp [List.getD, h]]
  simp only [List.filterMap_cons, hd, List.filterMap_nil]
theorem quals_no {xs : List (List UInt8)} {k : Nat} (h : k < xs.length) (hd : qel (xs.getD k []) = none) : quals (xs.take (k + 1)) = quals (xs.take k) := by
  unfold quals
  rw [List.take_succ_eq_append_getElem h, List.filterMap_append, show xs[k] = xs.getD k [] by simp [List.getD, h]]
  simp only [List.filterMap_cons, hd, List.filterMap_nil, List.append_nil]
theorem quals_len (xs : List (List UInt8)) : (quals xs).length ≤ xs.length := List.length_filterMap_le _ _
/-- Without the sign of equality there is no weight. -/
theorem pairs_no {s : List UInt8} (h : (Tx.pairs s).2.2 = false) : (Tx.pairs s).2.1 = [] := by
  unfold Tx.pairs Tx.cutAt at h ⊢
  split
  · rename_i hh; rw [if_pos hh] at h; cases h
  · rfl
end Go.Proofs.YtegaakgmfphcaaaGreatDoor.Qua

/-
  CONTRACT of the model's FormatInt: at every integer of 64 bits it returns the decimal numeral; nothing that was there before is changed.
-/
namespace Go.Proofs.YtegaakgmfphcaaaGreatDoor.Fmt
open Go Go.RowKit
set_option linter.unusedVariables false
set_option maxRecDepth 1000000

theorem ret_str {a b : List UInt8} (h : a = b) : Ending.returned (.string ⟨a.toArray⟩) = .returned (.string ⟨b.toArray⟩) := by rw [h]

/-- A byte in a new block of its own, read back as a string. -/
theorem byteback (wr : World) (z : Int) (h0 : 0 ≤ z) (h1 : z ≤ 255) :
    (convert 22 9 (.slice (some ⟨wr.heap.size, 0, none⟩) 1 1)).run Tryz.prog (wr.alloc (.cells #[.int .u8 z] 5)) = .ok (.string ⟨[UInt8.ofNat z.toNat].toArray⟩) (wr.alloc (.cells #[.int .u8 z] 5)) := by
  have h := run_convert_bytes_back (P := Tryz.prog) (wr.alloc (.cells #[.int .u8 z] 5)) 22 9 5 ⟨wr.heap.size, 0, none⟩ 1 [UInt8.ofNat z.toNat] Tryz.underlying22 Tryz.underlying5 Tryz.underlying9 (fun j hj => by
    have hj0 : j = 0 := by simpa using hj
    subst hj0
    have : ((UInt8.ofNat z.toNat).toNat : Int) = z := by
      rw [UInt8.toNat_ofNat']; omega
    show World.cell? _ ⟨wr.heap.size, 0 + 0, none⟩ = _
    rw [World.cell?_alloc_new]
    simp; omega)
  exact h
theorem addone (c : UInt8) (suf : List UInt8) (h : suf.length ≤ 40) (W : World) :
    (Op.stringOp .add ⟨[c].toArray⟩ ⟨suf.toArray⟩).run Tryz.prog W = .ok (.string ⟨(c :: suf).toArray⟩) W := by
  rw [run_string_add_sum W _ _ (by simp [ByteArray.size]; omega)]; rfl

theorem step (u : Nat) (suf : List UInt8) (hz : u ≠ 0) (wr : World) : ∃ c : UInt8, dd (u / 10) ++ (c :: suf) = dd u ++ suf ∧
    (convert 22 9 (.slice (some ⟨wr.heap.size, 0, none⟩) 1 1)).run Tryz.prog (wr.alloc (.cells #[.int .u8 (48 + (u : Int) % 10)] 5)) = .ok (.string ⟨[c].toArray⟩) (wr.alloc (.cells #[.int .u8 (48 + (u : Int) % 10)] 5)) := by
  refine ⟨_, ?_, byteback wr _ (by omega) (by omega)⟩
  rw [dd_step hz, show (48 + (u : Int) % 10).toNat = 48 + u % 10 by omega, List.append_assoc]; rfl
theorem step_len (u m : Nat) (c : UInt8) (suf : List UInt8) (h : m ≤ 9223372036854775808) (e : dd (u / 10) ++ (c :: suf) = dd m) : (c :: suf).length ≤ 19 := by
  have h19 := dd_len h
  rw [← e, List.length_append] at h19
  omega

theorem neg_mod (u : Nat) : (-(u : Int)).tmod 10 = -((u : Int) % 10) := by
  rw [Int.neg_tmod]; congr 1
theorem neg_div (u : Nat) : (-(u : Int)).tdiv 10 = -((u : Int) / 10) := by
  rw [Int.neg_tdiv]; congr 1

end Go.Proofs.YtegaakgmfphcaaaGreatDoor.Fmt

/-
  CONTRACT of the model's ParseInt: at every text it answers the number whose decimal numeral the text is, if it lies between 0 and the greatest integer that is read; nothing that was there before is changed.
-/
namespace Go.Proofs.YtegaakgmfphcaaaGreatDoor.Par
open Go Go.RowKit
set_option linter.unusedVariables false
set_option maxRecDepth 1000000

theorem list_eq {l : List UInt8} {s : ByteArray} (h : (!l == s.toList) = false) : l = s.data.toList := by
  rw [← Go.ByteArray.toList_eq]
  simpa using h
theorem list_ne {l : List UInt8} {s : ByteArray} (h : (!l == s.toList) = true) : l ≠ s.data.toList := by
  rw [← Go.ByteArray.toList_eq]
  simpa using h
/-- How ParseInt ends. -/
def Parsed (l : List UInt8) (w : World) (e : Ending) (w' : World) : Prop := ∃ v b, PS l v b ∧ e = .returned (.tuple #[.int .i64 v, .bool b]) ∧ Below w.heap.size w w'

end Go.Proofs.YtegaakgmfphcaaaGreatDoor.Par

/-
  CONTRACT of the program's FormatInt: at every integer of 64 bits, where the library's table of powers of ten reads as it is written, it returns the decimal numeral; nothing that was there before is changed.
-/
namespace Go.Proofs.YtegaakgmfphcaaaGreatDoor.Fmt
open Go Go.RowKit
set_option linter.unusedVariables false
set_option maxRecDepth 1000000

/-- The library's table of powers of ten, as it is written. -/
def Tens (w : World) : Prop := Lib.TabIs Tryz.prog w "internal/strconv.uint64pow10" .u64 Lib.pow10Tab
theorem tens_below {W w1 : World} (h : Tens W) (hb : Below W.heap.size W w1) : Tens w1 := Base.var_below h hb

end Go.Proofs.YtegaakgmfphcaaaGreatDoor.Fmt

/-
  CONTRACT of the program's ParseInt: at every text of at most 2 to the 48 bytes, where the library's table of powers of ten and its two errors read as they are written, it answers the number whose decimal numeral the text is, if it lies between 0 and the greatest integer that is read; nothing that was there before is changed.
-/
namespace Go.Proofs.YtegaakgmfphcaaaGreatDoor.Par
open Go Go.RowKit
set_option linter.unusedVariables false
set_option maxRecDepth 1000000

/-- The library's two errors are there. -/
def Errs (w : World) : Prop := (∃ tp p, w.var? Tryz.prog "strconv.ErrSyntax" = some #[.iface tp p]) ∧ (∃ tp p, w.var? Tryz.prog "strconv.ErrRange" = some #[.iface tp p])
theorem errs_below {W w1 : World} (h : Errs W) (hb : Below W.heap.size W w1) : Errs w1 := by
  obtain ⟨⟨tp, p, h1⟩, ⟨tq, q, h2⟩⟩ := h
  exact ⟨⟨tp, p, Base.var_below h1 hb⟩, ⟨tq, q, Base.var_below h2 hb⟩⟩


theorem atoi_ok (s : ByteArray) (hs : s.size ≤ 281474976710656) (v : Int) (h : Lib.atoiAll s.data.toList = .ok v) (w : World) :
    Calls Tryz.prog 133 #[.string s] w fun e w' => e = .returned (.tuple #[.int .i64 v, .nilIface]) ∧ Below w.heap.size w w' := by
  refine (Tryz.strconv_Atoi_ok s (by omega) v h w).mono ?_
  rintro e w' ⟨rfl, rfl | ⟨t, rfl⟩⟩
  · exact ⟨rfl, Below.refl _ _⟩
  · exact ⟨rfl, Joins.below_bytesWorld _ _ _ _ (Nat.le_refl _)⟩
/-- Any other end of Atoi: an error that is there. -/
theorem atoi_err (s : ByteArray) (hs : s.size ≤ 281474976710656) (h : ∀ v, Lib.atoiAll s.data.toList ≠ .ok v) (w : World) (he : Errs w) :
    Calls Tryz.prog 133 #[.string s] w fun e w' => (∃ z p, e = .returned (.tuple #[.int .i64 z, .iface 144 (.pointer (some p))])) ∧ Below w.heap.size w w' := by
  obtain ⟨⟨tp, p, h1⟩, ⟨tq, q, h2⟩⟩ := he
  rcases hk : Lib.atoiAll s.data.toList with v | _ | _
  · exact absurd hk (h v)
  · refine (Tryz.strconv_Atoi_syntax_var s hs hk tp p w h1).mono ?_
    rintro e w' ⟨N, rfl, _, _, hb⟩
    exact ⟨⟨_, _, rfl⟩, hb⟩
  · refine (Tryz.strconv_Atoi_range_var s hs hk tq q w h2).mono ?_
    rintro e w' ⟨N, rfl, _, _, hb⟩
    exact ⟨⟨_, _, rfl⟩, hb⟩

theorem ps_noatoi {s : ByteArray} (h : ∀ v, Lib.atoiAll s.data.toList ≠ .ok v) : PS s.data.toList 0 false := by
  refine Or.inr ⟨rfl, rfl, fun u h0 h1 e => ?_⟩
  exact h u (e ▸ atoi_itoa h0 h1)
theorem ps_out {s : ByteArray} {v : Int} (h : Lib.atoiAll s.data.toList = .ok v) (hv : v < 0 ∨ 1000000000000 < v) : PS s.data.toList 0 false := by
  refine Or.inr ⟨rfl, rfl, fun u h0 h1 e => ?_⟩
  have := atoi_itoa h0 h1
  rw [e, h] at this
  injection this with this
  omega
theorem ps_not {s : ByteArray} {v : Int} (h : Lib.atoiAll s.data.toList = .ok v) (hv : Lib.itoa v ≠ s.data.toList) : PS s.data.toList 0 false := by
  refine Or.inr ⟨rfl, rfl, fun u h0 h1 e => ?_⟩
  have := atoi_itoa h0 h1
  rw [e, h] at this
  injection this with this
  exact hv (this ▸ e)

end Go.Proofs.YtegaakgmfphcaaaGreatDoor.Par

/-
  WHAT the contracts ask of the world: the program's two errors of directives are there. And: from a row's listed variables to that.
-/
namespace Go.Proofs.YtegaakgmfphcaaaGreatDoor.Dir
open Go Go.RowKit
set_option linter.unusedVariables false
set_option maxRecDepth 1000000

def IsErr (w : World) (g : Nat) : Prop := g < w.heap.size ∧ ∃ tp p, w.cell? ⟨g, 0, none⟩ = some (.iface tp p)
theorem err_below {w w' : World} {g : Nat} (h : IsErr w g) (hb : Below w.heap.size w w') : IsErr w' g := by
  obtain ⟨hg, tp, p, hc⟩ := h
  exact ⟨Nat.lt_of_lt_of_le hg hb.size, tp, p, (hb.cell (p := ⟨g, 0, none⟩) hg).trans hc⟩
theorem err_of_var {P : Program} {w : World} {name : String} {g : Nat} {tp : TypeId} {p : Value} (hg : P.globalNamed name = some g) (h : w.var? P name = some #[.iface tp p]) : IsErr w g := by
  unfold World.var? at h
  rw [hg] at h
  simp only [Option.bind_some] at h
  have hlt : g < w.heap.size := by
    rcases Nat.lt_or_ge g w.heap.size with h' | h'
    · exact h'
    · rw [Array.getElem?_eq_none h'] at h; simp at h
  refine ⟨hlt, tp, p, ?_⟩
  unfold World.cell?
  rw [Array.getElem?_eq_getElem hlt] at h ⊢
  simp only [Option.bind_some] at h ⊢
  revert h
  cases w.heap[g] with
  | cells cs ty fz => intro h; simp [Obj.cells] at h ⊢; subst h; rfl
  | _ => intro h; simp at h
theorem at_head {P : Program} {w : World} {n : String} {d : DataW Unit} : ∀ {l : List (String × DataW Unit)}, laidMet P l w → (n, d) ∈ l → ∃ r, laidMet P ((n, d) :: r) w
  | [], _, hm => by cases hm
  | x :: r, h, hm => by
    rcases List.mem_cons.1 hm with e | e
    · cases e; exact ⟨r, h⟩
    · exact at_head h.tail e
end Go.Proofs.YtegaakgmfphcaaaGreatDoor.Dir
