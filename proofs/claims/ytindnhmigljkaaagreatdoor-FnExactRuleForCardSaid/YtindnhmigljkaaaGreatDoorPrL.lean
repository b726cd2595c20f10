/-
  CONTRACTS AND PLAIN FACTS, several texts in one; each says in its own words what it proves.
-/
import Derived.Test.YtindnhmigljkaaaGreatDoorPrJ
import Derived.Test.YtindnhmigljkaaaGreatDoorPrE
import Derived.Lib.SplitLaws
import Derived.Lib.IndexBytes
import Derived.Lib.SlicesS
import Derived.WalkSmall

/-
  A TEXT DIVIDED AT A BYTE: plain facts, the library's list is this one, and the CONTRACT of the model's l12Split; nothing that was there before is changed.
-/
namespace Go.Proofs.YtindnhmigljkaaaGreatDoor.Spc
open Go Go.RowKit
set_option linter.unusedVariables false
set_option maxRecDepth 1000000

def spl (c : UInt8) : List UInt8 → List (List UInt8)
  | [] => [[]]
  | x :: l => if x = c then [] :: spl c l else Tx.push [x] (spl c l)
theorem spl_hit {c x : UInt8} (l : List UInt8) (h : x = c) : spl c (x :: l) = [] :: spl c l := by rw [spl, if_pos h]
theorem spl_miss {c x : UInt8} (l : List UInt8) (h : x ≠ c) : spl c (x :: l) = Tx.push [x] (spl c l) := by rw [spl, if_neg h]
theorem push_ne {p : List UInt8} {L : List (List UInt8)} (h : L ≠ []) : Tx.push p L ≠ [] := by cases L <;> simp_all [Tx.push]
theorem push_len (p : List UInt8) (L : List (List UInt8)) : (Tx.push p L).length = L.length := by cases L <;> rfl
theorem spl_ne (c : UInt8) (l : List UInt8) : spl c l ≠ [] := by
  induction l with
  | nil => simp [spl]
  | cons x l ih => unfold spl; split; · simp
                   · exact push_ne ih
theorem spl_len (c : UInt8) (l : List UInt8) : (spl c l).length ≤ l.length + 1 := by
  induction l with
  | nil => simp [spl]
  | cons x l ih => unfold spl; split; · simp; omega
                   · rw [push_len]; simp; omega
theorem spl_mem (c : UInt8) : ∀ (l : List UInt8) (x : List UInt8), x ∈ spl c l → x.length ≤ l.length
  | [], x, h => by simp [spl] at h; subst h; simp
  | y :: l, x, h => by
    unfold spl at h
    split at h
    · rcases List.mem_cons.1 h with rfl | h
      · simp
      · have := spl_mem c l x h; simp; omega
    · cases hs : spl c l with
      | nil => exact absurd hs (spl_ne c l)
      | cons a r =>
        rw [hs] at h
        simp only [Tx.push] at h
        rcases List.mem_cons.1 h with rfl | h
        · have := spl_mem c l a (by rw [hs]; exact List.mem_cons_self ..); simp; omega
        · have := spl_mem c l x (by rw [hs]; exact List.mem_cons_of_mem _ h); simp; omega
theorem splitK_spl (c : UInt8) : ∀ l : List UInt8, Lib.splitK [c] 0 (l.count c) l = spl c l
  | [] => rfl
  | x :: l => by
    have ih := splitK_spl c l
    by_cases h : x = c
    · subst h
      have hi : Lib.index (x :: l) [x] = 0 := by rw [Lib.index_one]; simp [Lib.indexByte]
      rw [List.count_cons_self]
      unfold Lib.splitK spl
      rw [hi, if_pos rfl, if_neg (by decide)]
      simpa using ih
    · have hb : (x == c) = false := beq_eq_false_iff_ne.2 h
      rw [List.count_cons_of_ne h]
      unfold spl
      rw [if_neg h, ← ih]
      cases hn : l.count c with
      | zero => rfl
      | succ n =>
        by_cases hm : Lib.indexByte l c = -1
        · have hi : Lib.index (x :: l) [c] = -1 := by rw [Lib.index_one]; simp [Lib.indexByte, hb, hm]
          have hj : Lib.index l [c] = -1 := by rw [Lib.index_one]; exact hm
          unfold Lib.splitK
          rw [hi, hj]
          rfl
        · have hge := Lib.indexByte_ge l c
          obtain ⟨i, hi0⟩ : ∃ i : Nat, Lib.indexByte l c = i := ⟨(Lib.indexByte l c).toNat, by omega⟩
          have hmb : (Lib.indexByte l c == -1) = false := beq_eq_false_iff_ne.2 hm
          have hi : Lib.index (x :: l) [c] = (i : Int) + 1 := by rw [Lib.index_one]; simp [Lib.indexByte, hb, hmb, hi0]
          have hj : Lib.index l [c] = (i : Int) := by rw [Lib.index_one]; exact hi0
          have e1 : (((i : Int) + 1) == -1) = false := beq_eq_false_iff_ne.2 (by omega)
          have e2 : (((i : Int)) == -1) = false := beq_eq_false_iff_ne.2 (by omega)
          have t1 : ((i : Int) + 1).toNat = i + 1 := by omega
          unfold Lib.splitK
          rw [hi, hj, e1, e2, t1]
          simp [Tx.push]
/-- What the library's Split lays is this. -/
theorem split_spl (c : UInt8) (s : ByteArray) : (Lib.splitB ⟨#[c]⟩ 0 (Lib.countB s ⟨#[c]⟩) s).map (·.data.toList) = spl c s.data.toList := by
  rw [Lib.splitB_data]
  show Lib.splitK [c] 0 (Lib.count s.data.toList [c]) s.data.toList = _
  rw [Lib.count_one, splitK_spl]
theorem split_len (c : UInt8) (s : ByteArray) : (Lib.splitB ⟨#[c]⟩ 0 (Lib.countB s ⟨#[c]⟩) s).length = (spl c s.data.toList).length := by
  rw [← split_spl, List.length_map]
theorem split_has (c : UInt8) (s x : ByteArray) : Lib.containsS (Lib.splitB ⟨#[c]⟩ 0 (Lib.countB s ⟨#[c]⟩) s) x = (spl c s.data.toList).contains x.data.toList := by
  rw [Bool.eq_iff_iff, Lib.containsS_iff, ← split_spl]
  simp only [List.contains_iff_mem, List.mem_map]
  constructor
  · intro h; exact ⟨x, h, rfl⟩
  · rintro ⟨y, hy, he⟩
    have : y = x := by
      have e1 : y.data = x.data := by rw [← Array.toArray_toList (xs := y.data), he, Array.toArray_toList]
      cases y; cases x; simp_all
    rw [← this]; exact hy

def seg (l : List UInt8) (f k : Nat) : List UInt8 := (l.drop f).take (k - f)
theorem seg_same (l : List UInt8) (k : Nat) : seg l k k = [] := by unfold seg; simp
theorem seg_ext {s : ByteArray} {f k : Nat} : (s.extract f k).data.toList = seg s.data.toList f k := by unfold seg; simp
theorem seg_all {l : List UInt8} {f k : Nat} (h : l.length ≤ k) : seg l f k = l.drop f := by unfold seg; exact List.take_of_length_le (by rw [List.length_drop]; omega)
theorem seg_more {s : ByteArray} {f k : Nat} (h : f ≤ k) (hk : k < s.size) : seg s.data.toList f (k + 1) = seg s.data.toList f k ++ [s[k]] := by
  unfold seg
  rw [show k + 1 - f = (k - f) + 1 by omega, List.take_add_one, List.getElem?_drop, show f + (k - f) = k by omega]
  rw [List.getElem?_eq_getElem (by rw [Tx.list_len]; exact hk)]
  rfl
/-- The state of l12Split. -/
def SP (c : UInt8) (s : ByteArray) (k f : Nat) (xs : List (List UInt8)) : Prop := f ≤ k ∧ k ≤ s.size ∧ xs.length ≤ k ∧ xs ++ Tx.push (seg s.data.toList f k) (spl c (s.data.toList.drop k)) = spl c s.data.toList
theorem sp_start (c : UInt8) (s : ByteArray) : SP c s 0 0 [] := ⟨Nat.le_refl _, Nat.zero_le _, Nat.le_refl _, by rw [seg_same, Tx.push_nil, List.drop_zero]; rfl⟩
theorem sp_hit {c : UInt8} {s : ByteArray} {k f : Nat} {xs : List (List UInt8)} (h : SP c s k f xs) (hk : k < s.size) (h1 : s[k] = c) : SP c s (k + 1) (k + 1) (xs ++ [(s.extract f k).data.toList]) := by
  obtain ⟨a, b, b', e⟩ := h
  refine ⟨Nat.le_refl _, by omega, by rw [List.length_append]; simp; omega, ?_⟩
  rw [Tx.drop_cons s k hk] at e
  rw [spl_hit _ h1] at e
  rw [seg_same, Tx.push_nil, seg_ext, List.append_assoc]
  simp only [Tx.push, List.append_nil] at e
  rw [← e]
  rfl
theorem sp_miss {c : UInt8} {s : ByteArray} {k f : Nat} {xs : List (List UInt8)} (h : SP c s k f xs) (hk : k < s.size) (h1 : s[k] ≠ c) : SP c s (k + 1) f xs := by
  obtain ⟨a, b, b', e⟩ := h
  refine ⟨by omega, by omega, by omega, ?_⟩
  rw [Tx.drop_cons s k hk] at e
  rw [spl_miss _ h1, Tx.push_push] at e
  rw [seg_more a hk]
  exact e
theorem sp_end {c : UInt8} {s : ByteArray} {k f : Nat} {xs : List (List UInt8)} (h : SP c s k f xs) (hk : ¬ k < s.size) : xs ++ [(s.extract f s.size).data.toList] = spl c s.data.toList := by
  obtain ⟨a, b, b', e⟩ := h
  have hks : k = s.size := by omega
  subst hks
  rw [List.drop_eq_nil_of_le (by rw [Tx.list_len]; exact Nat.le_refl _)] at e
  rw [seg_ext]
  simpa [spl, Tx.push] using e
theorem sv_ext (x : ByteArray) : Strs.sv x.data.toList = .string x := by unfold Strs.sv; simp
theorem byte_is {x c : UInt8} (h : x = c) : ((x.toNat : Int) == (c.toNat : Int)) = true := by rw [h]; simp
theorem byte_not {x c : UInt8} (h : x ≠ c) : ((x.toNat : Int) == (c.toNat : Int)) = false := by
  rw [beq_eq_false_iff_ne]; intro e; exact h (UInt8.toNat_inj.1 (by omega))
/-- How l12Split ends. -/
def SplEnd (c : UInt8) (l : List UInt8) (w : World) (e : Ending) (w' : World) : Prop := ∃ v, e = .returned v ∧ Strs.Own w' w.heap.size v (spl c l) ∧ Below w.heap.size w w'

set_option maxHeartbeats 2000000 in
theorem spec_spl (c : UInt8) (s : ByteArray) (w : World) (hs : s.size ≤ 4194304) :
    Calls Tryz.prog 54 #[.string s, .int .u8 (c.toNat : Int)] w (SplEnd c s.data.toList w) := by
  obtain ⟨i0, hi, hz0, hz1, hz2⟩ := info_parts Strs.info_str
  have HO := Lib.hid (Strs.own_lit_nil w)
  go_enter Tryz.func54, Tryz.ntmps54
  go_wp2
  go_loopw [5, 6, 7] (fun v f i wr => ∃ (k fr : Nat) (xs : List (List UInt8)), i = .int .i64 (k : Int) ∧ f = .int .i64 (fr : Int) ∧ Strs.Own wr w.heap.size v xs ∧ SP c s k fr xs ∧ Below w.heap.size w wr) (fun _ _ i _ => s.size - (intOf i).toNat)
  case atStart => exact ⟨0, 0, [], rfl, rfl, HO.out, sp_start c s, (Below.refl _ _).alloc (Nat.le_refl _) _⟩
  case round =>
    clear HO
    obtain ⟨k, fr, xs, rfl, rfl, hown, hsp, hb⟩ := hrel
    have HS := Lib.hid hsp
    have hf1 : fr ≤ k := hsp.1
    have hf2 : k ≤ s.size := hsp.2.1
    have hfi : (fr : Int) ≤ (k : Int) := by omega
    have HX := Lib.hid hsp.2.2.1
    have hsl : (Strs.svs xs).length = xs.length := Strs.svs_len xs
    have hbs := hb.size
    have HB := Lib.hid hb
    clear hsp hb
    by_cases hlt : k < s.size
    · by_cases hc : s[k] = c
      · have hcc := byte_is hc
        have HE := Lib.hid (sp_hit HS.out hlt hc)
        clear hc
        go_wp2_with (at_builtin; refine wpList_append_own _ rfl (.tmp 20) (.tmp 25) 96 rfl w.heap.size 9 i0 (.string ⟨#[]⟩) 1 16 Tryz.underlying96 hi hz0 hz1 hz2 rfl (by decide) _ _ _ rfl (hown.alloc _) ⟨wr.heap.size, 0, none⟩ 1 1 [.string (s.extract fr k)] rfl rfl (Strs.news_one _ _ _) (by intro u hu; simp at hu; subst hu; rfl) (by have := HX.out; unfold maxLen; omega) (by have := HX.out; omega) (by simp; omega) ?_; intro v1 w1 hown1 hg1 _)
        have R := Lib.hid (Strs.push_own (x := (s.extract fr k).data.toList) hown HB.out (Nat.le_refl _) (by rw [sv_ext]; exact hown1) hg1)
        clear hown hown1 hg1
        go_wp2
        go_roundw
        case rel => exact ⟨k + 1, k + 1, _, by go_num, by go_num, R.out.1, HE.out, R.out.2⟩
        case measure => simp [intOf]; omega
      · have hcc := byte_not hc
        have HE := Lib.hid (sp_miss HS.out hlt hc)
        have HO := Lib.hid hown
        clear hc hown
        go_wp2
        go_roundw
        case rel => exact ⟨k + 1, fr, xs, by go_num, rfl, HO.out, HE.out, HB.out⟩
        case measure => simp [intOf]; omega
    · have HE := Lib.hid (sp_end HS.out hlt)
      have hks : (s.size : Int) ≤ (k : Int) := by omega
      have hfs : (fr : Int) ≤ (s.size : Int) := by omega
      go_wp2_with (at_builtin; refine wpList_append_own _ rfl (.tmp 29) (.tmp 33) 96 rfl w.heap.size 9 i0 (.string ⟨#[]⟩) 1 16 Tryz.underlying96 hi hz0 hz1 hz2 rfl (by decide) _ _ _ rfl (hown.alloc _) ⟨wr.heap.size, 0, none⟩ 1 1 [.string (s.extract fr s.size)] rfl rfl (Strs.news_one _ _ _) (by intro u hu; simp at hu; subst hu; rfl) (by have := HX.out; unfold maxLen; omega) (by have := HX.out; omega) (by simp; omega) ?_; intro v1 w1 hown1 hg1 _)
      have R := Lib.hid (Strs.push_own (x := (s.extract fr s.size).data.toList) hown HB.out (Nat.le_refl _) (by rw [sv_ext]; exact hown1) hg1)
      clear hown hown1 hg1
      go_wp2
      go_ret
      exact ⟨_, rfl, by rw [← HE.out]; exact R.out.1, R.out.2⟩
end Go.Proofs.YtindnhmigljkaaaGreatDoor.Spc

/-
  PLAIN FACTS on paths: components that are dots.
-/
namespace Go.Proofs.YtindnhmigljkaaaGreatDoor.Nt
open Go Go.RowKit
set_option linter.unusedVariables false
set_option maxRecDepth 1000000

def isdot (c : List UInt8) : Bool := c == [46] || c == [46, 46]
def kstep (k : List (List UInt8)) (c : List UInt8) : List (List UInt8) := if c = [46] then k else if c = [46, 46] then k.dropLast else k ++ [c]
def kf (l : List (List UInt8)) : List (List UInt8) := l.foldl kstep []
def fin (l : List (List UInt8)) : List (List UInt8) := if isdot (l.getD (l.length - 1) []) = true then kf l ++ [[]] else kf l
def slash (l : List (List UInt8)) : List UInt8 := l.flatMap (fun c => 47 :: c)
/-- The path without dots. -/
def pathd (l : List UInt8) : List UInt8 := slash (fin (Spc.spl 47 (l.drop 1)))
theorem take_more {l : List (List UInt8)} {k : Nat} (h : k < l.length) : l.take (k + 1) = l.take k ++ [l.getD k []] := by
  rw [List.take_succ_eq_append_getElem h, show l.getD k [] = l[k] by simp [List.getD, h]]
theorem kf_more {l : List (List UInt8)} {k : Nat} (h : k < l.length) : kf (l.take (k + 1)) = kstep (kf (l.take k)) (l.getD k []) := by
  unfold kf; rw [take_more h, List.foldl_append]; rfl
theorem kstep_len (k : List (List UInt8)) (c : List UInt8) : (kstep k c).length ≤ k.length + 1 := by
  unfold kstep; split
  · omega
  · split
    · rw [List.length_dropLast]; omega
    · simp
theorem kf_len (l : List (List UInt8)) (k : Nat) (hk : k ≤ l.length) : (kf (l.take k)).length ≤ k := by
  induction k with
  | zero => simp [kf]
  | succ k ih => rw [kf_more (by omega)]; have := kstep_len (kf (l.take k)) (l.getD k []); have := ih (by omega); omega
theorem fin_len (l : List (List UInt8)) : (fin l).length ≤ l.length + 1 := by
  have h := kf_len l l.length (Nat.le_refl _)
  rw [List.take_of_length_le (Nat.le_refl _)] at h
  unfold fin; split
  · rw [List.length_append]; simp; omega
  · omega
/-- The bytes of a list with one more a component. -/
def ws (l : List (List UInt8)) : Nat := (slash l).length
theorem ws_app (a b : List (List UInt8)) : ws (a ++ b) = ws a + ws b := by unfold ws slash; rw [List.flatMap_append, List.length_append]
theorem ws_one (c : List UInt8) : ws [c] = c.length + 1 := by unfold ws slash; simp
theorem ws_drop (l : List (List UInt8)) : ws l.dropLast ≤ ws l := by
  rcases List.eq_nil_or_concat l with rfl | ⟨a, x, rfl⟩
  · simp
  · rw [List.concat_eq_append, List.dropLast_concat, ws_app]; omega
theorem ws_kstep (k : List (List UInt8)) (c : List UInt8) : ws (kstep k c) ≤ ws k + ws [c] := by
  unfold kstep; split
  · omega
  · split
    · have := ws_drop k; omega
    · rw [ws_app]; omega
theorem ws_kf (l : List (List UInt8)) (k : Nat) (hk : k ≤ l.length) : ws (kf (l.take k)) ≤ ws (l.take k) := by
  induction k with
  | zero => simp [kf]
  | succ k ih => rw [kf_more (by omega), take_more (by omega), ws_app]; have := ws_kstep (kf (l.take k)) (l.getD k []); have := ih (by omega); omega
theorem ws_fin (l : List (List UInt8)) : ws (fin l) ≤ ws l + 1 := by
  have h := ws_kf l l.length (Nat.le_refl _)
  rw [List.take_of_length_le (Nat.le_refl _)] at h
  unfold fin; split
  · rw [ws_app, ws_one]; simp; omega
  · omega
theorem ws_push (p : List UInt8) : ∀ L : List (List UInt8), L ≠ [] → ws (Tx.push p L) = p.length + ws L
  | [], h => absurd rfl h
  | a :: r, _ => by unfold Tx.push ws slash; simp; omega
theorem ws_spl (c : UInt8) : ∀ l : List UInt8, ws (Spc.spl c l) = l.length + 1
  | [] => by simp [Spc.spl, ws_one]
  | x :: l => by
    unfold Spc.spl; split
    · rw [show ([] : List UInt8) :: Spc.spl c l = [[]] ++ Spc.spl c l from rfl, ws_app, ws_one, ws_spl c l]; simp; omega
    · rw [ws_push _ _ (Spc.spl_ne c l), ws_spl c l]; simp; omega
theorem pathd_len (l : List UInt8) : (pathd l).length ≤ l.length + 2 := by
  have h1 := ws_fin (Spc.spl 47 (l.drop 1))
  rw [ws_spl, List.length_drop] at h1
  show ws _ ≤ _; omega
/-- What stands at place k of the walk. -/
def kl (l : List (List UInt8)) (k : Nat) : List (List UInt8) := if k < l.length then kf (l.take k) else fin l
theorem kl_start {l : List (List UInt8)} (h : 0 < l.length) : kl l 0 = [] := by unfold kl; rw [if_pos h]; rfl
theorem kl_at {l : List (List UInt8)} {k : Nat} (h : k < l.length) : kl l k = kf (l.take k) := if_pos h
theorem kl_mid {l : List (List UInt8)} {k : Nat} (h : k + 1 < l.length) : kl l (k + 1) = kstep (kl l k) (l.getD k []) := by rw [kl_at h, kl_at (by omega), kf_more (by omega)]
theorem kl_last {l : List (List UInt8)} {k : Nat} (h : k + 1 = l.length) : kl l (k + 1) = if isdot (l.getD k []) = true then kstep (kl l k) (l.getD k []) ++ [[]] else kstep (kl l k) (l.getD k []) := by
  have h1 := kf_more (l := l) (k := k) (by omega)
  rw [List.take_of_length_le (by omega)] at h1
  rw [kl_at (show k < l.length by omega), ← h1]
  unfold kl fin; rw [if_neg (by omega), show l.length - 1 = k by omega]
theorem kl_all {l : List (List UInt8)} {k : Nat} (h : ¬ k < l.length) : kl l k = fin l := if_neg h
theorem kl_len (l : List (List UInt8)) (k : Nat) (hk : k ≤ l.length) : (kl l k).length ≤ l.length + 1 := by
  unfold kl; split
  · have := kf_len l k hk; omega
  · exact fin_len l
theorem kstep_dot (k : List (List UInt8)) : kstep k [46] = k := if_pos rfl
theorem kstep_two (k : List (List UInt8)) : kstep k [46, 46] = k.dropLast := by unfold kstep; rw [if_neg (by decide), if_pos rfl]
theorem kstep_other {k : List (List UInt8)} {c : List UInt8} (h1 : c ≠ [46]) (h2 : c ≠ [46, 46]) : kstep k c = k ++ [c] := by unfold kstep; rw [if_neg h1, if_neg h2]
theorem isdot_no {c : List UInt8} (h1 : c ≠ [46]) (h2 : c ≠ [46, 46]) : isdot c = false := by unfold isdot; simp [h1, h2]
theorem slash_more {l : List (List UInt8)} {k : Nat} (h : k < l.length) : slash (l.take (k + 1)) = slash (l.take k) ++ 47 :: l.getD k [] := by
  rw [take_more h]; unfold slash; rw [List.flatMap_append]; simp
theorem slash_all {l : List (List UInt8)} {k : Nat} (h : ¬ k < l.length) : slash (l.take k) = slash l := by rw [List.take_of_length_le (by omega)]
theorem slash_take (l : List (List UInt8)) (k : Nat) : (slash (l.take k)).length ≤ (slash l).length := by
  have : slash l = slash (l.take k) ++ slash (l.drop k) := by unfold slash; rw [← List.flatMap_append, List.take_append_drop]
  rw [this, List.length_append]; omega

/-! an own row of texts, one shorter -/
theorem pop_own {w : World} {B : Nat} {v : Value} {ks : List (List UInt8)} {x : List UInt8} (h : Strs.Own w B v (ks ++ [x])) : ∃ g cap, v = .slice (some ⟨g, 0, none⟩) (ks.length + 1) cap ∧ ks.length + 1 ≤ cap ∧ Strs.Own w B (.slice (some ⟨g, 0, none⟩) ks.length cap) ks := by
  have h' : w.ownsRow B 9 1 v (ks.length + 1) (Strs.svs ks ++ [Strs.sv x]) := by
    have := h; unfold Strs.Own at this; rw [List.length_append, Strs.svs_more] at this; exact this
  rcases h'.2 with ⟨rfl, h0⟩ | ⟨g, cap, cur, rfl, hg, hh, hn, hcap, hsz, ht⟩
  · omega
  · exact ⟨g, cap, rfl, hn, ownsRow_pop (by rw [Strs.svs_len, Nat.mul_one]) h'⟩
end Go.Proofs.YtindnhmigljkaaaGreatDoor.Nt
