/-
  PLAIN FACTS on paths: components that are dots.
-/
import Derived.Test.YtkedndamkjnmkaaGreatDoorNtM
import Derived.Test.YtkedndamkjnmkaaGreatDoorSpc
import Derived.Test.YtkedndamkjnmkaaGreatDoorStrTot
import Derived.WalkSmall
namespace Go.Proofs.YtkedndamkjnmkaaGreatDoor.Nt
open Go Go.RowKit
set_option linter.unusedVariables false
set_option maxRecDepth 1000000

def isdot (c : List UInt8) : Bool := c == [46] || c == [46, 46]
def kstep (k : List (List UInt8)) (c : List UInt8) : List (List UInt8) := if c = [46] then k else if c = [46, 46] then k.dropLast else k ++ [c]
def kf (l : List (List UInt8)) : List (List UInt8) := l.foldl kstep []
def fin (l : List (List UInt8)) : List (List UInt8) := if isdot (l.getD (l.length - 1) []) = true then kf l ++ [[]] else kf l
def slash (l : List (List UInt8)) : List UInt8 := l.flatMap (fun c => 47 :: c)
/-- The path without dots. -/
def pathd (l : List UInt8) : List UInt8 := slash (fin (Spc.spl 47 (l.drop 1)))
theorem take_more {l : List (List UInt8)} {k : Nat} (h : k < l.length) : l.take (k + 1) = l.take k ++ [l.getD k []] := by
  rw [List.take_succ_eq_append_getElem h, show l.getD k [] = l[k] by simp [List.getD, h]]
theorem kf_more {l : List (List UInt8)} {k : Nat} (h : k < l.length) : kf (l.take (k + 1)) = kstep (kf (l.take k)) (l.getD k []) := by
  unfold kf; rw [take_more h, List.foldl_append]; rfl
theorem kstep_len (k : List (List UInt8)) (c : List UInt8) : (kstep k c).length ≤ k.length + 1 := by
  unfold kstep; split
  · omega
  · split
    · rw [List.length_dropLast]; omega
    · simp
theorem kf_len (l : List (List UInt8)) (k : Nat) (hk : k ≤ l.length) : (kf (l.take k)).length ≤ k := by
  induction k with
  | zero => simp [kf]
  | succ k ih => rw [kf_more (by omega)]; have := kstep_len (kf (l.take k)) (l.getD k []); have := ih (by omega); omega
theorem fin_len (l : List (List UInt8)) : (fin l).length ≤ l.length + 1 := by
  have h := kf_len l l.length (Nat.le_refl _)
  rw [List.take_of_length_le (Nat.le_refl _)] at h
  unfold fin; split
  · rw [List.length_append]; simp; omega
  · omega
/-- The bytes of a list with one more a component. -/
def ws (l : List (List UInt8)) : Nat := (slash l).length
theorem ws_app (a b : List (List UInt8)) : ws (a ++ b) = ws a + ws b := by unfold ws slash; rw [List.flatMap_append, List.length_append]
theorem ws_one (c : List UInt8) : ws [c] = c.length + 1 := by unfold ws slash; simp
theorem ws_drop (l : List (List UInt8)) : ws l.dropLast ≤ ws l := by
  rcases List.eq_nil_or_concat l with rfl | ⟨a, x, rfl⟩
  · simp
  · rw [List.concat_eq_append, List.dropLast_concat, ws_app]; omega
theorem ws_kstep (k : List (List UInt8)) (c : List UInt8) : ws (kstep k c) ≤ ws k + ws [c] := by
  unfold kstep; split
  · omega
  · split
    · have := ws_drop k; omega
    · rw [ws_app]; omega
theorem ws_kf (l : List (List UInt8)) (k : Nat) (hk : k ≤ l.length) : ws (kf (l.take k)) ≤ ws (l.take k) := by
  induction k with
  | zero => simp [kf]
  | succ k ih => rw [kf_more (by omega), take_more (by omega), ws_app]; have := ws_kstep (kf (l.take k)) (l.getD k []); have := ih (by omega); omega
theorem ws_fin (l : List (List UInt8)) : ws (fin l) ≤ ws l + 1 := by
  have h := ws_kf l l.length (Nat.le_refl _)
  rw [List.take_of_length_le (Nat.le_refl _)] at h
  unfold fin; split
  · rw [ws_app, ws_one]; simp; omega
  · omega
theorem ws_push (p : List UInt8) : ∀ L : List (List UInt8), L ≠ [] → ws (Tx.push p L) = p.length + ws L
  | [], h => absurd rfl h
  | a :: r, _ => by unfold Tx.push ws slash; simp; omega
theorem ws_spl (c : UInt8) : ∀ l : List UInt8, ws (Spc.spl c l) = l.length + 1
  | [] => by simp [Spc.spl, ws_one]
  | x :: l => by
    unfold Spc.spl; split
    · rw [show ([] : List UInt8) :: Spc.spl c l = [[]] ++ Spc.spl c l from rfl, ws_app, ws_one, ws_spl c l]; simp; omega
    · rw [ws_push _ _ (Spc.spl_ne c l), ws_spl c l]; simp; omega
theorem pathd_len (l : List UInt8) : (pathd l).length ≤ l.length + 2 := by
  have h1 := ws_fin (Spc.spl 47 (l.drop 1))
  rw [ws_spl, List.length_drop] at h1
  show ws _ ≤ _; omega
/-- What stands at place k of the walk. -/
def kl (l : List (List UInt8)) (k : Nat) : List (List UInt8) := if k < l.length then kf (l.take k) else fin l
theorem kl_start {l : List (List UInt8)} (h : 0 < l.length) : kl l 0 = [] := by unfold kl; rw [if_pos h]; rfl
theorem kl_at {l : List (List UInt8)} {k : Nat} (h : k < l.length) : kl l k = kf (l.take k) := if_pos h
theorem kl_mid {l : List (List UInt8)} {k : Nat} (h : k + 1 < l.length) : kl l (k + 1) = kstep (kl l k) (l.getD k []) := by rw [kl_at h, kl_at (by omega), kf_more (by omega)]
theorem kl_last {l : List (List UInt8)} {k : Nat} (h : k + 1 = l.length) : kl l (k + 1) = if isdot (l.getD k []) = true then kstep (kl l k) (l.getD k []) ++ [[]] else kstep (kl l k) (l.getD k []) := by
  have h1 := kf_more (l := l) (k := k) (by omega)
  rw [List.take_of_length_le (by omega)] at h1
  rw [kl_at (show k < l.length by omega), ← h1]
  unfold kl fin; rw [if_neg (by omega), show l.length - 1 = k by omega]
theorem kl_all {l : List (List UInt8)} {k : Nat} (h : ¬ k < l.length) : kl l k = fin l := if_neg h
theorem kl_len (l : List (List UInt8)) (k : Nat) (hk : k ≤ l.length) : (kl l k).length ≤ l.length + 1 := by
  unfold kl; split
  · have := kf_len l k hk; omega
  · exact fin_len l
theorem kstep_dot (k : List (List UInt8)) : kstep k [46] = k := if_pos rfl
theorem kstep_two (k : List (List UInt8)) : kstep k [46, 46] = k.dropLast := by unfold kstep; rw [if_neg (by decide), if_pos rfl]
theorem kstep_other {k : List (List UInt8)} {c : List UInt8} (h1 : c ≠ [46]) (h2 : c ≠ [46, 46]) : kstep k c = k ++ [c] := by unfold kstep; rw [if_neg h1, if_neg h2]
theorem isdot_no {c : List UInt8} (h1 : c ≠ [46]) (h2 : c ≠ [46, 46]) : isdot c = false := by unfold isdot; simp [h1, h2]
theorem slash_more {l : List (List UInt8)} {k : Nat} (h : k < l.length) : slash (l.take (k + 1)) = slash (l.take k) ++ 47 :: l.getD k [] := by
  rw [take_more h]; unfold slash; rw [List.flatMap_append]; simp
theorem slash_all {l : List (List UInt8)} {k : Nat} (h : ¬ k < l.length) : slash (l.take k) = slash l := by rw [List.take_of_length_le (by omega)]
theorem slash_take (l : List (List UInt8)) (k : Nat) : (slash (l.take k)).length ≤ (slash l).length := by
  have : slash l = slash (l.take k) ++ slash (l.drop k) := by unfold slash; rw [← List.flatMap_append, List.take_append_drop]
  rw [this, List.length_append]; omega

/-! an own row of texts, one shorter -/
theorem pop_own {w : World} {B : Nat} {v : Value} {ks : List (List UInt8)} {x : List UInt8} (h : Strs.Own w B v (ks ++ [x])) : ∃ g cap, v = .slice (some ⟨g, 0, none⟩) (ks.length + 1) cap ∧ ks.length + 1 ≤ cap ∧ Strs.Own w B (.slice (some ⟨g, 0, none⟩) ks.length cap) ks := by
  have h' : w.ownsRow B 9 1 v (ks.length + 1) (Strs.svs ks ++ [Strs.sv x]) := by
    have := h; unfold Strs.Own at this; rw [List.length_append, Strs.svs_more] at this; exact this
  rcases h'.2 with ⟨rfl, h0⟩ | ⟨g, cap, cur, rfl, hg, hh, hn, hcap, hsz, ht⟩
  · omega
  · exact ⟨g, cap, rfl, hn, ownsRow_pop (by rw [Strs.svs_len, Nat.mul_one]) h'⟩
end Go.Proofs.YtkedndamkjnmkaaGreatDoor.Nt
