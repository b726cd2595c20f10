/-
  PLAIN FACTS on the texts of directives.
-/
import Derived.Test.YtkmkmgbehnedoaaDir
import Derived.Test.YtkmkmgbehnedoaaJoinM
import Derived.Test.YtkmkmgbehnedoaaQuoM
namespace Go.Proofs.Ytkmkmgbehnedoaa.Dir
open Go Go.RowKit
set_option linter.unusedVariables false

def vtx (v : List UInt8) : List UInt8 := if Tx.token v then v else Tx.quo v
def dtx (d : T) : List UInt8 := if d.2.2 then d.1 ++ [61] ++ vtx d.2.1 else d.1
def dtxs (l : List T) : List (List UInt8) := l.map dtx
def fmt (l : List T) : List UInt8 := Tx.join (dtxs l)
theorem quo_len (l : List UInt8) : (Tx.quo l).length ≤ 2 * l.length + 2 := by
  unfold Tx.quo; have := Tx.flat_len l; simp only [List.length_cons, List.length_append, List.length_nil]; omega
theorem vtx_len (v : List UInt8) : (vtx v).length ≤ 2 * v.length + 2 := by
  unfold vtx; have := quo_len v; split <;> omega
theorem dtx_len (d : T) : (dtx d).length ≤ 2 * (d.1.length + d.2.1.length) + 3 := by
  unfold dtx; have := vtx_len d.2.1
  split
  · simp only [List.length_append, List.length_cons, List.length_nil]; omega
  · omega
theorem dtxs_len (l : List T) : (dtxs l).length = l.length := by unfold dtxs; simp
theorem dtxs_total (l : List T) : Strs.total (dtxs l) ≤ 4 * total l := by
  unfold Strs.total total Rec.total dtxs
  rw [List.length_map, List.map_map]
  have : (l.map ((fun x => x.length) ∘ dtx)).sum ≤ 2 * (l.map wt).sum + 3 * l.length := by
    induction l with
    | nil => simp
    | cons a r ih =>
      have h1 := dtx_len a
      simp only [List.map_cons, List.sum_cons, List.length_cons, Function.comp]
      have h2 : wt a = a.1.length + a.2.1.length := rfl
      omega
  omega
theorem dtxs_more {l : List T} {k : Nat} (h : k < l.length) : dtxs (l.take (k + 1)) = dtxs (l.take k) ++ [dtx (l.getD k nov)] := by
  unfold dtxs
  rw [List.take_succ_eq_append_getElem h, List.map_append, show l.getD k nov = l[k] by simp [List.getD, h]]; rfl
theorem mem_le {l : List T} {d : T} (h : d ∈ l) : d.1.length + d.2.1.length ≤ total l := by
  unfold total Rec.total
  induction l with
  | nil => cases h
  | cons a r ih =>
    have h2 : wt a = a.1.length + a.2.1.length := rfl
    rcases List.mem_cons.1 h with rfl | h
    · simp only [List.map_cons, List.sum_cons, List.length_cons]; omega
    · have := ih h; simp only [List.map_cons, List.sum_cons, List.length_cons]; omega
theorem at_le {l : List T} {k : Nat} (h : k < l.length) : (l.getD k nov).1.length + (l.getD k nov).2.1.length ≤ total l := mem_le (Rec.getD_mem h)
def Txt (t : List UInt8) (w : World) (e : Ending) (w' : World) : Prop := e = .returned (.string ⟨t.toArray⟩) ∧ Below w.heap.size w w'
theorem ret_txt {a b : List UInt8} (h : a = b) : Ending.returned (.string ⟨a.toArray⟩) = .returned (.string ⟨b.toArray⟩) := by rw [h]
theorem dtx_no {x y : List UInt8} : dtx (x, y, false) = x := rfl
theorem dtx_tok {x y : List UInt8} (h : Tx.token y = true) : dtx (x, y, true) = x ++ [61] ++ y := by unfold dtx vtx; simp [h]
theorem dtx_quo {x y : List UInt8} (h : Tx.token y = false) : dtx (x, y, true) = x ++ [61] ++ Tx.quo y := by unfold dtx vtx; simp [h]
end Go.Proofs.Ytkmkmgbehnedoaa.Dir
