/-
  PLAIN FACTS on the directives that are read from a text.
-/
import Derived.Test.YtindnhmigljkaaaDoorDir
import Derived.Test.YtindnhmigljkaaaDoorTxCut
import Derived.Test.YtindnhmigljkaaaDoorPairFn
namespace Go.Proofs.YtindnhmigljkaaaDoor.Dir
open Go Go.RowKit
set_option linter.unusedVariables false
set_option maxRecDepth 1000000

/-- The directive that an element is, if it is one. -/
def dread (x : List UInt8) : Option T :=
  if Tx.token (Tx.pairs x).1 then
    if (Tx.pairs x).2.2 then
      if Tx.token (Tx.pairs x).2.1 then some (Tx.lower (Tx.pairs x).1, (Tx.pairs x).2.1, true)
      else if Tx.unqOk (Tx.pairs x).2.1 then some (Tx.lower (Tx.pairs x).1, Tx.unqText (Tx.pairs x).2.1, true) else none
    else some (Tx.lower (Tx.pairs x).1, [], false)
  else none
def dparts (xs : List (List UInt8)) : List T := xs.filterMap dread
def dparse (s : List UInt8) : List T := dparts (Tx.split s)
theorem dparts_more {xs : List (List UInt8)} {k : Nat} (h : k < xs.length) : dparts (xs.take (k + 1)) = dparts (xs.take k) ++ (dread (xs.getD k [])).toList := by
  unfold dparts
  rw [List.take_succ_eq_append_getElem h, List.filterMap_append, show xs.getD k [] = xs[k] by simp [List.getD, h]]
  rw [List.filterMap_cons, List.filterMap_nil]
  cases hx : dread xs[k] <;> simp [hx]
theorem dparts_yes {xs : List (List UInt8)} {k : Nat} {d : T} (h : k < xs.length) (hd : dread (xs.getD k []) = some d) : dparts (xs.take (k + 1)) = dparts (xs.take k) ++ [d] := by rw [dparts_more h, hd]; rfl
theorem dparts_no {xs : List (List UInt8)} {k : Nat} (h : k < xs.length) (hd : dread (xs.getD k []) = none) : dparts (xs.take (k + 1)) = dparts (xs.take k) := by rw [dparts_more h, hd]; simp
theorem dparts_len (xs : List (List UInt8)) : (dparts xs).length ≤ xs.length := List.length_filterMap_le _ _
theorem tokc_low (c : UInt8) : Tx.tokc (Tx.lowc c) = Tx.tokc c := by
  have h : ∀ n : Fin 256, Tx.tokc (Tx.lowc (UInt8.ofNat n.1)) = Tx.tokc (UInt8.ofNat n.1) := by decide +kernel
  have e : UInt8.ofNat c.toNat = c := by simp
  have := h ⟨c.toNat, c.toNat_lt⟩
  rw [e] at this; exact this
theorem token_low (l : List UInt8) : Tx.token (Tx.lower l) = Tx.token l := by
  unfold Tx.token Tx.lower
  rw [List.all_map, List.length_map]
  congr 1
  congr 1
  funext c; exact tokc_low c
theorem token_head {c : UInt8} {r : List UInt8} (h : Tx.tokc c = false) : Tx.token (c :: r) = false := by unfold Tx.token; simp [h]
theorem token_nil : Tx.token [] = false := rfl
theorem quote_token (r : List UInt8) : Tx.token (34 :: r) = false := token_head (by decide)
theorem unq_head {c : UInt8} {r : List UInt8} (h : c ≠ 34) : Tx.unqOk (c :: r) = false := by unfold Tx.unqOk; simp [h]
theorem unq_empty : Tx.unqOk [] = false := rfl
theorem pairs_no {x : List UInt8} (h : (Tx.pairs x).2.2 = false) : (Tx.pairs x).2.1 = [] := by
  unfold Tx.pairs Tx.cutAt at *
  split at h
  · simp at h
  · rename_i h1; rw [if_neg h1]; rfl
/-- The parts of an element, with what dread makes of them. -/
theorem dread_eq {x a b : List UInt8} {q : Bool} (h : Tx.pairs x = (a, b, q)) : dread x = if Tx.token a then (if q then (if Tx.token b then some (Tx.lower a, b, true) else if Tx.unqOk b then some (Tx.lower a, Tx.unqText b, true) else none) else some (Tx.lower a, [], false)) else none := by
  unfold dread; rw [h]
theorem trim_len (l : List UInt8) : (Tx.trim l).length ≤ l.length := by
  obtain ⟨q, hq, _⟩ := Tx.trimr_prefix l
  obtain ⟨p, hp, _⟩ := Tx.triml_suffix (Tx.trimr l)
  have h1 := congrArg List.length hq
  have h2 := congrArg List.length hp
  rw [List.length_append] at h1 h2
  show (Tx.triml (Tx.trimr l)).length ≤ l.length
  omega
theorem pairs_len (x : List UInt8) : (Tx.pairs x).1.length ≤ x.length ∧ (Tx.pairs x).2.1.length ≤ x.length := by
  have h := Tx.cutAt_len 61 x
  unfold Tx.pairs
  exact ⟨Nat.le_trans (trim_len _) h.1, Nat.le_trans (trim_len _) h.2⟩
end Go.Proofs.YtindnhmigljkaaaDoor.Dir
