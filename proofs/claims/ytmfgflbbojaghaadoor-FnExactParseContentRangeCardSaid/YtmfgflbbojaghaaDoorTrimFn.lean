/-
  CONTRACTS of both sides' TrimText: at every text each returns it without the blanks at its beginning and its end; nothing that was there before is changed.
-/
import Derived.Test.YtmfgflbbojaghaaDoorTxMath
import Derived.Test.YtmfgflbbojaghaaDoorBase
import Derived.Test.YtmfgflbbojaghaaDoorShelf
import Derived.LoopTactic
import Derived.Outline
namespace Go.Proofs.YtmfgflbbojaghaaDoor.Tx
open Go Go.RowKit
set_option linter.unusedVariables false

def slen : Value → Nat
  | .string s => s.size
  | _ => 0
theorem ret_str {a b : List UInt8} (h : a = b) : Ending.returned (.string ⟨a.toArray⟩) = .returned (.string ⟨b.toArray⟩) := by rw [h]
theorem empty_eq {x : ByteArray} (h : x.size = 0) : x.data.toList = [] := List.eq_nil_of_length_eq_zero (by rw [Array.length_toList]; exact h)
theorem ret_trim {x : ByteArray} {a : List UInt8} (h : [] = a) (hx : x.data.toList = []) : Ending.returned (.string x) = .returned (.string ⟨a.toArray⟩) := by
  subst h
  have : x = ⟨#[]⟩ := by
    have : x.data = #[] := by simpa using hx
    cases x; simp_all
  rw [this]
theorem ret_bytes {x : ByteArray} {a : List UInt8} (h : x.data.toList = a) : Ending.returned (.string x) = .returned (.string ⟨a.toArray⟩) := by subst h; simp
theorem cut_front {x : ByteArray} {n : Nat} (h : n ≤ x.size) : (x.extract 0 n).data.toList = x.data.toList.take n := by simp
theorem cut_size {x : ByteArray} {n : Nat} (h : n ≤ x.size) : (x.extract 0 n).size = n := by simp; omega
theorem cut_one (c : UInt8) (r : List UInt8) : Value.string ((⟨(c :: r).toArray⟩ : ByteArray).extract 1 (r.length + 1)) = .string ⟨r.toArray⟩ := by
  congr 1
  have : ((⟨(c :: r).toArray⟩ : ByteArray).extract 1 (r.length + 1)).data = r.toArray := by simp
  exact ByteArray.ext this
theorem last_split {x : ByteArray} {n : Nat} (hn : x.size = n + 1) (h : n < x.size) : x.data.toList = x.data.toList.take n ++ [x[n]] := by
  have e : x.data.toList.take (n + 1) = x.data.toList := List.take_of_length_le (by rw [Array.length_toList]; have : x.data.size = x.size := rfl; omega)
  have s := List.take_succ_eq_append_getElem (l := x.data.toList) (i := n) (by rw [Array.length_toList]; exact h)
  rw [e] at s
  exact s
theorem last_no {x : ByteArray} {n : Nat} (hn : x.size = n + 1) (h : n < x.size) (hb : blk x[n] = false) : trimr x.data.toList = x.data.toList := by
  rw [last_split hn h]; exact trimr_snoc_no hb
theorem last_yes {x : ByteArray} {n : Nat} (hn : x.size = n + 1) (h : n < x.size) (hb : blk x[n] = true) : trimr x.data.toList = trimr (x.data.toList.take n) := by
  conv => lhs; rw [last_split hn h]
  exact trimr_snoc_blk hb

end Go.Proofs.YtmfgflbbojaghaaDoor.Tx
