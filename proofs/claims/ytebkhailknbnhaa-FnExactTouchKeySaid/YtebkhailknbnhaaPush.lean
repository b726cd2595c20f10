/-
  PLAIN FACTS on building a slice of integers one by one, and on the bytes of a text as integers.
-/
import Derived.Test.YtebkhailknbnhaaNums
import Derived.Laws.AppendOwn
import Derived.OwnWalk
namespace Go.Proofs.Ytebkhailknbnhaa.Nums
open Go Go.RowKit
set_option linter.unusedVariables false
set_option maxRecDepth 1000000

theorem news_one (w : World) (x : Value) (T : TypeId) : ∀ j u, [x][j]? = some u → (w.alloc (.cells #[x] T)).cell? ((⟨w.heap.size, 0, none⟩ : Addr).add j) = some u := by
  intro j u hj
  match j, hj with
  | 0, hj =>
    simp at hj; subst hj
    show World.cell? _ ⟨w.heap.size, 0 + 0, none⟩ = _
    rw [World.cell?_alloc_new]; simp
theorem one_cell (z : Int) (k : IntKind) : ∀ u ∈ [Value.int k z], u.oneCell' = true := by
  intro u hu; simp at hu; subst hu; rfl
/-- One more integer behind a slice that the call has built. -/
theorem push_own {B : Nat} {a w w1 : World} {T : TypeId} {v v' : Value} {xs : List Int} {z : Int} {o : Obj} (hown : w.ownsRow B T 1 v xs.length (xs.map (Value.int .i64))) (hb : Below a.heap.size a w) (hB : a.heap.size ≤ B)
    (h' : w1.ownsRow B T 1 v' (xs.length + 1) (xs.map (Value.int .i64) ++ [.int .i64 z])) (hg : (w.alloc o).grownBy w1 v.ownBlock) :
    w1.ownsRow B T 1 v' (xs ++ [z]).length ((xs ++ [z]).map (Value.int .i64)) ∧ Below a.heap.size a w1 := by
  refine ⟨by rw [List.length_append, List.map_append]; exact h', (hb.alloc hb.size o).grown hg (by have := hb.size; simp; omega) (fun k e => Nat.le_trans hB (hown.lt k e).1)⟩

/-- Integers put behind a slice of integers that the call has built, by an operation that stands behind '&&' and whose guard says yes. -/
theorem ints_on (w : World) {ops : Array Oper} {rest : List Oper} {o : Oper} {a : Act} {Q : Exit → Act → World → Prop} {p q : Operand} (yes : Region.wanted o (yielded ops a.tmps) = true)
    (op : o.op = .call { callee := .builtin .append, args := #[p, q], argTypes := #[22, 22] }) {B g m c : Nat} {v : Value} {xs ys : List Int}
    (hp : a.eval p = v) (own : w.ownsRow B 3 1 v xs.length (xs.map (Value.int .i64))) (hq : a.eval q = .slice (some ⟨g, 0, none⟩) m c) (len : ys.length = m) (cells : At w g 0 ys)
    (small : xs.length + m ≤ 1000000) (new : B ≤ w.heap.size)
    (next : ∀ u w1, w1.ownsRow B 3 1 u (xs.length + m) (xs.map (Value.int .i64) ++ ys.map (Value.int .i64)) → w.grownBy w1 v.ownBlock → wpList Try.prog ops Q rest (a.put o.dst u) w1) :
    wpList Try.prog ops Q (o :: rest) a w := by
  obtain ⟨i0, hi, hz0, hz1, hz2⟩ := info_parts info_int
  refine wpList_step fun K hK => ?_
  rw [if_pos yes]
  refine wp_append_own w p q 22 op B 3 i0 (.int .i64 0) 1 8 Try.underlying22 hi hz0 hz1 hz2 rfl (by decide) v xs.length (xs.map (Value.int .i64)) hp own ⟨g, 0, none⟩ m c (ys.map (Value.int .i64)) hq (by simp [len]) (fun j u hj => ?_)
    (ints_oneCell _ _) (by unfold maxLen; omega) (by omega) new fun u w1 h1 h2 _ => hK _ _ (next u w1 h1 h2)
  have hl : j < ys.length := by
    rcases Nat.lt_or_ge j ys.length with h | h
    · exact h
    · rw [List.getElem?_eq_none (by simpa using h)] at hj; cases hj
  rw [WideShapes.add_plain, cells j hl]
  simp [hl] at hj
  rw [← hj]; simp [List.getD, hl]

/-- The bytes of a text as integers. -/
def bytes (s : ByteArray) : List Int := s.data.toList.map (fun c => (c.toNat : Int))
theorem bytes_len (s : ByteArray) : (bytes s).length = s.size := by unfold bytes; rw [List.length_map]; exact Array.length_toList
theorem bytes_getD {s : ByteArray} {k : Nat} (h : k < s.size) : (bytes s).getD k 0 = (s[k].toNat : Int) := by
  have hk : k < s.data.toList.length := by rw [Array.length_toList]; exact h
  simp only [bytes, List.getD, List.getElem?_map, List.getElem?_eq_getElem hk, Option.map_some, Option.getD_some]
  rfl
theorem bytes_wf (s : ByteArray) : Wf (bytes s) := by
  intro n hn
  obtain ⟨c, _, rfl⟩ := List.mem_map.1 hn
  have := c.toNat_lt
  exact Go.WalkArith.wf_i64 ⟨by omega, by omega⟩
theorem take_more {zs : List Int} {k : Nat} (h : k < zs.length) : zs.take (k + 1) = zs.take k ++ [zs.getD k 0] := by
  rw [List.take_succ_eq_append_getElem h]; simp [List.getD, h]
/-- A number, and behind it the first k of a text's bytes. -/
def txt (z : Int) (s : ByteArray) (k : Nat) : List Int := z :: (bytes s).take k
theorem txt_zero (z : Int) (s : ByteArray) : txt z s 0 = [z] := by unfold txt; rw [List.take_zero]
theorem txt_more {z : Int} {s : ByteArray} {k : Nat} (h : k < s.size) : txt z s (k + 1) = txt z s k ++ [(s[k].toNat : Int)] := by
  unfold txt; rw [take_more (by rw [bytes_len]; exact h), bytes_getD h]; rfl
theorem txt_all (z : Int) (s : ByteArray) {k : Nat} (h : k = s.size) : txt z s k = z :: bytes s := by
  unfold txt; rw [List.take_of_length_le (by rw [bytes_len]; omega)]
theorem txt_len {z : Int} {s : ByteArray} {k : Nat} (h : k ≤ s.size) : (txt z s k).length = k + 1 := by
  unfold txt; rw [List.length_cons, List.length_take, bytes_len]; omega
theorem text_wf {z : Int} (s : ByteArray) (h : (Lit.int .i64 z).wf = true) : Wf (z :: bytes s) := by
  intro n hn
  rcases List.mem_cons.1 hn with rfl | hn
  · exact h
  · exact bytes_wf s n hn
theorem text_len (z : Int) (s : ByteArray) : (z :: bytes s).length = s.size + 1 := by rw [List.length_cons, bytes_len]
end Go.Proofs.Ytebkhailknbnhaa.Nums
