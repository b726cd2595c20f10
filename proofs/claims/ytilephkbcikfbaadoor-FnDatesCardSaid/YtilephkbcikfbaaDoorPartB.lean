/-
  CONTRACTS AND PLAIN FACTS, several texts in one; each says in its own words what it proves.
-/
import Derived.Test.YtilephkbcikfbaaDoorPartA
import Derived.ChangeSlices
import Derived.SliceStrings
import Derived.OwnWalk
import Derived.Laws.OwnMore
import Derived.Laws.AppendOwn
import Derived.Laws.IdiomStrings
import Derived.Laws.BytesArg
set_option linter.unusedSimpArgs false
set_option linter.unusedVariables false

/-
  CONTRACT of the model's l1New: over any slice of bytes it makes a cursor in a new block of its own; nothing that was there before is changed.
-/
namespace Go.Proofs.YtilephkbcikfbaaDoor.Cur
open Go Go.RowKit
set_option linter.unusedVariables false
set_option maxRecDepth 1000000

def Made (bv : Value) (w : World) (e : Ending) (w' : World) : Prop := ∃ h : Int, e = .returned (.pointer (some ⟨w.heap.size, 0, none⟩)) ∧ w' = w.alloc (.cells #[bv, .int .i64 0, .int .i64 h] 51)

theorem new_nil (a : Option Addr) (cap : Nat) (w : World) :
    Calls Tryd.prog 15 #[.slice a 0 cap] w (Made (.slice a 0 cap) w) := by
  go_enter Tryd.func15, Tryd.ntmps15
  go_wp2
  go_loop [3, 4] (fun h i => i = .int .i64 0 ∧ ∃ x : Int, h = .int .i64 x) (fun _ i => 0)
  case atStart => exact ⟨rfl, _, rfl⟩
  case round =>
    obtain ⟨rfl, x, rfl⟩ := hrel
    go_wp2
    go_ret
    exact ⟨_, rfl, rfl⟩

theorem new_some (b off len cap : Nat) (f : Nat → Int) (w : World) (hl : len ≤ 140737488355328) (hf : ∀ j, j < len → 0 ≤ f j ∧ f j ≤ 255 ∧ w.cell? ⟨b, off + j, none⟩ = some (.int .u8 (f j))) :
    Calls Tryd.prog 15 #[.slice (some ⟨b, off, none⟩) len cap] w (Made (.slice (some ⟨b, off, none⟩) len cap) w) := by
  have HF := Lib.hid hf
  clear hf
  go_enter Tryd.func15, Tryd.ntmps15
  go_wp2
  go_loop [3, 4] (fun h i => ∃ (k : Nat) (x : Int), k ≤ len ∧ i = .int .i64 k ∧ h = .int .i64 x) (fun _ i => len - (intOf i).toNat)
  case atStart => exact ⟨0, _, Nat.zero_le _, rfl, rfl⟩
  case round =>
    obtain ⟨k, x, hk, rfl, rfl⟩ := hrel
    by_cases hlt : k < len
    · by_cases h4 : (k : Int) < 4000
      · obtain ⟨z0, z1, hc⟩ := HF.out k hlt
        go_wp2
        go_round
        case rel => exact ⟨k + 1, _, by omega, by go_num, rfl⟩
        case measure => simp [intOf]; omega
      · go_wp2
        go_ret
        exact ⟨_, rfl, rfl⟩
    · go_wp2
      go_ret
      exact ⟨_, rfl, rfl⟩

theorem new_any (B : Nat) (bv : Value) (w : World) (hby : Bytes w B bv) :
    Calls Tryd.prog 15 #[bv] w (Made bv w) := by
  rcases hby with ⟨a, cap, rfl⟩ | ⟨b, off, len, cap, f, rfl, h2, h3, h4, h5⟩
  · exact new_nil a cap w
  · exact new_some b off len cap f w h4 h5
theorem made_cur (bv : Value) (h : Int) (w : World) : CurAt (w.alloc (.cells #[bv, .int .i64 0, .int .i64 h] 51)) w.heap.size bv :=
  ⟨0, h, by omega, by show (w.heap.push _)[w.heap.size]? = _; simp⟩

theorem bytes_below {w w' : World} {B : Nat} {bv : Value} (h : Bytes w B bv) (hb : Below B w w') : Bytes w' B bv := by
  rcases h with h | ⟨b, off, len, cap, f, h1, h2, h3, h4, h5⟩
  · exact Or.inl h
  · refine Or.inr ⟨b, off, len, cap, f, h1, h2, Nat.lt_of_lt_of_le h3 hb.size, h4, fun j hj => ⟨(h5 j hj).1, (h5 j hj).2.1, ?_⟩⟩
    rw [hb.cell (p := ⟨b, off + j, none⟩) h2]
    exact (h5 j hj).2.2
theorem big_yes (a : Option Addr) (len cap : Nat) (w : World) (h : 1048576 < (len : Int)) :
    Calls Tryd.prog 4 #[.slice a len cap] w fun e w' => e = .returned (.bool true) ∧ w = w' := by
  go_enter Tryd.func4, Tryd.ntmps4
  go_wp2
  go_ret
  exact ⟨by simp, rfl⟩
theorem big_no (a : Option Addr) (len cap : Nat) (w : World) (h : ¬ 1048576 < (len : Int)) :
    Calls Tryd.prog 4 #[.slice a len cap] w fun e w' => e = .returned (.bool false) ∧ w = w' := by
  go_enter Tryd.func4, Tryd.ntmps4
  go_wp2
  go_ret
  exact ⟨by simp, rfl⟩
/-- A law's argument 'code', opened: a slice of bytes. -/
theorem open_code {H : Type} {enc : TypeId × Value → H} {W : World} {base : Nat} {v : Value} {d : DataW H} {p : List MemPlace}
    (hok : Value.okWide Tryd.prog W .any base 22 v) (h : DataW.Trod enc Tryd.prog W 0 (fun _ => true) true 22 v d p) :
    ∃ a len cap, v = .slice a len cap ∧ len ≤ maxLen ∧ (len ≤ 1048576 → Bytes W W.heap.size v) := by
  obtain ⟨a0, len, cap, rfl⟩ := WideShapes.okWide_slice Tryd.underlying22 hok
  obtain ⟨fuel, hf⟩ := h
  have c5 : Tryd.prog.cellsOf 5 = 1 := by kernel_rfl
  rcases ChangeShapes.open_ints Tryd.underlying22 Tryd.underlying5 c5 hf with ⟨hcs, hx⟩ | ⟨a, len', cap', zs, hcs, _, hl, hm, hz, hx, hcell, hwz⟩
  · simp [Value.cells] at hcs
    obtain ⟨rfl, rfl, rfl⟩ := hcs
    exact ⟨_, _, _, rfl, Nat.zero_le _, fun _ => Or.inl ⟨_, _, rfl⟩⟩
  · simp [Value.cells] at hcs
    obtain ⟨rfl, rfl, rfl⟩ := hcs
    simp only [if_true] at hz
    refine ⟨_, _, _, rfl, by omega, fun hlen => ?_⟩
    by_cases hl0 : len = 0
    · subst hl0; exact Or.inl ⟨_, _, rfl⟩
    · obtain ⟨b, off, spot⟩ := a
      have hspot : spot = none := by simpa [Addr.add] using World.cell?_spot (hcell 0 (by omega))
      subst hspot
      have hc : ∀ j, j < len → W.cell? ⟨b, off + j, none⟩ = some (.int .u8 (zs.getD j 0)) := fun j hj => by rw [← WideShapes.add_plain]; exact hcell j (by omega)
      have hbl : b < W.heap.size := by
        have h0 := hc 0 (by omega)
        rcases Nat.lt_or_ge b W.heap.size with h' | h'
        · exact h'
        · simp [World.cell?, Array.getElem?_eq_none h'] at h0
      refine Or.inr ⟨b, off, len, cap, fun j => zs.getD j 0, rfl, hbl, hbl, by omega, fun j hj => ?_⟩
      have hw := bounds_u8 (hwz (zs.getD j 0) (by
        have : zs.getD j 0 = zs[j]'(by omega) := by simp [List.getD, show j < zs.length by omega]
        rw [this]; exact List.getElem_mem _))
      exact ⟨hw.1, hw.2, hc j hj⟩
end Go.Proofs.YtilephkbcikfbaaDoor.Cur

/-
  PLAIN FACTS on slices of texts: what a slice holds (as a list of texts), how that is kept, how a slice that the call itself has built is such a one, and how one more text is put behind it.
-/
namespace Go.Proofs.YtilephkbcikfbaaDoor.Strs
open Go Go.RowKit
set_option linter.unusedVariables false
set_option maxRecDepth 1000000

theorem info_str : (Tryd.prog.info? 9).map (fun i => (i.zero, i.size, i.bytes)) = some (some (.string ⟨#[]⟩), 1, 16) := by kernel_rfl

/-- A text as a value. -/
def sv (x : List UInt8) : Value := .string ⟨x.toArray⟩
def svs (xs : List (List UInt8)) : List Value := xs.map sv
theorem svs_len (xs : List (List UInt8)) : (svs xs).length = xs.length := by unfold svs; simp
theorem svs_at {xs : List (List UInt8)} {j : Nat} (h : j < xs.length) : (svs xs)[j]? = some (sv (xs.getD j [])) := by unfold svs; simp [List.getD, h]
theorem svs_more (xs : List (List UInt8)) (x : List UInt8) : svs (xs ++ [x]) = svs xs ++ [sv x] := by unfold svs; simp
theorem svs_one (xs : List (List UInt8)) : ∀ u ∈ svs xs, u.oneCell' = true := by
  intro u hu; obtain ⟨x, _, rfl⟩ := List.mem_map.1 hu; rfl
theorem sv_one (x : List UInt8) : ∀ u ∈ [sv x], u.oneCell' = true := by intro u hu; simp at hu; subst hu; rfl

/-- The cells from (b, off) on are these texts. -/
def At (w : World) (b off : Nat) (xs : List (List UInt8)) : Prop := ∀ j, j < xs.length → w.cell? ⟨b, off + j, none⟩ = some (sv (xs.getD j []))
/-- The slice v reads as the texts xs; its cells lie below block B. -/
def Holds (w : World) (B : Nat) (v : Value) (xs : List (List UInt8)) : Prop := (xs = [] ∧ ∃ a cap, v = .slice a 0 cap) ∨ (0 < xs.length ∧ ∃ b off cap, v = .slice (some ⟨b, off, none⟩) xs.length cap ∧ b < B ∧ xs.length ≤ cap ∧ At w b off xs)

theorem lt_of_cell {w : World} {b o : Nat} {u : Value} (h : w.cell? ⟨b, o, none⟩ = some u) : b < w.heap.size := by
  rcases Nat.lt_or_ge b w.heap.size with h' | h'
  · exact h'
  · simp [World.cell?, Array.getElem?_eq_none h'] at h
theorem at_lt {w : World} {b off : Nat} {xs : List (List UInt8)} (h : At w b off xs) (h0 : 0 < xs.length) : b < w.heap.size := lt_of_cell (h 0 h0)
theorem at_below {w w' : World} {B b off : Nat} {xs : List (List UInt8)} (h : At w b off xs) (hb : Below B w w') (hlt : b < B) : At w' b off xs := fun j hj => by
  rw [hb.cell (p := ⟨b, off + j, none⟩) hlt]; exact h j hj
theorem holds_lt {w : World} {B : Nat} {v : Value} {xs : List (List UInt8)} (h : Holds w B v xs) : Holds w w.heap.size v xs := by
  rcases h with h | ⟨h0, b, off, cap, rfl, hB, hc, h1⟩
  · exact Or.inl h
  · exact Or.inr ⟨h0, b, off, cap, rfl, at_lt h1 h0, hc, h1⟩
theorem holds_more {w : World} {B B' : Nat} {v : Value} {xs : List (List UInt8)} (h : Holds w B v xs) (hB : B ≤ B') : Holds w B' v xs := by
  rcases h with h | ⟨h0, b, off, cap, rfl, h2, hc, h1⟩
  · exact Or.inl h
  · exact Or.inr ⟨h0, b, off, cap, rfl, by omega, hc, h1⟩
theorem holds_below {w w' : World} {B : Nat} {v : Value} {xs : List (List UInt8)} (h : Holds w B v xs) (hb : Below B w w') : Holds w' B v xs := by
  rcases h with h | ⟨h0, b, off, cap, rfl, hB, hc, h1⟩
  · exact Or.inl h
  · exact Or.inr ⟨h0, b, off, cap, rfl, hB, hc, at_below h1 hb hB⟩
/-- Kept where only one block of others is written. -/
theorem holds_grown {w w' : World} {B : Nat} {v : Value} {xs : List (List UInt8)} {row : Option Nat} (h : Holds w B v xs) (hg : w.grownBy w' row) (hr : ∀ k, row = some k → B ≤ k) : Holds w' B v xs := by
  rcases h with h | ⟨h0, b, off, cap, rfl, hB, hc, h1⟩
  · exact Or.inl h
  · refine Or.inr ⟨h0, b, off, cap, rfl, hB, hc, fun j hj => ?_⟩
    exact hg.cell (h1 j hj) (fun e => by have := hr b e.symm; omega)
abbrev Own (w : World) (B : Nat) (v : Value) (xs : List (List UInt8)) : Prop := w.ownsRow B 9 1 v xs.length (svs xs)
theorem own_cell {w : World} {B g cap : Nat} {xs : List (List UInt8)} {n : Nat} (h : w.ownsRow B 9 1 (.slice (some ⟨g, 0, none⟩) n cap) n (svs xs)) {j : Nat} (hj : j < n) : w.cell? ⟨g, j, none⟩ = some (sv (xs.getD j [])) := by
  have hn : xs.length = n := by have := h.1; rw [svs_len] at this; omega
  rw [h.cellAt j (by omega)]
  exact svs_at (by omega)
/-- A slice that the call has built reads as what it owns. -/
theorem own_holds {w : World} {B : Nat} {v : Value} {xs : List (List UInt8)} (h : Own w B v xs) : Holds w w.heap.size v xs := by
  have h' := h
  obtain ⟨hl, hc⟩ := h
  rcases hc with ⟨rfl, h0⟩ | ⟨g, cap, cur, rfl, hb, hg, hn, hcap, hs, ht⟩
  · have : xs = [] := List.eq_nil_of_length_eq_zero h0
    subst this; exact Or.inl ⟨rfl, _, _, rfl⟩
  · by_cases h0 : xs = []
    · subst h0; exact Or.inl ⟨rfl, _, _, rfl⟩
    · refine Or.inr ⟨List.length_pos_iff.2 h0, g, 0, cap, rfl, ?_, hn, fun j hj => ?_⟩
      · have := h'.lt g rfl; exact this.2
      · rw [Nat.zero_add]; exact own_cell h' hj
theorem news_one (w : World) (x : Value) (T : TypeId) : ∀ j u, [x][j]? = some u → (w.alloc (.cells #[x] T)).cell? ((⟨w.heap.size, 0, none⟩ : Addr).add j) = some u := by
  intro j u hj
  match j, hj with
  | 0, hj =>
    simp at hj; subst hj
    show World.cell? _ ⟨w.heap.size, 0 + 0, none⟩ = _
    rw [World.cell?_alloc_new]; simp
/-- One more text behind a slice that the call has built. -/
theorem push_own {B : Nat} {a w w1 : World} {v v' : Value} {xs : List (List UInt8)} {x : List UInt8} {o : Obj} (hown : Own w B v xs) (hb : Below a.heap.size a w) (hB : a.heap.size ≤ B)
    (h' : w1.ownsRow B 9 1 v' (xs.length + 1) (svs xs ++ [sv x])) (hg : (w.alloc o).grownBy w1 v.ownBlock) :
    Own w1 B v' (xs ++ [x]) ∧ Below a.heap.size a w1 := by
  refine ⟨by show w1.ownsRow B 9 1 v' (xs ++ [x]).length (svs (xs ++ [x])); rw [List.length_append, svs_more]; exact h', (hb.alloc hb.size o).grown hg (by have := hb.size; simp; omega) (fun k e => Nat.le_trans hB (hown.lt k e).1)⟩
theorem own_lit_nil (w : World) : Own (w.alloc (.cells #[] 9)) w.heap.size (.slice (some ⟨w.heap.size, 0, none⟩) 0 0) [] := World.ownsRow_lit w #[] 0 (Nat.le_refl _) (by decide) rfl
end Go.Proofs.YtilephkbcikfbaaDoor.Strs

/-
  CONTRACT of the model's draw of a text out of a list (l1Str): it answers one of the list's texts, writes into the cursor alone, and leaves it a cursor over the same bytes.
-/
namespace Go.Proofs.YtilephkbcikfbaaDoor.Cur
open Go Go.RowKit
set_option linter.unusedVariables false
set_option maxRecDepth 1000000

/-- How a draw of a text ends. -/
def DrawnS (P : List UInt8 → Prop) (c : Nat) (bv : Value) (w : World) (e : Ending) (w' : World) : Prop :=
  ∃ x : List UInt8, P x ∧ e = .returned (.string ⟨x.toArray⟩) ∧ CurAt w' c bv ∧ w.grownBy w' (some c)

theorem str_any (c B : Nat) (bv : Value) (b : Nat) (cap : Nat) (xs : List (List UInt8)) (w : World) (hcur : CurAt w c bv) (hby : Bytes w B bv) (hB : B ≤ c)
    (hb : b ≠ c) (hc : Strs.At w b 0 xs) (h1 : 1 ≤ xs.length) (hl : xs.length ≤ 1000000) :
    Calls Tryd.prog 27 #[.pointer (some ⟨c, 0, none⟩), .slice (some ⟨b, 0, none⟩) xs.length cap] w (DrawnS (· ∈ xs) c bv w) := by
  have HF := Lib.hid hc
  clear hc
  go_enter Tryd.func27, Tryd.ntmps27
  go_wp2_with (fail)
  go_at_call 23
  refine (below_any c B bv _ _ hcur hby hB (by omega)).mono ?_
  rintro e w1 ⟨x, hx, rfl, hc1, hg1⟩
  obtain ⟨j, rfl, hj⟩ : ∃ j : Nat, x = (j : Int) ∧ j < xs.length := ⟨x.toNat, by have := hx.1; omega, by have := hx.1; have := hx.2; omega⟩
  have hcell : w1.cell? ⟨b, j, none⟩ = some (Strs.sv (xs.getD j [])) := hg1.cell (by have := HF.out j hj; rwa [Nat.zero_add] at this) (by simp; omega)
  have HM : Hid (xs.getD j [] ∈ xs) := Lib.hid (by rw [show xs.getD j [] = xs[j] by simp [List.getD, hj]]; exact List.getElem_mem _)
  generalize xs.getD j [] = y at hcell HM
  unfold Strs.sv at hcell
  clear hx
  go_wp2
  go_ret
  exact ⟨_, HM.out, rfl, hc1, hg1⟩
theorem lits_str (w : World) (xs : List (List UInt8)) (T : TypeId) : Strs.At (w.alloc (.cells ((Strs.svs xs).toArray) T)) w.heap.size 0 xs := by
  intro j hj
  rw [Nat.zero_add, World.cell?_alloc_new]
  have := Strs.svs_at hj
  simpa using this
/-- l1Str over a list that was just written out. -/
theorem str_lits (c B : Nat) (bv : Value) (xs : List (List UInt8)) (n : Nat) (hn : n = xs.length) (w : World) (hcur : CurAt w c bv) (hby : Bytes w B bv) (hB : B ≤ c) (h1 : 1 ≤ xs.length) (hl : xs.length ≤ 1000000) (T : TypeId) :
    Calls Tryd.prog 27 #[.pointer (some ⟨c, 0, none⟩), .slice (some ⟨w.heap.size, 0, none⟩) n n] (w.alloc (.cells ((Strs.svs xs).toArray) T))
      (DrawnS (· ∈ xs) c bv w) := by
  subst hn
  refine (str_any c B bv w.heap.size xs.length xs _ (cur_alloc hcur _) (bytes_alloc hby _) hB (by have := cur_lt hcur; omega) (lits_str w xs T) h1 hl).mono ?_
  rintro e w1 ⟨x, hx, rfl, hc1, hg1⟩
  exact ⟨_, hx, rfl, hc1, gb_trans (World.grownBy_alloc _ _ _) hg1⟩
theorem drawnS_mono {P Q : List UInt8 → Prop} {c : Nat} {bv : Value} {w : World} {e : Ending} {w' : World} (h : DrawnS P c bv w e w') (hpq : ∀ x, P x → Q x) : DrawnS Q c bv w e w' := by
  obtain ⟨x, hx, h⟩ := h; exact ⟨x, hpq x hx, h⟩
end Go.Proofs.YtilephkbcikfbaaDoor.Cur

/-
  PLAIN FACTS on slices of bytes that a call makes out of a text, or builds byte by byte, and on reading them back as a text.
-/
namespace Go.Proofs.YtilephkbcikfbaaDoor.Bys
open Go Go.RowKit
set_option linter.unusedVariables false
set_option maxRecDepth 1000000

theorem info_byte : (Tryd.prog.info? 5).map (fun i => (i.zero, i.size, i.bytes)) = some (some (.int .u8 0), 1, 1) := by kernel_rfl
def bvl (c : UInt8) : Value := .int .u8 (c.toNat : Int)
def bvs (l : List UInt8) : List Value := l.map bvl
theorem bvs_len (l : List UInt8) : (bvs l).length = l.length := by unfold bvs; simp
theorem bvs_more (l : List UInt8) (c : UInt8) : bvs (l ++ [c]) = bvs l ++ [bvl c] := by unfold bvs; simp
theorem bvl_one (c : UInt8) : ∀ u ∈ [bvl c], u.oneCell' = true := by intro u hu; simp at hu; subst hu; rfl
theorem ret_str {a b : List UInt8} (h : a = b) : Ending.returned (.string ⟨a.toArray⟩) = .returned (.string ⟨b.toArray⟩) := by rw [h]

/-- Block g holds these bytes, from its head on; they can be written. -/
def BAt (w : World) (g : Nat) (l : List UInt8) : Prop := g < w.heap.size ∧ ∀ j, j < l.length → w.cell? ⟨g, j, none⟩ = some (bvl (l.getD j 0)) ∧ w.frozen? ⟨g, j, none⟩ = false
theorem of_string (s : ByteArray) (w : World) : ∃ cap w1, (convert 9 22 (.string s)).run Tryd.prog w = .ok (.slice (some ⟨w.heap.size, 0, none⟩) s.size cap) w1 ∧ BAt w1 w.heap.size s.data.toList ∧ Below w.heap.size w w1 := by
  refine ⟨_, _, run_bytes_of_string w 9 22 5 s Tryd.underlying9 Tryd.underlying22 Tryd.underlying5, ⟨by simp, fun j hj => ?_⟩, (Below.refl _ _).drew.alloc (Nat.le_refl _) _⟩
  have hj' : j < s.data.size := by simpa using hj
  have hc := World.cell?_alloc_mark w.drew (bytesRow s (grownCap w s.size 0 5)) 5 ((bytesRow s (grownCap w s.size 0 5)).size, (bytesRow s (grownCap w s.size 0 5)).size + 1) j
  have hf := World.frozen?_alloc_mark w.drew (bytesRow s (grownCap w s.size 0 5)) 5 (bytesRow s (grownCap w s.size 0 5)).size ((bytesRow s (grownCap w s.size 0 5)).size + 1) j
  have hsz : j < (bytesRow s (grownCap w s.size 0 5)).size := by unfold bytesRow; rw [Array.size_append, Array.size_map]; omega
  refine ⟨?_, ?_⟩
  · refine (hc : _).trans ?_
    rw [bytesRow_at s _ j hj']
    have : s.data.toList.getD j 0 = s.data[j] := by simp [List.getD, Array.getElem?_eq_getElem hj']
    rw [this]; rfl
  · refine (hf : _).trans ?_
    simp; omega
theorem back (w : World) (g cap : Nat) (l : List UInt8) (h : BAt w g l) : (convert 22 9 (.slice (some ⟨g, 0, none⟩) l.length cap)).run Tryd.prog w = .ok (.string ⟨l.toArray⟩) w := by
  refine run_convert_bytes_back (P := Tryd.prog) w 22 9 5 ⟨g, 0, none⟩ cap l Tryd.underlying22 Tryd.underlying5 Tryd.underlying9 (fun j hj => ?_)
  rw [WideShapes.add_plain, Nat.zero_add, (h.2 j hj).1]
  simp [List.getD, hj, bvl]
theorem bat_set {w : World} {g k : Nat} {l : List UInt8} (c : UInt8) (h : BAt w g l) (hk : k < l.length) : BAt (w.setCell ⟨g, k, none⟩ (bvl c)) g (l.set k c) := by
  refine ⟨by simpa [World.setCell] using h.1, fun j hj => ?_⟩
  rw [List.length_set] at hj
  rw [World.frozen?_setCell]
  refine ⟨?_, (h.2 j hj).2⟩
  by_cases e : j = k
  · subst e
    rw [World.cell?_setCell_same' _ _ _ (by rw [(h.2 j hj).1]; rfl)]
    simp [List.getD, hj]
  · rw [World.cell?_setCell_other _ _ _ _ (by intro h'; apply e; injection h' with _ h2; exact h2.symm)]
    rw [(h.2 j hj).1]
    simp [List.getD, hj, List.getElem?_set, show ¬ k = j from fun h' => e h'.symm]
theorem bat_below {w w' : World} {B g : Nat} {l : List UInt8} (h : BAt w g l) (hb : Below B w w') (hg : g < B) : BAt w' g l :=
  ⟨Nat.lt_of_lt_of_le h.1 hb.size, fun j hj => ⟨(hb.cell (p := ⟨g, j, none⟩) hg).trans (h.2 j hj).1, (hb.frozen (p := ⟨g, j, none⟩) hg).trans (h.2 j hj).2⟩⟩
theorem bat_drew {w : World} {g : Nat} {l : List UInt8} (h : BAt w g l) : BAt w.drew g l := h
theorem below_set {B : Nat} {a w : World} {g k : Nat} (u : Value) (h : Below B a w) (hg : B ≤ g) : Below B a (w.setCell ⟨g, k, none⟩ u) := h.setCell hg _

/-! bytes put one behind another -/
abbrev Own (w : World) (B : Nat) (v : Value) (l : List UInt8) : Prop := w.ownsRow B 5 1 v l.length (bvs l)
theorem news_one (w : World) (x : Value) (T : TypeId) : ∀ j u, [x][j]? = some u → (w.alloc (.cells #[x] T)).cell? ((⟨w.heap.size, 0, none⟩ : Addr).add j) = some u := by
  intro j u hj
  match j, hj with
  | 0, hj =>
    simp at hj; subst hj
    show World.cell? _ ⟨w.heap.size, 0 + 0, none⟩ = _
    rw [World.cell?_alloc_new]; simp
theorem push_own {B : Nat} {a w w1 : World} {v v' : Value} {l : List UInt8} {c : UInt8} {o : Obj} (hown : Own w B v l) (hb : Below a.heap.size a w) (hB : a.heap.size ≤ B)
    (h' : w1.ownsRow B 5 1 v' (l.length + 1) (bvs l ++ [bvl c])) (hg : (w.alloc o).grownBy w1 v.ownBlock) :
    Own w1 B v' (l ++ [c]) ∧ Below a.heap.size a w1 := by
  refine ⟨by show w1.ownsRow B 5 1 v' (l ++ [c]).length (bvs (l ++ [c])); rw [List.length_append, bvs_more]; exact h', (hb.alloc hb.size o).grown hg (by have := hb.size; simp; omega) (fun k e => Nat.le_trans hB (hown.lt k e).1)⟩
theorem own_lit_nil (w : World) : Own (w.alloc (.cells #[] 5)) w.heap.size (.slice (some ⟨w.heap.size, 0, none⟩) 0 0) [] := World.ownsRow_lit w #[] 0 (Nat.le_refl _) (by decide) rfl
theorem own_lit_one (w : World) (c : UInt8) : Own (w.alloc (.cells #[bvl c] 5)) w.heap.size (.slice (some ⟨w.heap.size, 0, none⟩) 1 1) [c] := World.ownsRow_lit w #[bvl c] 1 (Nat.le_refl _) (by decide) rfl
/-- A slice of bytes that the call has built, read as a text. -/
theorem own_str {w : World} {B : Nat} {v : Value} {l : List UInt8} (h : Own w B v l) : (convert 22 9 v).run Tryd.prog w = .ok (.string ⟨l.toArray⟩) w := by
  have h' := h
  rcases h.2 with ⟨rfl, h0⟩ | ⟨g, cap, cur, rfl, _⟩
  · have : l = [] := List.eq_nil_of_length_eq_zero (by omega)
    subst this
    exact run_convert_bytes_nil w 22 5 Tryd.underlying22 Tryd.underlying5 0 0 9 Tryd.underlying9
  · refine run_convert_bytes_back (P := Tryd.prog) w 22 9 5 ⟨g, 0, none⟩ cap l Tryd.underlying22 Tryd.underlying5 Tryd.underlying9 (fun j hj => ?_)
    rw [WideShapes.add_plain, Nat.zero_add, h'.cellAt j (by omega)]
    simp [bvs, hj, bvl]
end Go.Proofs.YtilephkbcikfbaaDoor.Bys
