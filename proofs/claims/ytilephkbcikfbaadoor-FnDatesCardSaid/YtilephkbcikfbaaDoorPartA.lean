/-
  CONTRACTS AND PLAIN FACTS, several texts in one; each says in its own words what it proves.
-/
import Derived.Test.YtilephkbcikfbaaDoorRows
import Derived.WalkKit
import Derived.ProofKit
import Derived.OpenShut
import Derived.Lib.Hide
import Derived.Below
import Derived.ChangeSame
import Derived.Sort.Grow
import Derived.Deep.Draws
import Derived.RegionTactic
import Derived.ChangeAlike
import Derived.OwnWalk
set_option linter.unusedSimpArgs false
set_option linter.unusedVariables false

/-
  SMALL FACTS that the proofs of this seat share: what a new world keeps of an older one, and the last step of a law's row where the world is known to be as it was below its old end.
-/
namespace Go.Proofs.YtilephkbcikfbaaDoor.Base
open Go Go.RowKit Go.WideShapes Go.ChangeShapes
set_option linter.unusedVariables false
set_option maxRecDepth 1000000

/-- Every old cell and every old mark reads as before. -/
theorem bcell {W w1 : World} (hb : Below W.heap.size W w1) : (∀ b o, b < W.heap.size → w1.cell? ⟨b, o, none⟩ = W.cell? ⟨b, o, none⟩) ∧ (∀ b o, b < W.heap.size → w1.frozen? ⟨b, o, none⟩ = W.frozen? ⟨b, o, none⟩) :=
  ⟨fun b o h => hb.cell (p := ⟨b, o, none⟩) h, fun b o h => hb.frozen (p := ⟨b, o, none⟩) h⟩
/-- Two steps, each of which leaves what was before it. -/
theorem then_below {a b c : World} (h : Below a.heap.size a b) (k : Below b.heap.size b c) : Below a.heap.size a c := h.trans (k.mono h.size)
/-- A package-level variable keeps its cells. -/
theorem var_below {P : Program} {W w1 : World} {name : String} {cs : Array Value} (h : W.var? P name = some cs) (hb : Below W.heap.size W w1) : w1.var? P name = some cs := by
  unfold World.var? at *
  cases hg : P.globalNamed name with
  | none => rw [hg] at h; simp at h
  | some g =>
    rw [hg] at h
    simp only [Option.bind_some] at h ⊢
    have hlt : g < W.heap.size := by
      rcases Nat.lt_or_ge g W.heap.size with h' | h'
      · exact h'
      · rw [Array.getElem?_eq_none h'] at h; simp at h
    rw [hb.block g hlt]
    exact h
/-- Draws, and then new blocks at the end. -/
theorem below_grow_drewN (w : World) (k : Nat) (os : Array Obj) : Below w.heap.size w (Sort.grow (w.drewN k) os) := by
  refine ⟨rfl, rfl, rfl, ?_, fun i hi => ?_⟩
  · show w.heap.size ≤ (w.heap ++ os).size; rw [Array.size_append]; omega
  · show (w.heap ++ os)[i]? = w.heap[i]?; rw [Array.getElem?_append_left hi]

section
variable {H : Type} {enc : TypeId × Value → H} {P : Program}
/-- The row's last step, where of the world behind the call only 'Below' is known. -/
theorem post_below {f : Func} {s : ChangeSpec} {apart fresh handsOn again : Bool} {W W' : World} {args : Array Value} {v : Value} {ds gs : List (DataW H)} {before pa pv : List MemPlace}
    (hW : DataW.Whole enc P f.params.toList s.vars apart W args.toList ds gs before)
    (hres : ∀ (b : Nat) (sp : Nat → Bool) (hd : Bool), DataW.TrodAll enc P W' b sp hd f.resultTypes.toList (v.resultList f.resultTypes.size) (s.fn H (ds ++ gs)).results [])
    (hargs : ∀ sp : Nat → Bool, (∀ p ∈ before, sp p.block = true) → DataW.TrodAll enc P W' 0 sp true f.params.toList args.toList (s.fn H (ds ++ gs)).args pa)
    (hvars : ∀ sp : Nat → Bool, (∀ p ∈ before, sp p.block = true) → DataW.TrodVars enc P W' sp s.vars (s.fn H (ds ++ gs)).vars pv)
    (hps : before = pa ++ pv) (hb : Below W.heap.size W W')
    (hok : ∀ (j : Nat) (t : TypeId) (r : Value), f.resultTypes[j]? = some t → (v.resultList f.resultTypes.size)[j]? = some r → Value.okWide P W' .any 0 t r) :
    s.post enc P f apart fresh handsOn again W args v W' := by
  have hlt : ∀ p ∈ before, p.block < W.heap.size := fun p hp => hW.lt p hp
  have hold : ∀ p ∈ before, (fun b => decide (b < W.heap.size)) p.block = true := fun p hp => by simpa using hlt p hp
  refine ⟨ds, gs, before, [], pa, pv, hW, hres _ _ _, hargs _ hold, hvars _ hold, World.keptBut_mono (fun p hp => ⟨hp, ?_⟩) (hb.frame (· ∈ before)), fun _ => ?_⟩
  · rw [hps, List.mem_append] at hp
    exact Or.inr hp
  · obtain ⟨_, _, _, _, _, hz, hn⟩ := hW
    refine ⟨hok, _, _, ([] ++ pa) ++ pv, ⟨[] ++ pa, pv, trodAll_append (hargs _ (fun _ _ => rfl)) (hres _ _ _), hvars _ (fun _ _ => rfl), rfl, ?_, ?_⟩, ?_⟩
    · intro b off hp
      have hin : MemPlace.cell b off ∈ before := by rw [hps]; simpa using hp
      rw [hb.frozen (hlt _ hin)]
      exact hz b off hin
    · intro ha
      have := hn ha
      rw [hps] at this
      simpa using this
    · intro p hp _
      rw [hps]
      simpa using hp
end
end Go.Proofs.YtilephkbcikfbaaDoor.Base

/-
  CONTRACT of the drawing cursor of the model (l1Byte): whatever is drawn, the call answers a number from 0 to 255, writes into the cursor alone, and leaves it a cursor over the same bytes.
-/
namespace Go.Proofs.YtilephkbcikfbaaDoor.Cur
open Go Go.RowKit
set_option linter.unusedVariables false
set_option maxRecDepth 1000000

theorem i64_and255 (n : Int) : bits .and .i64 n 255 = n % 256 := by
  have h255 : (BitVec.ofInt 64 255).toNat = 2 ^ 8 - 1 := by decide
  have key : (BitVec.ofInt 64 n &&& BitVec.ofInt 64 255).toNat = (n % ((2 ^ 64 : Nat) : Int)).toNat % 2 ^ 8 := by
    rw [BitVec.toNat_and, BitVec.toNat_ofInt, h255, Nat.and_two_pow_sub_one_eq_mod]
  show IntKind.i64.wrap ((BitVec.ofInt 64 n &&& BitVec.ofInt 64 255).toNat : Nat) = n % 256
  rw [key, IntKind.wrap_i64]
  omega
theorem and255_bd (n : Int) : 0 ≤ bits .and .i64 n 255 ∧ bits .and .i64 n 255 ≤ 255 := by rw [i64_and255]; omega

/-- Block c is a cursor over bv. -/
def CurAt (w : World) (c : Nat) (bv : Value) : Prop := ∃ i h : Int, 0 ≤ i ∧ w.heap[c]? = some (.cells #[bv, .int .i64 i, .int .i64 h] 51 (0, 0))
/-- bv is a slice of bytes that lie below block B. -/
def CodeAt (w : World) (B : Nat) (bv : Value) : Prop := ∃ (b off len cap : Nat) (f : Nat → Int), bv = .slice (some ⟨b, off, none⟩) len cap ∧ b < B ∧ b < w.heap.size ∧ len ≤ 140737488355328 ∧ ∀ j, j < len → 0 ≤ f j ∧ f j ≤ 255 ∧ w.cell? ⟨b, off + j, none⟩ = some (.int .u8 (f j))
/-- A slice of bytes, maybe empty. -/
def Bytes (w : World) (B : Nat) (bv : Value) : Prop := (∃ a cap, bv = .slice a 0 cap) ∨ CodeAt w B bv

theorem gb_trans {a b c : World} {row : Option Nat} (h : a.grownBy b row) (k : b.grownBy c row) : a.grownBy c row :=
  ⟨k.os.trans h.os, k.tape.trans h.tape, k.output.trans h.output, Nat.le_trans h.size k.size, fun i hi hn => (k.block i (Nat.lt_of_lt_of_le hi h.size) hn).trans (h.block i hi hn)⟩
theorem gb_set (w : World) (c o : Nat) (v : Value) : w.grownBy (w.setCell ⟨c, o, none⟩ v) (some c) :=
  ⟨rfl, rfl, rfl, by simp [World.setCell], fun k hk hn => Below.heap_setCell _ _ _ _ (fun e => hn (by rw [e]))⟩
theorem gb_drew {a w : World} {row : Option Nat} (h : a.grownBy w row) : a.grownBy w.drew row := ⟨h.os, h.tape, h.output, h.size, h.block⟩
theorem bytes_kept {w w' : World} {B c : Nat} {bv : Value} (h : Bytes w B bv) (hg : w.grownBy w' (some c)) (hc : B ≤ c) : Bytes w' B bv := by
  rcases h with h | ⟨b, off, len, cap, f, h1, h2, h3, h4, h5⟩
  · exact Or.inl h
  · refine Or.inr ⟨b, off, len, cap, f, h1, h2, Nat.lt_of_lt_of_le h3 hg.size, h4, fun j hj => ⟨(h5 j hj).1, (h5 j hj).2.1, ?_⟩⟩
    exact hg.cell (h5 j hj).2.2 (by simp; omega)
theorem below_gb {a w w' : World} {B c : Nat} (h : Below B a w) (hg : w.grownBy w' (some c)) (hB : B ≤ w.heap.size) (hc : B ≤ c) : Below B a w' := h.grown hg hB (fun k e => by cases e; exact hc)

theorem lt_of_block {w : World} {b : Nat} {o : Obj} (h : w.heap[b]? = some o) : b < w.heap.size := by
  rcases Nat.lt_or_ge b w.heap.size with h' | h'
  · exact h'
  · simp [Array.getElem?_eq_none h'] at h
/-- What a cursor's block holds, cell for cell. -/
theorem cur_cells {w : World} {c : Nat} {v0 v1 v2 : Value} {T : TypeId} (h : w.heap[c]? = some (.cells #[v0, v1, v2] T (0, 0))) :
    w.cell? ⟨c, 0, none⟩ = some v0 ∧ w.cell? ⟨c, 1, none⟩ = some v1 ∧ w.cell? ⟨c, 2, none⟩ = some v2 ∧ w.frozen? ⟨c, 1, none⟩ = false ∧ w.frozen? ⟨c, 2, none⟩ = false := by
  simp [World.cell?, World.frozen?, h]
theorem cur_set2 {w : World} {c : Nat} {v0 v1 v2 u : Value} {T : TypeId} (h : w.heap[c]? = some (.cells #[v0, v1, v2] T (0, 0))) :
    (w.setCell ⟨c, 2, none⟩ u).heap[c]? = some (.cells #[v0, v1, u] T (0, 0)) := by
  have hlt := lt_of_block h
  have h' : w.heap[c] = .cells #[v0, v1, v2] T (0, 0) := by simpa [Array.getElem?_eq_getElem hlt] using h
  show (w.heap.modify c _)[c]? = _
  rw [Array.getElem?_eq_getElem (by simpa using hlt), Array.getElem_modify_self, h']
  rfl
theorem cur_set1 {w : World} {c : Nat} {v0 v1 v2 u : Value} {T : TypeId} (h : w.heap[c]? = some (.cells #[v0, v1, v2] T (0, 0))) :
    (w.setCell ⟨c, 1, none⟩ u).heap[c]? = some (.cells #[v0, u, v2] T (0, 0)) := by
  have hlt := lt_of_block h
  have h' : w.heap[c] = .cells #[v0, v1, v2] T (0, 0) := by simpa [Array.getElem?_eq_getElem hlt] using h
  show (w.heap.modify c _)[c]? = _
  rw [Array.getElem?_eq_getElem (by simpa using hlt), Array.getElem_modify_self, h']
  rfl

/-- How a draw ends: a number x with P x; the cursor alone has changed. -/
def Drawn (P : Int → Prop) (c : Nat) (bv : Value) (w : World) (e : Ending) (w' : World) : Prop :=
  ∃ x : Int, P x ∧ e = .returned (.int .i64 x) ∧ CurAt w' c bv ∧ w.grownBy w' (some c)

theorem byte_done (c : Nat) (a : Option Addr) (len cap : Nat) (i h : Int) (w : World)
    (hb : w.heap[c]? = some (.cells #[.slice a len cap, .int .i64 i, .int .i64 h] 51 (0, 0))) (h0 : 0 ≤ i) (hi : ¬ i < (len : Int)) :
    Calls Tryd.prog 40 #[.pointer (some ⟨c, 0, none⟩)] w (Drawn (fun x => 0 ≤ x ∧ x ≤ 255) c (.slice a len cap) w) := by
  obtain ⟨hc0, hc1, hc2, hf1, hf2⟩ := cur_cells hb
  have HB := Lib.hid hb
  have H0 := Lib.hid h0
  clear hb h0
  go_enter Tryd.func40, Tryd.ntmps40
  go_wp2
  go_region
  go_wp2
  go_region
  go_wp2
  go_ret
  exact ⟨_, and255_bd _, rfl, ⟨i, _, H0.out, cur_set2 HB.out⟩, gb_drew (gb_drew (gb_set _ _ _ _))⟩

theorem byte_more (c : Nat) (b off len cap : Nat) (z i h : Int) (w : World)
    (hb : w.heap[c]? = some (.cells #[.slice (some ⟨b, off, none⟩) len cap, .int .i64 i, .int .i64 h] 51 (0, 0))) (h0 : 0 ≤ i) (hi : i < (len : Int))
    (hl : len ≤ 140737488355328) (hbc : b ≠ c) (hz : w.cell? ⟨b, off + i.toNat, none⟩ = some (.int .u8 z)) (hz0 : 0 ≤ z) (hz1 : z ≤ 255) :
    Calls Tryd.prog 40 #[.pointer (some ⟨c, 0, none⟩)] w (Drawn (fun x => 0 ≤ x ∧ x ≤ 255) c (.slice (some ⟨b, off, none⟩) len cap) w) := by
  obtain ⟨hc0, hc1, hc2, hf1, hf2⟩ := cur_cells hb
  have HB := Lib.hid hb
  clear hb
  go_enter Tryd.func40, Tryd.ntmps40
  go_wp2
  go_region
  go_wp2
  go_region
  go_wp2
  go_region
  go_wp2
  go_ret
  exact ⟨_, and255_bd _, rfl, ⟨i + 1, _, by omega, cur_set1 (cur_set2 HB.out)⟩, gb_trans (gb_set _ _ _ _) (gb_drew (gb_drew (gb_drew (gb_set _ _ _ _))))⟩
end Go.Proofs.YtilephkbcikfbaaDoor.Cur

/-
  CONTRACTS of the draws that stand on the model's cursor: l1Byte at every cursor, l1Below, l1Once: each answers a number in its range, writes into the cursor alone, and leaves it a cursor over the same bytes.
-/
namespace Go.Proofs.YtilephkbcikfbaaDoor.Cur
open Go Go.RowKit
set_option linter.unusedVariables false
set_option maxRecDepth 1000000

theorem byte_any (c B : Nat) (bv : Value) (w : World) (hcur : CurAt w c bv) (hby : Bytes w B bv) (hB : B ≤ c) :
    Calls Tryd.prog 40 #[.pointer (some ⟨c, 0, none⟩)] w (Drawn (fun x => 0 ≤ x ∧ x ≤ 255) c bv w) := by
  obtain ⟨i, h, hi0, hb⟩ := hcur
  rcases hby with ⟨a, cap, rfl⟩ | ⟨b, off, len, cap, f, rfl, h2, h3, h4, h5⟩
  · exact byte_done c a 0 cap i h w hb hi0 (by simp; omega)
  · by_cases hi : i < (len : Int)
    · obtain ⟨k0, k1, k2⟩ := h5 i.toNat (by omega)
      exact byte_more c b off len cap _ i h w hb hi0 hi h4 (by omega) k2 k0 k1
    · exact byte_done c _ len cap i h w hb hi0 hi

/-- The numbers below n; 0 alone where n is not above 0. -/
def Under (n x : Int) : Prop := 0 ≤ x ∧ (x < n ∨ (n ≤ 0 ∧ x = 0))
theorem under_mod {n x : Int} (h : 0 < n) (hx : 0 ≤ x) : Under n (x % n) := ⟨Int.emod_nonneg _ (by omega), Or.inl (Int.emod_lt_of_pos _ h)⟩

theorem below_any (c B : Nat) (bv : Value) (n : Int) (w : World) (hcur : CurAt w c bv) (hby : Bytes w B bv) (hB : B ≤ c) (hn : n ≤ 9223372036854775807) :
    Calls Tryd.prog 23 #[.pointer (some ⟨c, 0, none⟩), .int .i64 n] w (Drawn (Under n) c bv w) := by
  by_cases h0 : n ≤ 0
  · have HU : Hid (Under n 0) := ⟨by omega, Or.inr ⟨h0, rfl⟩⟩
    go_enter Tryd.func23, Tryd.ntmps23
    go_wp2
    go_ret
    exact ⟨_, HU.out, rfl, hcur, World.grownBy.refl _ _⟩
  · have h1 : 1 ≤ n := by omega
    by_cases h2 : n ≤ 256
    · go_enter Tryd.func23, Tryd.ntmps23
      go_wp2_with (go_at_call 40; refine (byte_any _ B _ _ hcur hby hB).mono ?_; rintro e w1 ⟨x, ⟨hx0, hx1⟩, rfl, hc1, hg1⟩)
      go_ret
      exact ⟨_, under_mod (by omega) hx0, rfl, hc1, hg1⟩
    · go_enter Tryd.func23, Tryd.ntmps23
      go_wp2_with (fail)
      go_at_call 40
      refine (byte_any _ B _ _ hcur hby hB).mono ?_
      rintro e w1 ⟨x, ⟨hx0, hx1⟩, rfl, hc1, hg1⟩
      go_wp2_with (fail)
      go_at_call 40
      refine (byte_any _ B _ _ hc1 (bytes_kept hby hg1 hB) hB).mono ?_
      rintro e w2 ⟨y, ⟨hy0, hy1⟩, rfl, hc2, hg2⟩
      go_wp2_with (fail)
      go_at_call 40
      refine (byte_any _ B _ _ hc2 (bytes_kept hby (gb_trans hg1 hg2) hB) hB).mono ?_
      rintro e w3 ⟨z, ⟨hz0, hz1⟩, rfl, hc3, hg3⟩
      go_wp2
      go_ret
      exact ⟨_, under_mod (by omega) (by omega), rfl, hc3, gb_trans (gb_trans hg1 hg2) hg3⟩
end Go.Proofs.YtilephkbcikfbaaDoor.Cur

/-
  PLAIN FACTS on a cursor and the bytes that it reads, where the world grows.
-/
namespace Go.Proofs.YtilephkbcikfbaaDoor.Cur
open Go Go.RowKit
set_option linter.unusedVariables false
set_option maxRecDepth 1000000

theorem gb_alloc {a w : World} {row : Option Nat} (h : a.grownBy w row) (o : Obj) : a.grownBy (w.alloc o) row := gb_trans h (World.grownBy_alloc _ _ _)
theorem cur_kept {w w' : World} {c d : Nat} {bv : Value} (h : CurAt w c bv) (hg : w.grownBy w' (some d)) (hd : c ≠ d) : CurAt w' c bv := by
  obtain ⟨i, k, h0, hb⟩ := h
  exact ⟨i, k, h0, by rw [hg.block c (lt_of_block hb) (by simpa using hd)]; exact hb⟩
theorem cur_alloc {w : World} {c : Nat} {bv : Value} (h : CurAt w c bv) (o : Obj) : CurAt (w.alloc o) c bv := by
  obtain ⟨i, k, h0, hb⟩ := h
  exact ⟨i, k, h0, by rw [Below.heap_alloc _ _ _ (lt_of_block hb)]; exact hb⟩
theorem cur_lt {w : World} {c : Nat} {bv : Value} (h : CurAt w c bv) : c < w.heap.size := by
  obtain ⟨i, k, h0, hb⟩ := h
  exact lt_of_block hb
theorem bytes_alloc {w : World} {B : Nat} {bv : Value} (h : Bytes w B bv) (o : Obj) : Bytes (w.alloc o) B bv := by
  rcases h with h | ⟨b, off, len, cap, f, h1, h2, h3, h4, h5⟩
  · exact Or.inl h
  · refine Or.inr ⟨b, off, len, cap, f, h1, h2, by simp; omega, h4, fun j hj => ⟨(h5 j hj).1, (h5 j hj).2.1, ?_⟩⟩
    rw [World.cell?_of_block (w := w) (Below.heap_alloc _ _ _ h3)]
    exact (h5 j hj).2.2
end Go.Proofs.YtilephkbcikfbaaDoor.Cur

/-
  CONTRACTS of the draws out of a list (l1Int, l1Odd, l1One): each answers an integer of 64 bits, writes into the cursor alone, and leaves it a cursor over the same bytes.
-/
namespace Go.Proofs.YtilephkbcikfbaaDoor.Cur
open Go Go.RowKit
set_option linter.unusedVariables false
set_option maxRecDepth 1000000

def Fits (x : Int) : Prop := -9223372036854775808 ≤ x ∧ x ≤ 9223372036854775807

theorem int_any (c B : Nat) (bv : Value) (b len cap : Nat) (f : Nat → Int) (w : World) (hcur : CurAt w c bv) (hby : Bytes w B bv) (hB : B ≤ c)
    (hb : b ≠ c) (hbl : b < w.heap.size) (h1 : 1 ≤ len) (hl : len ≤ 1000000) (hf : ∀ j, j < len → w.cell? ⟨b, j, none⟩ = some (.int .i64 (f j))) :
    Calls Tryd.prog 22 #[.pointer (some ⟨c, 0, none⟩), .slice (some ⟨b, 0, none⟩) len cap] w (Drawn (fun x => ∃ j, j < len ∧ x = f j) c bv w) := by
  have HF := Lib.hid hf
  clear hf
  go_enter Tryd.func22, Tryd.ntmps22
  go_wp2_with (fail)
  go_at_call 23
  refine (below_any c B bv _ _ hcur hby hB (by omega)).mono ?_
  rintro e w1 ⟨x, hx, rfl, hc1, hg1⟩
  obtain ⟨j, rfl, hj⟩ : ∃ j : Nat, x = (j : Int) ∧ j < len := ⟨x.toNat, by have := hx.1; omega, by have := hx.1; have := hx.2; omega⟩
  have hcell : w1.cell? ⟨b, j, none⟩ = some (.int .i64 (f j)) := hg1.cell (HF.out j hj) (by simp; omega)
  clear hx
  go_wp2
  go_ret
  exact ⟨_, ⟨j, hj, rfl⟩, rfl, hc1, hg1⟩

theorem lits_at (w : World) (zs : List Int) (T : TypeId) (j : Nat) (h : j < zs.length) :
    (w.alloc (.cells ((zs.map (Value.int .i64)).toArray) T)).cell? ⟨w.heap.size, j, none⟩ = some (.int .i64 (zs.getD j 0)) := by
  rw [World.cell?_alloc_new]
  simp [List.getD, h]
/-- l1Int over a list that was just written out. -/
theorem int_lits (c B : Nat) (bv : Value) (zs : List Int) (n : Nat) (hn : n = zs.length) (w : World) (hcur : CurAt w c bv) (hby : Bytes w B bv) (hB : B ≤ c) (h1 : 1 ≤ zs.length) (hl : zs.length ≤ 1000000) (T : TypeId) :
    Calls Tryd.prog 22 #[.pointer (some ⟨c, 0, none⟩), .slice (some ⟨w.heap.size, 0, none⟩) n n] (w.alloc (.cells ((zs.map (Value.int .i64)).toArray) T))
      (Drawn (fun x => x ∈ zs) c bv w) := by
  subst hn
  refine (int_any c B bv w.heap.size zs.length zs.length (fun j => zs.getD j 0) _ (cur_alloc hcur _) (bytes_alloc hby _) hB (by have := cur_lt hcur; omega) (by simp) h1 hl (fun j hj => lits_at w zs T j hj)).mono ?_
  rintro e w1 ⟨x, ⟨j, hj, rfl⟩, rfl, hc1, hg1⟩
  refine ⟨_, ?_, rfl, hc1, gb_trans (World.grownBy_alloc _ _ _) hg1⟩
  simp [List.getD, hj]

def odds : List Int := [-1, 0, 1, 2, 255, 256, 65535, 2147483647, 2147483648, 4294967295, 4294967296, -2147483648, 9223372036854775807, -9223372036854775808]
theorem odds_fit (x : Int) (h : x ∈ odds) : Fits x := by
  unfold odds at h; unfold Fits
  simp at h
  omega
theorem odd_any (c B : Nat) (bv : Value) (w : World) (hcur : CurAt w c bv) (hby : Bytes w B bv) (hB : B ≤ c) :
    Calls Tryd.prog 31 #[.pointer (some ⟨c, 0, none⟩)] w (Drawn Fits c bv w) := by
  have H := int_lits c B bv odds 14 rfl w hcur hby hB (by decide) (by decide) 3
  go_enter Tryd.func31, Tryd.ntmps31
  go_wp2_with (fail)
  go_at_call 22
  refine H.mono ?_
  rintro e w1 ⟨x, hx, rfl, hc1, hg1⟩
  have HX := Lib.hid (odds_fit x hx)
  clear hx
  go_wp2
  go_ret
  exact ⟨_, HX.out, rfl, hc1, hg1⟩

theorem wrap_fits (n : Int) : Fits (wrap64 n) := by unfold Fits wrap64; omega
end Go.Proofs.YtilephkbcikfbaaDoor.Cur
