/-
  CONTRACTS AND PLAIN FACTS, several texts in one; each says in its own words what it proves.
-/
import Derived.Test.YtobhdfkhfmpdlaaGreatDoorRows
import Derived.WalkKit
import Derived.ProofKit
import Derived.OpenShut
import Derived.Lib.Hide
import Derived.Below
import Derived.ChangeSame
import Derived.Sort.Grow
import Derived.Deep.Draws
import Derived.RegionTactic
import Derived.ChangeAlike
import Derived.OwnWalk
import Derived.ChangeSlices
import Derived.SliceStrings
import Derived.Laws.OwnMore
import Derived.Laws.AppendOwn
set_option linter.unusedSimpArgs false
set_option linter.unusedVariables false

/-
  SMALL FACTS that the proofs of this seat share: what a new world keeps of an older one, and the last step of a law's row where the world is known to be as it was below its old end.
-/
namespace Go.Proofs.YtobhdfkhfmpdlaaGreatDoor.Base
open Go Go.RowKit Go.WideShapes Go.ChangeShapes
set_option linter.unusedVariables false
set_option maxRecDepth 1000000

/-- Every old cell and every old mark reads as before. -/
theorem bcell {W w1 : World} (hb : Below W.heap.size W w1) : (∀ b o, b < W.heap.size → w1.cell? ⟨b, o, none⟩ = W.cell? ⟨b, o, none⟩) ∧ (∀ b o, b < W.heap.size → w1.frozen? ⟨b, o, none⟩ = W.frozen? ⟨b, o, none⟩) :=
  ⟨fun b o h => hb.cell (p := ⟨b, o, none⟩) h, fun b o h => hb.frozen (p := ⟨b, o, none⟩) h⟩
/-- Two steps, each of which leaves what was before it. -/
theorem then_below {a b c : World} (h : Below a.heap.size a b) (k : Below b.heap.size b c) : Below a.heap.size a c := h.trans (k.mono h.size)
/-- A package-level variable keeps its cells. -/
theorem var_below {P : Program} {W w1 : World} {name : String} {cs : Array Value} (h : W.var? P name = some cs) (hb : Below W.heap.size W w1) : w1.var? P name = some cs := by
  unfold World.var? at *
  cases hg : P.globalNamed name with
  | none => rw [hg] at h; simp at h
  | some g =>
    rw [hg] at h
    simp only [Option.bind_some] at h ⊢
    have hlt : g < W.heap.size := by
      rcases Nat.lt_or_ge g W.heap.size with h' | h'
      · exact h'
      · rw [Array.getElem?_eq_none h'] at h; simp at h
    rw [hb.block g hlt]
    exact h
/-- Draws, and then new blocks at the end. -/
theorem below_grow_drewN (w : World) (k : Nat) (os : Array Obj) : Below w.heap.size w (Sort.grow (w.drewN k) os) := by
  refine ⟨rfl, rfl, rfl, ?_, fun i hi => ?_⟩
  · show w.heap.size ≤ (w.heap ++ os).size; rw [Array.size_append]; omega
  · show (w.heap ++ os)[i]? = w.heap[i]?; rw [Array.getElem?_append_left hi]

section
variable {H : Type} {enc : TypeId × Value → H} {P : Program}
/-- The row's last step, where of the world behind the call only 'Below' is known. -/
theorem post_below {f : Func} {s : ChangeSpec} {apart fresh handsOn again : Bool} {W W' : World} {args : Array Value} {v : Value} {ds gs : List (DataW H)} {before pa pv : List MemPlace}
    (hW : DataW.Whole enc P f.params.toList s.vars apart W args.toList ds gs before)
    (hres : ∀ (b : Nat) (sp : Nat → Bool) (hd : Bool), DataW.TrodAll enc P W' b sp hd f.resultTypes.toList (v.resultList f.resultTypes.size) (s.fn H (ds ++ gs)).results [])
    (hargs : ∀ sp : Nat → Bool, (∀ p ∈ before, sp p.block = true) → DataW.TrodAll enc P W' 0 sp true f.params.toList args.toList (s.fn H (ds ++ gs)).args pa)
    (hvars : ∀ sp : Nat → Bool, (∀ p ∈ before, sp p.block = true) → DataW.TrodVars enc P W' sp s.vars (s.fn H (ds ++ gs)).vars pv)
    (hps : before = pa ++ pv) (hb : Below W.heap.size W W')
    (hok : ∀ (j : Nat) (t : TypeId) (r : Value), f.resultTypes[j]? = some t → (v.resultList f.resultTypes.size)[j]? = some r → Value.okWide P W' .any 0 t r) :
    s.post enc P f apart fresh handsOn again W args v W' := by
  have hlt : ∀ p ∈ before, p.block < W.heap.size := fun p hp => hW.lt p hp
  have hold : ∀ p ∈ before, (fun b => decide (b < W.heap.size)) p.block = true := fun p hp => by simpa using hlt p hp
  refine ⟨ds, gs, before, [], pa, pv, hW, hres _ _ _, hargs _ hold, hvars _ hold, World.keptBut_mono (fun p hp => ⟨hp, ?_⟩) (hb.frame (· ∈ before)), fun _ => ?_⟩
  · rw [hps, List.mem_append] at hp
    exact Or.inr hp
  · obtain ⟨_, _, _, _, _, hz, hn⟩ := hW
    refine ⟨hok, _, _, ([] ++ pa) ++ pv, ⟨[] ++ pa, pv, trodAll_append (hargs _ (fun _ _ => rfl)) (hres _ _ _), hvars _ (fun _ _ => rfl), rfl, ?_, ?_⟩, ?_⟩
    · intro b off hp
      have hin : MemPlace.cell b off ∈ before := by rw [hps]; simpa using hp
      rw [hb.frozen (hlt _ hin)]
      exact hz b off hin
    · intro ha
      have := hn ha
      rw [hps] at this
      simpa using this
    · intro p hp _
      rw [hps]
      simpa using hp
end
end Go.Proofs.YtobhdfkhfmpdlaaGreatDoor.Base

/-
  CONTRACT of the drawing cursor of the model (l1Byte): whatever is drawn, the call answers a number from 0 to 255, writes into the cursor alone, and leaves it a cursor over the same bytes.
-/
namespace Go.Proofs.YtobhdfkhfmpdlaaGreatDoor.Cur
open Go Go.RowKit
set_option linter.unusedVariables false
set_option maxRecDepth 1000000

theorem i64_and255 (n : Int) : bits .and .i64 n 255 = n % 256 := by
  have h255 : (BitVec.ofInt 64 255).toNat = 2 ^ 8 - 1 := by decide
  have key : (BitVec.ofInt 64 n &&& BitVec.ofInt 64 255).toNat = (n % ((2 ^ 64 : Nat) : Int)).toNat % 2 ^ 8 := by
    rw [BitVec.toNat_and, BitVec.toNat_ofInt, h255, Nat.and_two_pow_sub_one_eq_mod]
  show IntKind.i64.wrap ((BitVec.ofInt 64 n &&& BitVec.ofInt 64 255).toNat : Nat) = n % 256
  rw [key, IntKind.wrap_i64]
  omega
theorem and255_bd (n : Int) : 0 ≤ bits .and .i64 n 255 ∧ bits .and .i64 n 255 ≤ 255 := by rw [i64_and255]; omega

/-- Block c is a cursor over bv. -/
def CurAt (w : World) (c : Nat) (bv : Value) : Prop := ∃ i h : Int, 0 ≤ i ∧ w.heap[c]? = some (.cells #[bv, .int .i64 i, .int .i64 h] 70 (0, 0))
/-- bv is a slice of bytes that lie below block B. -/
def CodeAt (w : World) (B : Nat) (bv : Value) : Prop := ∃ (b off len cap : Nat) (f : Nat → Int), bv = .slice (some ⟨b, off, none⟩) len cap ∧ b < B ∧ b < w.heap.size ∧ len ≤ 140737488355328 ∧ ∀ j, j < len → 0 ≤ f j ∧ f j ≤ 255 ∧ w.cell? ⟨b, off + j, none⟩ = some (.int .u8 (f j))
/-- A slice of bytes, maybe empty. -/
def Bytes (w : World) (B : Nat) (bv : Value) : Prop := (∃ a cap, bv = .slice a 0 cap) ∨ CodeAt w B bv

theorem gb_trans {a b c : World} {row : Option Nat} (h : a.grownBy b row) (k : b.grownBy c row) : a.grownBy c row :=
  ⟨k.os.trans h.os, k.tape.trans h.tape, k.output.trans h.output, Nat.le_trans h.size k.size, fun i hi hn => (k.block i (Nat.lt_of_lt_of_le hi h.size) hn).trans (h.block i hi hn)⟩
theorem gb_set (w : World) (c o : Nat) (v : Value) : w.grownBy (w.setCell ⟨c, o, none⟩ v) (some c) :=
  ⟨rfl, rfl, rfl, by simp [World.setCell], fun k hk hn => Below.heap_setCell _ _ _ _ (fun e => hn (by rw [e]))⟩
theorem gb_drew {a w : World} {row : Option Nat} (h : a.grownBy w row) : a.grownBy w.drew row := ⟨h.os, h.tape, h.output, h.size, h.block⟩
theorem bytes_kept {w w' : World} {B c : Nat} {bv : Value} (h : Bytes w B bv) (hg : w.grownBy w' (some c)) (hc : B ≤ c) : Bytes w' B bv := by
  rcases h with h | ⟨b, off, len, cap, f, h1, h2, h3, h4, h5⟩
  · exact Or.inl h
  · refine Or.inr ⟨b, off, len, cap, f, h1, h2, Nat.lt_of_lt_of_le h3 hg.size, h4, fun j hj => ⟨(h5 j hj).1, (h5 j hj).2.1, ?_⟩⟩
    exact hg.cell (h5 j hj).2.2 (by simp; omega)
theorem below_gb {a w w' : World} {B c : Nat} (h : Below B a w) (hg : w.grownBy w' (some c)) (hB : B ≤ w.heap.size) (hc : B ≤ c) : Below B a w' := h.grown hg hB (fun k e => by cases e; exact hc)

theorem lt_of_block {w : World} {b : Nat} {o : Obj} (h : w.heap[b]? = some o) : b < w.heap.size := by
  rcases Nat.lt_or_ge b w.heap.size with h' | h'
  · exact h'
  · simp [Array.getElem?_eq_none h'] at h
/-- What a cursor's block holds, cell for cell. -/
theorem cur_cells {w : World} {c : Nat} {v0 v1 v2 : Value} {T : TypeId} (h : w.heap[c]? = some (.cells #[v0, v1, v2] T (0, 0))) :
    w.cell? ⟨c, 0, none⟩ = some v0 ∧ w.cell? ⟨c, 1, none⟩ = some v1 ∧ w.cell? ⟨c, 2, none⟩ = some v2 ∧ w.frozen? ⟨c, 1, none⟩ = false ∧ w.frozen? ⟨c, 2, none⟩ = false := by
  simp [World.cell?, World.frozen?, h]
theorem cur_set2 {w : World} {c : Nat} {v0 v1 v2 u : Value} {T : TypeId} (h : w.heap[c]? = some (.cells #[v0, v1, v2] T (0, 0))) :
    (w.setCell ⟨c, 2, none⟩ u).heap[c]? = some (.cells #[v0, v1, u] T (0, 0)) := by
  have hlt := lt_of_block h
  have h' : w.heap[c] = .cells #[v0, v1, v2] T (0, 0) := by simpa [Array.getElem?_eq_getElem hlt] using h
  show (w.heap.modify c _)[c]? = _
  rw [Array.getElem?_eq_getElem (by simpa using hlt), Array.getElem_modify_self, h']
  rfl
theorem cur_set1 {w : World} {c : Nat} {v0 v1 v2 u : Value} {T : TypeId} (h : w.heap[c]? = some (.cells #[v0, v1, v2] T (0, 0))) :
    (w.setCell ⟨c, 1, none⟩ u).heap[c]? = some (.cells #[v0, u, v2] T (0, 0)) := by
  have hlt := lt_of_block h
  have h' : w.heap[c] = .cells #[v0, v1, v2] T (0, 0) := by simpa [Array.getElem?_eq_getElem hlt] using h
  show (w.heap.modify c _)[c]? = _
  rw [Array.getElem?_eq_getElem (by simpa using hlt), Array.getElem_modify_self, h']
  rfl

/-- How a draw ends: a number x with P x; the cursor alone has changed. -/
def Drawn (P : Int → Prop) (c : Nat) (bv : Value) (w : World) (e : Ending) (w' : World) : Prop :=
  ∃ x : Int, P x ∧ e = .returned (.int .i64 x) ∧ CurAt w' c bv ∧ w.grownBy w' (some c)

theorem byte_done (c : Nat) (a : Option Addr) (len cap : Nat) (i h : Int) (w : World)
    (hb : w.heap[c]? = some (.cells #[.slice a len cap, .int .i64 i, .int .i64 h] 70 (0, 0))) (h0 : 0 ≤ i) (hi : ¬ i < (len : Int)) :
    Calls Tryz.prog 52 #[.pointer (some ⟨c, 0, none⟩)] w (Drawn (fun x => 0 ≤ x ∧ x ≤ 255) c (.slice a len cap) w) := by
  obtain ⟨hc0, hc1, hc2, hf1, hf2⟩ := cur_cells hb
  have HB := Lib.hid hb
  have H0 := Lib.hid h0
  clear hb h0
  go_enter Tryz.func52, Tryz.ntmps52
  go_wp2
  go_region
  go_wp2
  go_region
  go_wp2
  go_ret
  exact ⟨_, and255_bd _, rfl, ⟨i, _, H0.out, cur_set2 HB.out⟩, gb_drew (gb_drew (gb_set _ _ _ _))⟩

theorem byte_more (c : Nat) (b off len cap : Nat) (z i h : Int) (w : World)
    (hb : w.heap[c]? = some (.cells #[.slice (some ⟨b, off, none⟩) len cap, .int .i64 i, .int .i64 h] 70 (0, 0))) (h0 : 0 ≤ i) (hi : i < (len : Int))
    (hl : len ≤ 140737488355328) (hbc : b ≠ c) (hz : w.cell? ⟨b, off + i.toNat, none⟩ = some (.int .u8 z)) (hz0 : 0 ≤ z) (hz1 : z ≤ 255) :
    Calls Tryz.prog 52 #[.pointer (some ⟨c, 0, none⟩)] w (Drawn (fun x => 0 ≤ x ∧ x ≤ 255) c (.slice (some ⟨b, off, none⟩) len cap) w) := by
  obtain ⟨hc0, hc1, hc2, hf1, hf2⟩ := cur_cells hb
  have HB := Lib.hid hb
  clear hb
  go_enter Tryz.func52, Tryz.ntmps52
  go_wp2
  go_region
  go_wp2
  go_region
  go_wp2
  go_region
  go_wp2
  go_ret
  exact ⟨_, and255_bd _, rfl, ⟨i + 1, _, by omega, cur_set1 (cur_set2 HB.out)⟩, gb_trans (gb_set _ _ _ _) (gb_drew (gb_drew (gb_drew (gb_set _ _ _ _))))⟩
end Go.Proofs.YtobhdfkhfmpdlaaGreatDoor.Cur

/-
  CONTRACTS of the draws that stand on the model's cursor: l1Byte at every cursor, l1Below, l1Once: each answers a number in its range, writes into the cursor alone, and leaves it a cursor over the same bytes.
-/
namespace Go.Proofs.YtobhdfkhfmpdlaaGreatDoor.Cur
open Go Go.RowKit
set_option linter.unusedVariables false
set_option maxRecDepth 1000000

theorem byte_any (c B : Nat) (bv : Value) (w : World) (hcur : CurAt w c bv) (hby : Bytes w B bv) (hB : B ≤ c) :
    Calls Tryz.prog 52 #[.pointer (some ⟨c, 0, none⟩)] w (Drawn (fun x => 0 ≤ x ∧ x ≤ 255) c bv w) := by
  obtain ⟨i, h, hi0, hb⟩ := hcur
  rcases hby with ⟨a, cap, rfl⟩ | ⟨b, off, len, cap, f, rfl, h2, h3, h4, h5⟩
  · exact byte_done c a 0 cap i h w hb hi0 (by simp; omega)
  · by_cases hi : i < (len : Int)
    · obtain ⟨k0, k1, k2⟩ := h5 i.toNat (by omega)
      exact byte_more c b off len cap _ i h w hb hi0 hi h4 (by omega) k2 k0 k1
    · exact byte_done c _ len cap i h w hb hi0 hi

/-- The numbers below n; 0 alone where n is not above 0. -/
def Under (n x : Int) : Prop := 0 ≤ x ∧ (x < n ∨ (n ≤ 0 ∧ x = 0))
theorem under_mod {n x : Int} (h : 0 < n) (hx : 0 ≤ x) : Under n (x % n) := ⟨Int.emod_nonneg _ (by omega), Or.inl (Int.emod_lt_of_pos _ h)⟩

theorem below_any (c B : Nat) (bv : Value) (n : Int) (w : World) (hcur : CurAt w c bv) (hby : Bytes w B bv) (hB : B ≤ c) (hn : n ≤ 9223372036854775807) :
    Calls Tryz.prog 37 #[.pointer (some ⟨c, 0, none⟩), .int .i64 n] w (Drawn (Under n) c bv w) := by
  by_cases h0 : n ≤ 0
  · have HU : Hid (Under n 0) := ⟨by omega, Or.inr ⟨h0, rfl⟩⟩
    go_enter Tryz.func37, Tryz.ntmps37
    go_wp2
    go_ret
    exact ⟨_, HU.out, rfl, hcur, World.grownBy.refl _ _⟩
  · have h1 : 1 ≤ n := by omega
    by_cases h2 : n ≤ 256
    · go_enter Tryz.func37, Tryz.ntmps37
      go_wp2_with (go_at_call 52; refine (byte_any _ B _ _ hcur hby hB).mono ?_; rintro e w1 ⟨x, ⟨hx0, hx1⟩, rfl, hc1, hg1⟩)
      go_ret
      exact ⟨_, under_mod (by omega) hx0, rfl, hc1, hg1⟩
    · go_enter Tryz.func37, Tryz.ntmps37
      go_wp2_with (fail)
      go_at_call 52
      refine (byte_any _ B _ _ hcur hby hB).mono ?_
      rintro e w1 ⟨x, ⟨hx0, hx1⟩, rfl, hc1, hg1⟩
      go_wp2_with (fail)
      go_at_call 52
      refine (byte_any _ B _ _ hc1 (bytes_kept hby hg1 hB) hB).mono ?_
      rintro e w2 ⟨y, ⟨hy0, hy1⟩, rfl, hc2, hg2⟩
      go_wp2_with (fail)
      go_at_call 52
      refine (byte_any _ B _ _ hc2 (bytes_kept hby (gb_trans hg1 hg2) hB) hB).mono ?_
      rintro e w3 ⟨z, ⟨hz0, hz1⟩, rfl, hc3, hg3⟩
      go_wp2
      go_ret
      exact ⟨_, under_mod (by omega) (by omega), rfl, hc3, gb_trans (gb_trans hg1 hg2) hg3⟩
end Go.Proofs.YtobhdfkhfmpdlaaGreatDoor.Cur

/-
  PLAIN FACTS on a cursor and the bytes that it reads, where the world grows.
-/
namespace Go.Proofs.YtobhdfkhfmpdlaaGreatDoor.Cur
open Go Go.RowKit
set_option linter.unusedVariables false
set_option maxRecDepth 1000000

theorem gb_alloc {a w : World} {row : Option Nat} (h : a.grownBy w row) (o : Obj) : a.grownBy (w.alloc o) row := gb_trans h (World.grownBy_alloc _ _ _)
theorem cur_kept {w w' : World} {c d : Nat} {bv : Value} (h : CurAt w c bv) (hg : w.grownBy w' (some d)) (hd : c ≠ d) : CurAt w' c bv := by
  obtain ⟨i, k, h0, hb⟩ := h
  exact ⟨i, k, h0, by rw [hg.block c (lt_of_block hb) (by simpa using hd)]; exact hb⟩
theorem cur_alloc {w : World} {c : Nat} {bv : Value} (h : CurAt w c bv) (o : Obj) : CurAt (w.alloc o) c bv := by
  obtain ⟨i, k, h0, hb⟩ := h
  exact ⟨i, k, h0, by rw [Below.heap_alloc _ _ _ (lt_of_block hb)]; exact hb⟩
theorem cur_lt {w : World} {c : Nat} {bv : Value} (h : CurAt w c bv) : c < w.heap.size := by
  obtain ⟨i, k, h0, hb⟩ := h
  exact lt_of_block hb
theorem bytes_alloc {w : World} {B : Nat} {bv : Value} (h : Bytes w B bv) (o : Obj) : Bytes (w.alloc o) B bv := by
  rcases h with h | ⟨b, off, len, cap, f, h1, h2, h3, h4, h5⟩
  · exact Or.inl h
  · refine Or.inr ⟨b, off, len, cap, f, h1, h2, by simp; omega, h4, fun j hj => ⟨(h5 j hj).1, (h5 j hj).2.1, ?_⟩⟩
    rw [World.cell?_of_block (w := w) (Below.heap_alloc _ _ _ h3)]
    exact (h5 j hj).2.2
end Go.Proofs.YtobhdfkhfmpdlaaGreatDoor.Cur

/-
  CONTRACT of the drawing cursor of the model (l1Byte), as a function: what it answers and where the cursor stands behind it are told by the bytes of the draw and by where the cursor stood, in whatever world it is asked.
-/
namespace Go.Proofs.YtobhdfkhfmpdlaaGreatDoor.Cf
open Go Go.RowKit Cur
set_option linter.unusedVariables false
set_option maxRecDepth 1000000

/-- How many bytes a draw reads, and which. -/
abbrev Src := Nat × (Nat → Int)
/-- Block c is a cursor over bv, at place st.1, with number st.2. -/
def CurS (w : World) (c : Nat) (bv : Value) (st : Int × Int) : Prop := 0 ≤ st.1 ∧ w.heap[c]? = some (.cells #[bv, .int .i64 st.1, .int .i64 st.2] 70 (0, 0))
/-- bv is a slice of just these bytes, below block B. -/
def BytesS (w : World) (B : Nat) (bv : Value) (κ : Src) : Prop := ∃ (a : Option Addr) (cap : Nat), bv = .slice a κ.1 cap ∧ (0 < κ.1 → ∃ b off, a = some ⟨b, off, none⟩ ∧ b < B ∧ b < w.heap.size ∧ κ.1 ≤ 140737488355328 ∧ ∀ j, j < κ.1 → 0 ≤ κ.2 j ∧ κ.2 j ≤ 255 ∧ w.cell? ⟨b, off + j, none⟩ = some (.int .u8 (κ.2 j)))

def stepH (h : Int) : Int := wrap64 (wrap64 (h * 6364136223846793005) + 1442695040888963407)
def mixH (h : Int) : Int := bits .and .i64 (bits .xor .i64 (h / 8589934592) (h / 140737488355328)) 255
def moreH (h z : Int) : Int := bits .and .i64 (wrap64 (mixH h + z)) 255

theorem byte_done (c : Nat) (a : Option Addr) (len cap : Nat) (i h : Int) (w : World)
    (hb : w.heap[c]? = some (.cells #[.slice a len cap, .int .i64 i, .int .i64 h] 70 (0, 0))) (h0 : 0 ≤ i) (hi : ¬ i < (len : Int)) :
    Calls Tryz.prog 52 #[.pointer (some ⟨c, 0, none⟩)] w (fun e w' => e = .returned (.int .i64 (mixH (stepH h))) ∧ CurS w' c (.slice a len cap) (i, stepH h) ∧ w.grownBy w' (some c)) := by
  obtain ⟨hc0, hc1, hc2, hf1, hf2⟩ := cur_cells hb
  have HB := Lib.hid hb
  have H0 := Lib.hid h0
  clear hb h0
  go_enter Tryz.func52, Tryz.ntmps52
  go_wp2
  go_region
  go_wp2
  go_region
  go_wp2
  go_ret
  refine ⟨?_, ⟨H0.out, cur_set2 HB.out⟩, gb_drew (gb_drew (gb_set _ _ _ _))⟩
  rfl

theorem byte_more (c : Nat) (b off len cap : Nat) (z i h : Int) (w : World)
    (hb : w.heap[c]? = some (.cells #[.slice (some ⟨b, off, none⟩) len cap, .int .i64 i, .int .i64 h] 70 (0, 0))) (h0 : 0 ≤ i) (hi : i < (len : Int))
    (hl : len ≤ 140737488355328) (hbc : b ≠ c) (hz : w.cell? ⟨b, off + i.toNat, none⟩ = some (.int .u8 z)) (hz0 : 0 ≤ z) (hz1 : z ≤ 255) :
    Calls Tryz.prog 52 #[.pointer (some ⟨c, 0, none⟩)] w (fun e w' => e = .returned (.int .i64 (moreH (stepH h) z)) ∧ CurS w' c (.slice (some ⟨b, off, none⟩) len cap) (i + 1, stepH h) ∧ w.grownBy w' (some c)) := by
  obtain ⟨hc0, hc1, hc2, hf1, hf2⟩ := cur_cells hb
  have HB := Lib.hid hb
  clear hb
  go_enter Tryz.func52, Tryz.ntmps52
  go_wp2
  go_region
  go_wp2
  go_region
  go_wp2
  go_region
  go_wp2
  go_ret
  refine ⟨?_, ⟨by show (0 : Int) ≤ i + 1; omega, cur_set1 (cur_set2 HB.out)⟩, gb_trans (gb_set _ _ _ _) (gb_drew (gb_drew (gb_drew (gb_set _ _ _ _))))⟩
  rfl

/-- What l1Byte answers, and where it leaves the cursor. -/
def byteF (κ : Src) (st : Int × Int) : Int × (Int × Int) := if st.1 < (κ.1 : Int) then (moreH (stepH st.2) (κ.2 st.1.toNat), (st.1 + 1, stepH st.2)) else (mixH (stepH st.2), (st.1, stepH st.2))
theorem byteF_bd (κ : Src) (st : Int × Int) : 0 ≤ (byteF κ st).1 ∧ (byteF κ st).1 ≤ 255 := by
  unfold byteF; split
  · exact and255_bd _
  · exact and255_bd _
/-- How a draw of a number ends, where p tells the number and the cursor's place. -/
def DrawnF (p : Int × (Int × Int)) (c : Nat) (bv : Value) (w : World) (e : Ending) (w' : World) : Prop := e = .returned (.int .i64 p.1) ∧ CurS w' c bv p.2 ∧ w.grownBy w' (some c)

theorem byte_fn (c B : Nat) (bv : Value) (κ : Src) (st : Int × Int) (w : World) (hcur : CurS w c bv st) (hby : BytesS w B bv κ) (hB : B ≤ c) :
    Calls Tryz.prog 52 #[.pointer (some ⟨c, 0, none⟩)] w (DrawnF (byteF κ st) c bv w) := by
  obtain ⟨i, h⟩ := st
  obtain ⟨len, f⟩ := κ
  obtain ⟨a, cap, rfl, ha⟩ := hby
  obtain ⟨hi0, hb⟩ := hcur
  by_cases hi : i < (len : Int)
  · have h1 : 0 < len := by have : (0 : Int) ≤ i := hi0; omega
    obtain ⟨b, off, rfl, h2, h3, h4, h5⟩ := ha h1
    obtain ⟨k0, k1, k2⟩ := h5 i.toNat (by have : (0 : Int) ≤ i := hi0; show i.toNat < len; omega)
    have := byte_more c b off len cap _ i h w hb hi0 hi h4 (by omega) k2 k0 k1
    unfold DrawnF byteF
    rw [if_pos hi]
    exact this
  · have := byte_done c a len cap i h w hb hi0 hi
    unfold DrawnF byteF
    rw [if_neg hi]
    exact this

theorem bytesS_kept {w w' : World} {B c : Nat} {bv : Value} {κ : Src} (h : BytesS w B bv κ) (hg : w.grownBy w' (some c)) (hc : B ≤ c) : BytesS w' B bv κ := by
  obtain ⟨a, cap, rfl, ha⟩ := h
  refine ⟨a, cap, rfl, fun h0 => ?_⟩
  obtain ⟨b, off, rfl, h2, h3, h4, h5⟩ := ha h0
  exact ⟨b, off, rfl, h2, Nat.lt_of_lt_of_le h3 hg.size, h4, fun j hj => ⟨(h5 j hj).1, (h5 j hj).2.1, hg.cell (h5 j hj).2.2 (by simp; omega)⟩⟩
theorem bytesS_below {w w' : World} {B : Nat} {bv : Value} {κ : Src} (h : BytesS w B bv κ) (hb : Below B w w') : BytesS w' B bv κ := by
  obtain ⟨a, cap, rfl, ha⟩ := h
  refine ⟨a, cap, rfl, fun h0 => ?_⟩
  obtain ⟨b, off, rfl, h2, h3, h4, h5⟩ := ha h0
  exact ⟨b, off, rfl, h2, Nat.lt_of_lt_of_le h3 hb.size, h4, fun j hj => ⟨(h5 j hj).1, (h5 j hj).2.1, by rw [hb.cell (p := ⟨b, off + j, none⟩) h2]; exact (h5 j hj).2.2⟩⟩
theorem bytesS_alloc {w : World} {B : Nat} {bv : Value} {κ : Src} (h : BytesS w B bv κ) (o : Obj) : BytesS (w.alloc o) B bv κ := by
  obtain ⟨a, cap, rfl, ha⟩ := h
  refine ⟨a, cap, rfl, fun h0 => ?_⟩
  obtain ⟨b, off, rfl, h2, h3, h4, h5⟩ := ha h0
  exact ⟨b, off, rfl, h2, by simp; omega, h4, fun j hj => ⟨(h5 j hj).1, (h5 j hj).2.1, by rw [World.cell?_of_block (w := w) (Below.heap_alloc _ _ _ h3)]; exact (h5 j hj).2.2⟩⟩
/-- Any bytes are just some bytes. -/
theorem bytes_some {w : World} {B : Nat} {bv : Value} (h : Bytes w B bv) : ∃ κ, BytesS w B bv κ := by
  rcases h with ⟨a, cap, rfl⟩ | ⟨b, off, len, cap, f, rfl, h2, h3, h4, h5⟩
  · exact ⟨(0, fun _ => 0), a, cap, rfl, fun h => by simp at h⟩
  · exact ⟨(len, f), some ⟨b, off, none⟩, cap, rfl, fun _ => ⟨b, off, rfl, h2, h3, h4, h5⟩⟩
theorem curS_lt {w : World} {c : Nat} {bv : Value} {st : Int × Int} (h : CurS w c bv st) : c < w.heap.size := lt_of_block h.2
theorem curS_same {w w' : World} {c : Nat} {bv : Value} {st : Int × Int} (h : CurS w c bv st) (hb : w'.heap[c]? = w.heap[c]?) : CurS w' c bv st := ⟨h.1, by rw [hb]; exact h.2⟩
theorem curS_alloc {w : World} {c : Nat} {bv : Value} {st : Int × Int} (h : CurS w c bv st) (o : Obj) : CurS (w.alloc o) c bv st := ⟨h.1, by rw [Below.heap_alloc _ _ _ (lt_of_block h.2)]; exact h.2⟩

/-- What l1Below answers, and where it leaves the cursor. -/
def belowF (κ : Src) (n : Int) (st : Int × Int) : Int × (Int × Int) :=
  if n ≤ 0 then (0, st) else if n ≤ 256 then ((byteF κ st).1 % n, (byteF κ st).2)
  else (((byteF κ st).1 * 65536 + (byteF κ (byteF κ st).2).1 * 256 + (byteF κ (byteF κ (byteF κ st).2).2).1) % n, (byteF κ (byteF κ (byteF κ st).2).2).2)
theorem belowF_under (κ : Src) (n : Int) (st : Int × Int) : Under n (belowF κ n st).1 := by
  unfold belowF
  split
  · exact ⟨Int.le_refl _, Or.inr ⟨by assumption, rfl⟩⟩
  · split
    · exact under_mod (by omega) (byteF_bd _ _).1
    · have := (byteF_bd κ st).1; have := (byteF_bd κ (byteF κ st).2).1; have := (byteF_bd κ (byteF κ (byteF κ st).2).2).1
      exact under_mod (by omega) (by omega)

theorem below_fn (c B : Nat) (bv : Value) (κ : Src) (st : Int × Int) (n : Int) (w : World) (hcur : CurS w c bv st) (hby : BytesS w B bv κ) (hB : B ≤ c) (hn : n ≤ 9223372036854775807) :
    Calls Tryz.prog 37 #[.pointer (some ⟨c, 0, none⟩), .int .i64 n] w (DrawnF (belowF κ n st) c bv w) := by
  unfold DrawnF belowF
  by_cases h0 : n ≤ 0
  · rw [if_pos h0]
    have HC := Lib.hid hcur
    clear hcur hby
    go_enter Tryz.func37, Tryz.ntmps37
    go_wp2
    go_ret
    exact ⟨rfl, HC.out, World.grownBy.refl _ _⟩
  · rw [if_neg h0]
    have h1 : 1 ≤ n := by omega
    have H1 := byteF_bd κ st
    have c1 := fun w (hcur : CurS w c bv st) (hby : BytesS w B bv κ) => byte_fn c B bv κ st w hcur hby hB
    generalize byteF κ st = p1 at H1 c1 ⊢
    obtain ⟨x, st1⟩ := p1
    by_cases h2 : n ≤ 256
    · rw [if_pos h2]
      go_enter Tryz.func37, Tryz.ntmps37
      go_wp2_with (fail)
      go_at_call 52
      refine (c1 _ hcur hby).mono ?_
      rintro e w1 ⟨rfl, hc1, hg1⟩
      have HE := Lib.hid (And.intro hc1 hg1)
      obtain ⟨hx0, hx1⟩ := H1
      clear hc1 hg1 hcur hby c1
      go_wp2
      go_ret
      exact ⟨rfl, HE.out.1, HE.out.2⟩
    · rw [if_neg h2]
      have H2 := byteF_bd κ st1
      have c2 := fun w (hcur : CurS w c bv st1) (hby : BytesS w B bv κ) => byte_fn c B bv κ st1 w hcur hby hB
      show Calls _ _ _ _ (fun e w' => e = .returned (.int .i64 ((x * 65536 + (byteF κ st1).1 * 256 + (byteF κ (byteF κ st1).2).1) % n)) ∧ CurS w' c bv (byteF κ (byteF κ st1).2).2 ∧ w.grownBy w' (some c))
      generalize byteF κ st1 = p2 at H2 c2 ⊢
      obtain ⟨y, st2⟩ := p2
      have H3 := byteF_bd κ st2
      have c3 := fun w (hcur : CurS w c bv st2) (hby : BytesS w B bv κ) => byte_fn c B bv κ st2 w hcur hby hB
      show Calls _ _ _ _ (fun e w' => e = .returned (.int .i64 ((x * 65536 + y * 256 + (byteF κ st2).1) % n)) ∧ CurS w' c bv (byteF κ st2).2 ∧ w.grownBy w' (some c))
      generalize byteF κ st2 = p3 at H3 c3 ⊢
      obtain ⟨z, st3⟩ := p3
      obtain ⟨hx0, hx1⟩ := H1
      obtain ⟨hy0, hy1⟩ := H2
      obtain ⟨hz0, hz1⟩ := H3
      go_enter Tryz.func37, Tryz.ntmps37
      go_wp2_with (fail)
      go_at_call 52
      refine (c1 _ hcur hby).mono ?_
      rintro e w1 ⟨rfl, hc1, hg1⟩
      go_wp2_with (fail)
      go_at_call 52
      refine (c2 _ hc1 (bytesS_kept hby hg1 hB)).mono ?_
      rintro e w2 ⟨rfl, hc2, hg2⟩
      go_wp2_with (fail)
      go_at_call 52
      refine (c3 _ hc2 (bytesS_kept hby (gb_trans hg1 hg2) hB)).mono ?_
      rintro e w3 ⟨rfl, hc3, hg3⟩
      have HE := Lib.hid (And.intro hc3 (gb_trans (gb_trans hg1 hg2) hg3))
      clear hc1 hg1 hcur hby c1 c2 c3 hc2 hc3 hg2 hg3
      go_wp2
      go_ret
      exact ⟨rfl, HE.out.1, HE.out.2⟩
end Go.Proofs.YtobhdfkhfmpdlaaGreatDoor.Cf

/-
  CONTRACTS of the draws out of a list (l1Int, l1Odd, l1One): each answers an integer of 64 bits, writes into the cursor alone, and leaves it a cursor over the same bytes.
-/
namespace Go.Proofs.YtobhdfkhfmpdlaaGreatDoor.Cur
open Go Go.RowKit
set_option linter.unusedVariables false
set_option maxRecDepth 1000000

def Fits (x : Int) : Prop := -9223372036854775808 ≤ x ∧ x ≤ 9223372036854775807

theorem int_any (c B : Nat) (bv : Value) (b len cap : Nat) (f : Nat → Int) (w : World) (hcur : CurAt w c bv) (hby : Bytes w B bv) (hB : B ≤ c)
    (hb : b ≠ c) (hbl : b < w.heap.size) (h1 : 1 ≤ len) (hl : len ≤ 1000000) (hf : ∀ j, j < len → w.cell? ⟨b, j, none⟩ = some (.int .i64 (f j))) :
    Calls Tryz.prog 27 #[.pointer (some ⟨c, 0, none⟩), .slice (some ⟨b, 0, none⟩) len cap] w (Drawn (fun x => ∃ j, j < len ∧ x = f j) c bv w) := by
  have HF := Lib.hid hf
  clear hf
  go_enter Tryz.func27, Tryz.ntmps27
  go_wp2_with (fail)
  go_at_call 37
  refine (below_any c B bv _ _ hcur hby hB (by omega)).mono ?_
  rintro e w1 ⟨x, hx, rfl, hc1, hg1⟩
  obtain ⟨j, rfl, hj⟩ : ∃ j : Nat, x = (j : Int) ∧ j < len := ⟨x.toNat, by have := hx.1; omega, by have := hx.1; have := hx.2; omega⟩
  have hcell : w1.cell? ⟨b, j, none⟩ = some (.int .i64 (f j)) := hg1.cell (HF.out j hj) (by simp; omega)
  clear hx
  go_wp2
  go_ret
  exact ⟨_, ⟨j, hj, rfl⟩, rfl, hc1, hg1⟩

theorem lits_at (w : World) (zs : List Int) (T : TypeId) (j : Nat) (h : j < zs.length) :
    (w.alloc (.cells ((zs.map (Value.int .i64)).toArray) T)).cell? ⟨w.heap.size, j, none⟩ = some (.int .i64 (zs.getD j 0)) := by
  rw [World.cell?_alloc_new]
  simp [List.getD, h]
/-- l1Int over a list that was just written out. -/
theorem int_lits (c B : Nat) (bv : Value) (zs : List Int) (n : Nat) (hn : n = zs.length) (w : World) (hcur : CurAt w c bv) (hby : Bytes w B bv) (hB : B ≤ c) (h1 : 1 ≤ zs.length) (hl : zs.length ≤ 1000000) (T : TypeId) :
    Calls Tryz.prog 27 #[.pointer (some ⟨c, 0, none⟩), .slice (some ⟨w.heap.size, 0, none⟩) n n] (w.alloc (.cells ((zs.map (Value.int .i64)).toArray) T))
      (Drawn (fun x => x ∈ zs) c bv w) := by
  subst hn
  refine (int_any c B bv w.heap.size zs.length zs.length (fun j => zs.getD j 0) _ (cur_alloc hcur _) (bytes_alloc hby _) hB (by have := cur_lt hcur; omega) (by simp) h1 hl (fun j hj => lits_at w zs T j hj)).mono ?_
  rintro e w1 ⟨x, ⟨j, hj, rfl⟩, rfl, hc1, hg1⟩
  refine ⟨_, ?_, rfl, hc1, gb_trans (World.grownBy_alloc _ _ _) hg1⟩
  simp [List.getD, hj]

def odds : List Int := [-1, 0, 1, 2, 255, 256, 65535, 2147483647, 2147483648, 4294967295, 4294967296, -2147483648, 9223372036854775807, -9223372036854775808]
theorem odds_fit (x : Int) (h : x ∈ odds) : Fits x := by
  unfold odds at h; unfold Fits
  simp at h
  omega
theorem odd_any (c B : Nat) (bv : Value) (w : World) (hcur : CurAt w c bv) (hby : Bytes w B bv) (hB : B ≤ c) :
    Calls Tryz.prog 26 #[.pointer (some ⟨c, 0, none⟩)] w (Drawn Fits c bv w) := by
  have H := int_lits c B bv odds 14 rfl w hcur hby hB (by decide) (by decide) 3
  go_enter Tryz.func26, Tryz.ntmps26
  go_wp2_with (fail)
  go_at_call 27
  refine H.mono ?_
  rintro e w1 ⟨x, hx, rfl, hc1, hg1⟩
  have HX := Lib.hid (odds_fit x hx)
  clear hx
  go_wp2
  go_ret
  exact ⟨_, HX.out, rfl, hc1, hg1⟩

theorem wrap_fits (n : Int) : Fits (wrap64 n) := by unfold Fits wrap64; omega
end Go.Proofs.YtobhdfkhfmpdlaaGreatDoor.Cur

/-
  PLAIN FACTS on slices of texts: what a slice holds (as a list of texts), how that is kept, how a slice that the call itself has built is such a one, and how one more text is put behind it.
-/
namespace Go.Proofs.YtobhdfkhfmpdlaaGreatDoor.Strs
open Go Go.RowKit
set_option linter.unusedVariables false
set_option maxRecDepth 1000000

theorem info_str : (Tryz.prog.info? 9).map (fun i => (i.zero, i.size, i.bytes)) = some (some (.string ⟨#[]⟩), 1, 16) := by kernel_rfl

/-- A text as a value. -/
def sv (x : List UInt8) : Value := .string ⟨x.toArray⟩
def svs (xs : List (List UInt8)) : List Value := xs.map sv
theorem svs_len (xs : List (List UInt8)) : (svs xs).length = xs.length := by unfold svs; simp
theorem svs_at {xs : List (List UInt8)} {j : Nat} (h : j < xs.length) : (svs xs)[j]? = some (sv (xs.getD j [])) := by unfold svs; simp [List.getD, h]
theorem svs_more (xs : List (List UInt8)) (x : List UInt8) : svs (xs ++ [x]) = svs xs ++ [sv x] := by unfold svs; simp
theorem svs_one (xs : List (List UInt8)) : ∀ u ∈ svs xs, u.oneCell' = true := by
  intro u hu; obtain ⟨x, _, rfl⟩ := List.mem_map.1 hu; rfl
theorem sv_one (x : List UInt8) : ∀ u ∈ [sv x], u.oneCell' = true := by intro u hu; simp at hu; subst hu; rfl

/-- The cells from (b, off) on are these texts. -/
def At (w : World) (b off : Nat) (xs : List (List UInt8)) : Prop := ∀ j, j < xs.length → w.cell? ⟨b, off + j, none⟩ = some (sv (xs.getD j []))
/-- The slice v reads as the texts xs; its cells lie below block B. -/
def Holds (w : World) (B : Nat) (v : Value) (xs : List (List UInt8)) : Prop := (xs = [] ∧ ∃ a cap, v = .slice a 0 cap) ∨ (0 < xs.length ∧ ∃ b off cap, v = .slice (some ⟨b, off, none⟩) xs.length cap ∧ b < B ∧ xs.length ≤ cap ∧ At w b off xs)

theorem lt_of_cell {w : World} {b o : Nat} {u : Value} (h : w.cell? ⟨b, o, none⟩ = some u) : b < w.heap.size := by
  rcases Nat.lt_or_ge b w.heap.size with h' | h'
  · exact h'
  · simp [World.cell?, Array.getElem?_eq_none h'] at h
theorem at_lt {w : World} {b off : Nat} {xs : List (List UInt8)} (h : At w b off xs) (h0 : 0 < xs.length) : b < w.heap.size := lt_of_cell (h 0 h0)
theorem at_below {w w' : World} {B b off : Nat} {xs : List (List UInt8)} (h : At w b off xs) (hb : Below B w w') (hlt : b < B) : At w' b off xs := fun j hj => by
  rw [hb.cell (p := ⟨b, off + j, none⟩) hlt]; exact h j hj
theorem holds_lt {w : World} {B : Nat} {v : Value} {xs : List (List UInt8)} (h : Holds w B v xs) : Holds w w.heap.size v xs := by
  rcases h with h | ⟨h0, b, off, cap, rfl, hB, hc, h1⟩
  · exact Or.inl h
  · exact Or.inr ⟨h0, b, off, cap, rfl, at_lt h1 h0, hc, h1⟩
theorem holds_more {w : World} {B B' : Nat} {v : Value} {xs : List (List UInt8)} (h : Holds w B v xs) (hB : B ≤ B') : Holds w B' v xs := by
  rcases h with h | ⟨h0, b, off, cap, rfl, h2, hc, h1⟩
  · exact Or.inl h
  · exact Or.inr ⟨h0, b, off, cap, rfl, by omega, hc, h1⟩
theorem holds_below {w w' : World} {B : Nat} {v : Value} {xs : List (List UInt8)} (h : Holds w B v xs) (hb : Below B w w') : Holds w' B v xs := by
  rcases h with h | ⟨h0, b, off, cap, rfl, hB, hc, h1⟩
  · exact Or.inl h
  · exact Or.inr ⟨h0, b, off, cap, rfl, hB, hc, at_below h1 hb hB⟩
/-- Kept where only one block of others is written. -/
theorem holds_grown {w w' : World} {B : Nat} {v : Value} {xs : List (List UInt8)} {row : Option Nat} (h : Holds w B v xs) (hg : w.grownBy w' row) (hr : ∀ k, row = some k → B ≤ k) : Holds w' B v xs := by
  rcases h with h | ⟨h0, b, off, cap, rfl, hB, hc, h1⟩
  · exact Or.inl h
  · refine Or.inr ⟨h0, b, off, cap, rfl, hB, hc, fun j hj => ?_⟩
    exact hg.cell (h1 j hj) (fun e => by have := hr b e.symm; omega)
abbrev Own (w : World) (B : Nat) (v : Value) (xs : List (List UInt8)) : Prop := w.ownsRow B 9 1 v xs.length (svs xs)
theorem own_cell {w : World} {B g cap : Nat} {xs : List (List UInt8)} {n : Nat} (h : w.ownsRow B 9 1 (.slice (some ⟨g, 0, none⟩) n cap) n (svs xs)) {j : Nat} (hj : j < n) : w.cell? ⟨g, j, none⟩ = some (sv (xs.getD j [])) := by
  have hn : xs.length = n := by have := h.1; rw [svs_len] at this; omega
  rw [h.cellAt j (by omega)]
  exact svs_at (by omega)
/-- A slice that the call has built reads as what it owns. -/
theorem own_holds {w : World} {B : Nat} {v : Value} {xs : List (List UInt8)} (h : Own w B v xs) : Holds w w.heap.size v xs := by
  have h' := h
  obtain ⟨hl, hc⟩ := h
  rcases hc with ⟨rfl, h0⟩ | ⟨g, cap, cur, rfl, hb, hg, hn, hcap, hs, ht⟩
  · have : xs = [] := List.eq_nil_of_length_eq_zero h0
    subst this; exact Or.inl ⟨rfl, _, _, rfl⟩
  · by_cases h0 : xs = []
    · subst h0; exact Or.inl ⟨rfl, _, _, rfl⟩
    · refine Or.inr ⟨List.length_pos_iff.2 h0, g, 0, cap, rfl, ?_, hn, fun j hj => ?_⟩
      · have := h'.lt g rfl; exact this.2
      · rw [Nat.zero_add]; exact own_cell h' hj
theorem news_one (w : World) (x : Value) (T : TypeId) : ∀ j u, [x][j]? = some u → (w.alloc (.cells #[x] T)).cell? ((⟨w.heap.size, 0, none⟩ : Addr).add j) = some u := by
  intro j u hj
  match j, hj with
  | 0, hj =>
    simp at hj; subst hj
    show World.cell? _ ⟨w.heap.size, 0 + 0, none⟩ = _
    rw [World.cell?_alloc_new]; simp
/-- One more text behind a slice that the call has built. -/
theorem push_own {B : Nat} {a w w1 : World} {v v' : Value} {xs : List (List UInt8)} {x : List UInt8} {o : Obj} (hown : Own w B v xs) (hb : Below a.heap.size a w) (hB : a.heap.size ≤ B)
    (h' : w1.ownsRow B 9 1 v' (xs.length + 1) (svs xs ++ [sv x])) (hg : (w.alloc o).grownBy w1 v.ownBlock) :
    Own w1 B v' (xs ++ [x]) ∧ Below a.heap.size a w1 := by
  refine ⟨by show w1.ownsRow B 9 1 v' (xs ++ [x]).length (svs (xs ++ [x])); rw [List.length_append, svs_more]; exact h', (hb.alloc hb.size o).grown hg (by have := hb.size; simp; omega) (fun k e => Nat.le_trans hB (hown.lt k e).1)⟩
theorem own_lit_nil (w : World) : Own (w.alloc (.cells #[] 9)) w.heap.size (.slice (some ⟨w.heap.size, 0, none⟩) 0 0) [] := World.ownsRow_lit w #[] 0 (Nat.le_refl _) (by decide) rfl
end Go.Proofs.YtobhdfkhfmpdlaaGreatDoor.Strs

/-
  CONTRACT of the model's draw of a text out of a list (l1Str): it answers one of the list's texts, writes into the cursor alone, and leaves it a cursor over the same bytes.
-/
namespace Go.Proofs.YtobhdfkhfmpdlaaGreatDoor.Cur
open Go Go.RowKit
set_option linter.unusedVariables false
set_option maxRecDepth 1000000

/-- How a draw of a text ends. -/
def DrawnS (P : List UInt8 → Prop) (c : Nat) (bv : Value) (w : World) (e : Ending) (w' : World) : Prop :=
  ∃ x : List UInt8, P x ∧ e = .returned (.string ⟨x.toArray⟩) ∧ CurAt w' c bv ∧ w.grownBy w' (some c)

theorem str_any (c B : Nat) (bv : Value) (b : Nat) (cap : Nat) (xs : List (List UInt8)) (w : World) (hcur : CurAt w c bv) (hby : Bytes w B bv) (hB : B ≤ c)
    (hb : b ≠ c) (hc : Strs.At w b 0 xs) (h1 : 1 ≤ xs.length) (hl : xs.length ≤ 1000000) :
    Calls Tryz.prog 18 #[.pointer (some ⟨c, 0, none⟩), .slice (some ⟨b, 0, none⟩) xs.length cap] w (DrawnS (· ∈ xs) c bv w) := by
  have HF := Lib.hid hc
  clear hc
  go_enter Tryz.func18, Tryz.ntmps18
  go_wp2_with (fail)
  go_at_call 37
  refine (below_any c B bv _ _ hcur hby hB (by omega)).mono ?_
  rintro e w1 ⟨x, hx, rfl, hc1, hg1⟩
  obtain ⟨j, rfl, hj⟩ : ∃ j : Nat, x = (j : Int) ∧ j < xs.length := ⟨x.toNat, by have := hx.1; omega, by have := hx.1; have := hx.2; omega⟩
  have hcell : w1.cell? ⟨b, j, none⟩ = some (Strs.sv (xs.getD j [])) := hg1.cell (by have := HF.out j hj; rwa [Nat.zero_add] at this) (by simp; omega)
  have HM : Hid (xs.getD j [] ∈ xs) := Lib.hid (by rw [show xs.getD j [] = xs[j] by simp [List.getD, hj]]; exact List.getElem_mem _)
  generalize xs.getD j [] = y at hcell HM
  unfold Strs.sv at hcell
  clear hx
  go_wp2
  go_ret
  exact ⟨_, HM.out, rfl, hc1, hg1⟩
theorem lits_str (w : World) (xs : List (List UInt8)) (T : TypeId) : Strs.At (w.alloc (.cells ((Strs.svs xs).toArray) T)) w.heap.size 0 xs := by
  intro j hj
  rw [Nat.zero_add, World.cell?_alloc_new]
  have := Strs.svs_at hj
  simpa using this
/-- l1Str over a list that was just written out. -/
theorem str_lits (c B : Nat) (bv : Value) (xs : List (List UInt8)) (n : Nat) (hn : n = xs.length) (w : World) (hcur : CurAt w c bv) (hby : Bytes w B bv) (hB : B ≤ c) (h1 : 1 ≤ xs.length) (hl : xs.length ≤ 1000000) (T : TypeId) :
    Calls Tryz.prog 18 #[.pointer (some ⟨c, 0, none⟩), .slice (some ⟨w.heap.size, 0, none⟩) n n] (w.alloc (.cells ((Strs.svs xs).toArray) T))
      (DrawnS (· ∈ xs) c bv w) := by
  subst hn
  refine (str_any c B bv w.heap.size xs.length xs _ (cur_alloc hcur _) (bytes_alloc hby _) hB (by have := cur_lt hcur; omega) (lits_str w xs T) h1 hl).mono ?_
  rintro e w1 ⟨x, hx, rfl, hc1, hg1⟩
  exact ⟨_, hx, rfl, hc1, gb_trans (World.grownBy_alloc _ _ _) hg1⟩
theorem drawnS_mono {P Q : List UInt8 → Prop} {c : Nat} {bv : Value} {w : World} {e : Ending} {w' : World} (h : DrawnS P c bv w e w') (hpq : ∀ x, P x → Q x) : DrawnS Q c bv w e w' := by
  obtain ⟨x, hx, h⟩ := h; exact ⟨x, hpq x hx, h⟩
end Go.Proofs.YtobhdfkhfmpdlaaGreatDoor.Cur
