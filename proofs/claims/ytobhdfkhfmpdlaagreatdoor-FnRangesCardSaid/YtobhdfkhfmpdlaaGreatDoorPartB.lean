/-
  CONTRACTS AND PLAIN FACTS, several texts in one; each says in its own words what it proves.
-/
import Derived.Test.YtobhdfkhfmpdlaaGreatDoorPartA
import Derived.ChangeSlices
import Derived.Laws.IdiomStrings
import Derived.Laws.BytesArg
import Derived.OwnWalk
import Derived.Laws.OwnMore
import Derived.Laws.AppendOwn
set_option linter.unusedSimpArgs false
set_option linter.unusedVariables false

/-
  CONTRACT of the model's l1Once; and what a cursor and the bytes that it reads keep when another block grows.
-/
namespace Go.Proofs.YtobhdfkhfmpdlaaGreatDoor.Cur
open Go Go.RowKit
set_option linter.unusedVariables false
set_option maxRecDepth 1000000

/-- How a draw of a truth value ends. -/
def DrawnB (c : Nat) (bv : Value) (w : World) (e : Ending) (w' : World) : Prop := ∃ b : Bool, e = .returned (.bool b) ∧ CurAt w' c bv ∧ w.grownBy w' (some c)
theorem once_any (c B : Nat) (bv : Value) (n : Int) (w : World) (hcur : CurAt w c bv) (hby : Bytes w B bv) (hB : B ≤ c) (hn : n ≤ 1000000) :
    Calls Tryz.prog 17 #[.pointer (some ⟨c, 0, none⟩), .int .i64 n] w (DrawnB c bv w) := by
  go_enter Tryz.func17, Tryz.ntmps17
  go_wp2_with (fail)
  go_at_call 37
  refine (below_any c B bv n _ hcur hby hB (by omega)).mono ?_
  rintro e w2 ⟨x, hx, rfl, hc2, hg2⟩
  have HE := Lib.hid (And.intro hc2 hg2)
  clear hx hc2 hg2 hcur hby
  go_wp2
  go_ret
  exact ⟨_, rfl, HE.out.1, HE.out.2⟩

theorem cur_row {w w' : World} {c : Nat} {bv : Value} {row : Option Nat} (h : CurAt w c bv) (hg : w.grownBy w' row) (hne : ∀ k, row = some k → k ≠ c) : CurAt w' c bv := by
  obtain ⟨i, k, h0, hb⟩ := h
  exact ⟨i, k, h0, by rw [hg.block c (lt_of_block hb) (fun e => hne c e.symm rfl)]; exact hb⟩
theorem bytes_row {w w' : World} {B : Nat} {bv : Value} {row : Option Nat} (h : Bytes w B bv) (hg : w.grownBy w' row) (hne : ∀ k, row = some k → B ≤ k) : Bytes w' B bv := by
  rcases h with h | ⟨b, off, len, cap, f, h1, h2, h3, h4, h5⟩
  · exact Or.inl h
  · refine Or.inr ⟨b, off, len, cap, f, h1, h2, Nat.lt_of_lt_of_le h3 hg.size, h4, fun j hj => ⟨(h5 j hj).1, (h5 j hj).2.1, ?_⟩⟩
    exact hg.cell (h5 j hj).2.2 (fun e => by have := hne b e.symm; omega)
theorem gb_own {a w w1 : World} {c : Nat} {row : Option Nat} (h : a.grownBy w (some c)) (hg : w.grownBy w1 row) (hr : ∀ k, row = some k → a.heap.size ≤ k) : a.grownBy w1 (some c) :=
  ⟨hg.os.trans h.os, hg.tape.trans h.tape, hg.output.trans h.output, Nat.le_trans h.size hg.size, fun i hi hn => (hg.block i (Nat.lt_of_lt_of_le hi h.size) (fun e => by have := hr i e.symm; omega)).trans (h.block i hi hn)⟩
theorem gb_near {a w w1 : World} {c : Nat} (h : a.grownBy w (some c)) (hb : Below w.heap.size w w1) : a.grownBy w1 (some c) :=
  ⟨hb.os.trans h.os, hb.tape.trans h.tape, hb.output.trans h.output, Nat.le_trans h.size hb.size, fun i hi hn => (hb.block i (Nat.lt_of_lt_of_le hi h.size)).trans (h.block i hi hn)⟩
theorem cur_below {w w' : World} {c : Nat} {bv : Value} (h : CurAt w c bv) (hb : Below w.heap.size w w') : CurAt w' c bv := by
  obtain ⟨i, k, h0, hq⟩ := h
  exact ⟨i, k, h0, (hb.block c (lt_of_block hq)).trans hq⟩
theorem box_far {W w' : World} {c g : Nat} {a b : Value} {T : TypeId} (hW : W.heap[g]? = some (.cells #[a, b] T (0, 0))) (hg : W.grownBy w' (some c)) (hne : g ≠ c) :
    (w'.cell? ⟨g, 0, none⟩ = some a ∧ w'.cell? ⟨g, 1, none⟩ = some b) ∧ (w'.frozen? ⟨g, 0, none⟩ = false ∧ w'.frozen? ⟨g, 1, none⟩ = false) := by
  have hb := (hg.block g (lt_of_block hW) (by simpa using hne)).trans hW
  simp [World.cell?, World.frozen?, hb]
theorem box_new (w : World) (a b : Value) (T : TypeId) : (w.alloc (.cells #[a, b] T)).heap[w.heap.size]? = some (.cells #[a, b] T (0, 0)) := by
  show (w.heap.push _)[w.heap.size]? = _; simp
end Go.Proofs.YtobhdfkhfmpdlaaGreatDoor.Cur

/-
  CONTRACT of the model's l1New: over any slice of bytes it makes a cursor in a new block of its own; nothing that was there before is changed.
-/
namespace Go.Proofs.YtobhdfkhfmpdlaaGreatDoor.Cur
open Go Go.RowKit
set_option linter.unusedVariables false
set_option maxRecDepth 1000000

def Made (bv : Value) (w : World) (e : Ending) (w' : World) : Prop := ∃ h : Int, e = .returned (.pointer (some ⟨w.heap.size, 0, none⟩)) ∧ w' = w.alloc (.cells #[bv, .int .i64 0, .int .i64 h] 70)

theorem new_nil (a : Option Addr) (cap : Nat) (w : World) :
    Calls Tryz.prog 16 #[.slice a 0 cap] w (Made (.slice a 0 cap) w) := by
  go_enter Tryz.func16, Tryz.ntmps16
  go_wp2
  go_loop [3, 4] (fun h i => i = .int .i64 0 ∧ ∃ x : Int, h = .int .i64 x) (fun _ i => 0)
  case atStart => exact ⟨rfl, _, rfl⟩
  case round =>
    obtain ⟨rfl, x, rfl⟩ := hrel
    go_wp2
    go_ret
    exact ⟨_, rfl, rfl⟩

theorem new_some (b off len cap : Nat) (f : Nat → Int) (w : World) (hl : len ≤ 140737488355328) (hf : ∀ j, j < len → 0 ≤ f j ∧ f j ≤ 255 ∧ w.cell? ⟨b, off + j, none⟩ = some (.int .u8 (f j))) :
    Calls Tryz.prog 16 #[.slice (some ⟨b, off, none⟩) len cap] w (Made (.slice (some ⟨b, off, none⟩) len cap) w) := by
  have HF := Lib.hid hf
  clear hf
  go_enter Tryz.func16, Tryz.ntmps16
  go_wp2
  go_loop [3, 4] (fun h i => ∃ (k : Nat) (x : Int), k ≤ len ∧ i = .int .i64 k ∧ h = .int .i64 x) (fun _ i => len - (intOf i).toNat)
  case atStart => exact ⟨0, _, Nat.zero_le _, rfl, rfl⟩
  case round =>
    obtain ⟨k, x, hk, rfl, rfl⟩ := hrel
    by_cases hlt : k < len
    · by_cases h4 : (k : Int) < 4000
      · obtain ⟨z0, z1, hc⟩ := HF.out k hlt
        go_wp2
        go_round
        case rel => exact ⟨k + 1, _, by omega, by go_num, rfl⟩
        case measure => simp [intOf]; omega
      · go_wp2
        go_ret
        exact ⟨_, rfl, rfl⟩
    · go_wp2
      go_ret
      exact ⟨_, rfl, rfl⟩

theorem new_any (B : Nat) (bv : Value) (w : World) (hby : Bytes w B bv) :
    Calls Tryz.prog 16 #[bv] w (Made bv w) := by
  rcases hby with ⟨a, cap, rfl⟩ | ⟨b, off, len, cap, f, rfl, h2, h3, h4, h5⟩
  · exact new_nil a cap w
  · exact new_some b off len cap f w h4 h5
theorem made_cur (bv : Value) (h : Int) (w : World) : CurAt (w.alloc (.cells #[bv, .int .i64 0, .int .i64 h] 70)) w.heap.size bv :=
  ⟨0, h, by omega, by show (w.heap.push _)[w.heap.size]? = _; simp⟩

theorem bytes_below {w w' : World} {B : Nat} {bv : Value} (h : Bytes w B bv) (hb : Below B w w') : Bytes w' B bv := by
  rcases h with h | ⟨b, off, len, cap, f, h1, h2, h3, h4, h5⟩
  · exact Or.inl h
  · refine Or.inr ⟨b, off, len, cap, f, h1, h2, Nat.lt_of_lt_of_le h3 hb.size, h4, fun j hj => ⟨(h5 j hj).1, (h5 j hj).2.1, ?_⟩⟩
    rw [hb.cell (p := ⟨b, off + j, none⟩) h2]
    exact (h5 j hj).2.2
theorem big_yes (a : Option Addr) (len cap : Nat) (w : World) (h : 1048576 < (len : Int)) :
    Calls Tryz.prog 4 #[.slice a len cap] w fun e w' => e = .returned (.bool true) ∧ w = w' := by
  go_enter Tryz.func4, Tryz.ntmps4
  go_wp2
  go_ret
  exact ⟨by simp, rfl⟩
theorem big_no (a : Option Addr) (len cap : Nat) (w : World) (h : ¬ 1048576 < (len : Int)) :
    Calls Tryz.prog 4 #[.slice a len cap] w fun e w' => e = .returned (.bool false) ∧ w = w' := by
  go_enter Tryz.func4, Tryz.ntmps4
  go_wp2
  go_ret
  exact ⟨by simp, rfl⟩
/-- A law's argument 'code', opened: a slice of bytes. -/
theorem open_code {H : Type} {enc : TypeId × Value → H} {W : World} {base : Nat} {v : Value} {d : DataW H} {p : List MemPlace}
    (hok : Value.okWide Tryz.prog W .any base 22 v) (h : DataW.Trod enc Tryz.prog W 0 (fun _ => true) true 22 v d p) :
    ∃ a len cap, v = .slice a len cap ∧ len ≤ maxLen ∧ (len ≤ 1048576 → Bytes W W.heap.size v) := by
  obtain ⟨a0, len, cap, rfl⟩ := WideShapes.okWide_slice Tryz.underlying22 hok
  obtain ⟨fuel, hf⟩ := h
  have c5 : Tryz.prog.cellsOf 5 = 1 := by kernel_rfl
  rcases ChangeShapes.open_ints Tryz.underlying22 Tryz.underlying5 c5 hf with ⟨hcs, hx⟩ | ⟨a, len', cap', zs, hcs, _, hl, hm, hz, hx, hcell, hwz⟩
  · simp [Value.cells] at hcs
    obtain ⟨rfl, rfl, rfl⟩ := hcs
    exact ⟨_, _, _, rfl, Nat.zero_le _, fun _ => Or.inl ⟨_, _, rfl⟩⟩
  · simp [Value.cells] at hcs
    obtain ⟨rfl, rfl, rfl⟩ := hcs
    simp only [if_true] at hz
    refine ⟨_, _, _, rfl, by omega, fun hlen => ?_⟩
    by_cases hl0 : len = 0
    · subst hl0; exact Or.inl ⟨_, _, rfl⟩
    · obtain ⟨b, off, spot⟩ := a
      have hspot : spot = none := by simpa [Addr.add] using World.cell?_spot (hcell 0 (by omega))
      subst hspot
      have hc : ∀ j, j < len → W.cell? ⟨b, off + j, none⟩ = some (.int .u8 (zs.getD j 0)) := fun j hj => by rw [← WideShapes.add_plain]; exact hcell j (by omega)
      have hbl : b < W.heap.size := by
        have h0 := hc 0 (by omega)
        rcases Nat.lt_or_ge b W.heap.size with h' | h'
        · exact h'
        · simp [World.cell?, Array.getElem?_eq_none h'] at h0
      refine Or.inr ⟨b, off, len, cap, fun j => zs.getD j 0, rfl, hbl, hbl, by omega, fun j hj => ?_⟩
      have hw := bounds_u8 (hwz (zs.getD j 0) (by
        have : zs.getD j 0 = zs[j]'(by omega) := by simp [List.getD, show j < zs.length by omega]
        rw [this]; exact List.getElem_mem _))
      exact ⟨hw.1, hw.2, hc j hj⟩
end Go.Proofs.YtobhdfkhfmpdlaaGreatDoor.Cur

/-
  CONTRACTS of the model's draws out of a list (l1Once, l1Int, l1Str), as functions of the bytes of the draw and of where the cursor stood.
-/
namespace Go.Proofs.YtobhdfkhfmpdlaaGreatDoor.Cf
open Go Go.RowKit Cur
set_option linter.unusedVariables false
set_option maxRecDepth 1000000

theorem once_fn (c B : Nat) (bv : Value) (κ : Src) (st : Int × Int) (n : Int) (w : World) (hcur : CurS w c bv st) (hby : BytesS w B bv κ) (hB : B ≤ c) (hn : n ≤ 1000000) :
    Calls Tryz.prog 17 #[.pointer (some ⟨c, 0, none⟩), .int .i64 n] w (fun e w' => e = .returned (.bool (decide ((belowF κ n st).1 = 0))) ∧ CurS w' c bv (belowF κ n st).2 ∧ w.grownBy w' (some c)) := by
  have c1 := below_fn c B bv κ st n w hcur hby hB (by omega)
  generalize belowF κ n st = p at c1 ⊢
  obtain ⟨x, st1⟩ := p
  go_enter Tryz.func17, Tryz.ntmps17
  go_wp2_with (fail)
  go_at_call 37
  refine c1.mono ?_
  rintro e w2 ⟨rfl, hc2, hg2⟩
  have HE := Lib.hid (And.intro hc2 hg2)
  clear hc2 hg2 hcur hby
  go_wp2
  go_ret
  exact ⟨rfl, HE.out.1, HE.out.2⟩

/-- What l1Int answers out of zs, and where it leaves the cursor. -/
def intF (κ : Src) (zs : List Int) (st : Int × Int) : Int × (Int × Int) := (zs.getD (belowF κ zs.length st).1.toNat 0, (belowF κ zs.length st).2)
theorem intF_mem (κ : Src) (zs : List Int) (st : Int × Int) (h : 1 ≤ zs.length) : (intF κ zs st).1 ∈ zs := by
  have hu := belowF_under κ zs.length st
  unfold intF
  generalize belowF κ zs.length st = p at hu ⊢
  have hj : p.1.toNat < zs.length := by have := hu.1; have := hu.2; omega
  show zs.getD p.1.toNat 0 ∈ zs
  rw [show zs.getD p.1.toNat 0 = zs[p.1.toNat] by simp [List.getD, hj]]
  exact List.getElem_mem _
theorem int_fn (c B : Nat) (bv : Value) (κ : Src) (st : Int × Int) (b cap : Nat) (zs : List Int) (n : Nat) (hn : n = zs.length) (w : World) (hcur : CurS w c bv st) (hby : BytesS w B bv κ) (hB : B ≤ c)
    (hb : b ≠ c) (h1 : 1 ≤ zs.length) (hl : zs.length ≤ 1000000) (hf : ∀ j, j < zs.length → w.cell? ⟨b, j, none⟩ = some (.int .i64 (zs.getD j 0))) :
    Calls Tryz.prog 27 #[.pointer (some ⟨c, 0, none⟩), .slice (some ⟨b, 0, none⟩) n cap] w (DrawnF (intF κ zs st) c bv w) := by
  subst hn
  have HF := Lib.hid hf
  have hu := belowF_under κ zs.length st
  have c1 := below_fn c B bv κ st zs.length w hcur hby hB (by omega)
  unfold DrawnF intF
  generalize belowF κ zs.length st = p at hu c1 ⊢
  obtain ⟨x, st1⟩ := p
  obtain ⟨j, rfl, hj⟩ : ∃ j : Nat, x = (j : Int) ∧ j < zs.length := ⟨x.toNat, by have := hu.1; have : (0 : Int) ≤ x := hu.1; omega, by have : (0 : Int) ≤ x := hu.1; have : x < (zs.length : Int) ∨ _ := hu.2; omega⟩
  show Calls _ _ _ _ (fun e w' => e = .returned (.int .i64 (zs.getD j 0)) ∧ CurS w' c bv st1 ∧ w.grownBy w' (some c))
  have HJ := HF.out j hj
  clear hf hu HF
  generalize zs.getD j 0 = y at HJ ⊢
  have HJ := Lib.hid HJ
  go_enter Tryz.func27, Tryz.ntmps27
  go_wp2_with (fail)
  go_at_call 37
  refine c1.mono ?_
  rintro e w1 ⟨rfl, hc1, hg1⟩
  have hcell : w1.cell? ⟨b, j, none⟩ = some (.int .i64 y) := hg1.cell HJ.out (by simp; omega)
  have HE := Lib.hid (And.intro hc1 hg1)
  clear hc1 hg1 hcur hby c1
  go_wp2
  go_ret
  exact ⟨rfl, HE.out.1, HE.out.2⟩
/-- l1Int over a list that was just written out. -/
theorem int_new (c B : Nat) (bv : Value) (κ : Src) (st : Int × Int) (zs : List Int) (n : Nat) (hn : n = zs.length) (w : World) (hcur : CurS w c bv st) (hby : BytesS w B bv κ) (hB : B ≤ c) (h1 : 1 ≤ zs.length) (hl : zs.length ≤ 1000000) (T : TypeId) :
    Calls Tryz.prog 27 #[.pointer (some ⟨c, 0, none⟩), .slice (some ⟨w.heap.size, 0, none⟩) n n] (w.alloc (.cells ((zs.map (Value.int .i64)).toArray) T)) (DrawnF (intF κ zs st) c bv w) := by
  refine (int_fn c B bv κ st w.heap.size n zs n hn _ (curS_alloc hcur _) (bytesS_alloc hby _) hB (by have := curS_lt hcur; omega) h1 hl (fun j hj => lits_at w zs T j hj)).mono ?_
  rintro e w1 ⟨rfl, hc1, hg1⟩
  exact ⟨rfl, hc1, gb_trans (World.grownBy_alloc _ _ _) hg1⟩

/-- What l1Str answers out of xs, and where it leaves the cursor. -/
def strF (κ : Src) (xs : List (List UInt8)) (st : Int × Int) : List UInt8 × (Int × Int) := (xs.getD (belowF κ xs.length st).1.toNat [], (belowF κ xs.length st).2)
theorem strF_mem (κ : Src) (xs : List (List UInt8)) (st : Int × Int) (h : 1 ≤ xs.length) : (strF κ xs st).1 ∈ xs := by
  have hu := belowF_under κ xs.length st
  unfold strF
  generalize belowF κ xs.length st = p at hu ⊢
  have hj : p.1.toNat < xs.length := by have := hu.1; have := hu.2; omega
  show xs.getD p.1.toNat [] ∈ xs
  rw [show xs.getD p.1.toNat [] = xs[p.1.toNat] by simp [List.getD, hj]]
  exact List.getElem_mem _
/-- How a draw of a text ends, where p tells the text and the cursor's place. -/
def DrawnT (p : List UInt8 × (Int × Int)) (c : Nat) (bv : Value) (w : World) (e : Ending) (w' : World) : Prop := e = .returned (.string ⟨p.1.toArray⟩) ∧ CurS w' c bv p.2 ∧ w.grownBy w' (some c)
theorem str_fn (c B : Nat) (bv : Value) (κ : Src) (st : Int × Int) (b cap : Nat) (xs : List (List UInt8)) (n : Nat) (hn : n = xs.length) (w : World) (hcur : CurS w c bv st) (hby : BytesS w B bv κ) (hB : B ≤ c)
    (hb : b ≠ c) (hc : Strs.At w b 0 xs) (h1 : 1 ≤ xs.length) (hl : xs.length ≤ 1000000) :
    Calls Tryz.prog 18 #[.pointer (some ⟨c, 0, none⟩), .slice (some ⟨b, 0, none⟩) n cap] w (DrawnT (strF κ xs st) c bv w) := by
  subst hn
  have HF := Lib.hid hc
  have hu := belowF_under κ xs.length st
  have c1 := below_fn c B bv κ st xs.length w hcur hby hB (by omega)
  unfold DrawnT strF
  generalize belowF κ xs.length st = p at hu c1 ⊢
  obtain ⟨x, st1⟩ := p
  obtain ⟨j, rfl, hj⟩ : ∃ j : Nat, x = (j : Int) ∧ j < xs.length := ⟨x.toNat, by have : (0 : Int) ≤ x := hu.1; omega, by have : (0 : Int) ≤ x := hu.1; have : x < (xs.length : Int) ∨ _ := hu.2; omega⟩
  show Calls _ _ _ _ (fun e w' => e = .returned (.string ⟨(xs.getD j []).toArray⟩) ∧ CurS w' c bv st1 ∧ w.grownBy w' (some c))
  have HJ := HF.out j hj
  rw [Nat.zero_add] at HJ
  clear hc hu HF
  generalize xs.getD j [] = y at HJ ⊢
  unfold Strs.sv at HJ
  have HJ := Lib.hid HJ
  go_enter Tryz.func18, Tryz.ntmps18
  go_wp2_with (fail)
  go_at_call 37
  refine c1.mono ?_
  rintro e w1 ⟨rfl, hc1, hg1⟩
  have hcell := hg1.cell HJ.out (by simp; omega)
  have HE := Lib.hid (And.intro hc1 hg1)
  clear hc1 hg1 hcur hby c1
  go_wp2
  go_ret
  exact ⟨rfl, HE.out.1, HE.out.2⟩
/-- l1Str over a list that was just written out. -/
theorem str_new (c B : Nat) (bv : Value) (κ : Src) (st : Int × Int) (xs : List (List UInt8)) (n : Nat) (hn : n = xs.length) (w : World) (hcur : CurS w c bv st) (hby : BytesS w B bv κ) (hB : B ≤ c) (h1 : 1 ≤ xs.length) (hl : xs.length ≤ 1000000) (T : TypeId) :
    Calls Tryz.prog 18 #[.pointer (some ⟨c, 0, none⟩), .slice (some ⟨w.heap.size, 0, none⟩) n n] (w.alloc (.cells ((Strs.svs xs).toArray) T)) (DrawnT (strF κ xs st) c bv w) := by
  refine (str_fn c B bv κ st w.heap.size n xs n hn _ (curS_alloc hcur _) (bytesS_alloc hby _) hB (by have := curS_lt hcur; omega) (lits_str w xs T) h1 hl).mono ?_
  rintro e w1 ⟨rfl, hc1, hg1⟩
  exact ⟨rfl, hc1, gb_trans (World.grownBy_alloc _ _ _) hg1⟩
end Go.Proofs.YtobhdfkhfmpdlaaGreatDoor.Cf

/-
  PLAIN FACTS on slices of bytes that a call makes out of a text, or builds byte by byte, and on reading them back as a text.
-/
namespace Go.Proofs.YtobhdfkhfmpdlaaGreatDoor.Bys
open Go Go.RowKit
set_option linter.unusedVariables false
set_option maxRecDepth 1000000

theorem info_byte : (Tryz.prog.info? 5).map (fun i => (i.zero, i.size, i.bytes)) = some (some (.int .u8 0), 1, 1) := by kernel_rfl
def bvl (c : UInt8) : Value := .int .u8 (c.toNat : Int)
def bvs (l : List UInt8) : List Value := l.map bvl
theorem bvs_len (l : List UInt8) : (bvs l).length = l.length := by unfold bvs; simp
theorem bvs_more (l : List UInt8) (c : UInt8) : bvs (l ++ [c]) = bvs l ++ [bvl c] := by unfold bvs; simp
theorem bvl_one (c : UInt8) : ∀ u ∈ [bvl c], u.oneCell' = true := by intro u hu; simp at hu; subst hu; rfl
theorem ret_str {a b : List UInt8} (h : a = b) : Ending.returned (.string ⟨a.toArray⟩) = .returned (.string ⟨b.toArray⟩) := by rw [h]

/-- Block g holds these bytes, from its head on; they can be written. -/
def BAt (w : World) (g : Nat) (l : List UInt8) : Prop := g < w.heap.size ∧ ∀ j, j < l.length → w.cell? ⟨g, j, none⟩ = some (bvl (l.getD j 0)) ∧ w.frozen? ⟨g, j, none⟩ = false
theorem of_string (s : ByteArray) (w : World) : ∃ cap w1, (convert 9 22 (.string s)).run Tryz.prog w = .ok (.slice (some ⟨w.heap.size, 0, none⟩) s.size cap) w1 ∧ BAt w1 w.heap.size s.data.toList ∧ Below w.heap.size w w1 := by
  refine ⟨_, _, run_bytes_of_string w 9 22 5 s Tryz.underlying9 Tryz.underlying22 Tryz.underlying5, ⟨by simp, fun j hj => ?_⟩, (Below.refl _ _).drew.alloc (Nat.le_refl _) _⟩
  have hj' : j < s.data.size := by simpa using hj
  have hc := World.cell?_alloc_mark w.drew (bytesRow s (grownCap w s.size 0 5)) 5 ((bytesRow s (grownCap w s.size 0 5)).size, (bytesRow s (grownCap w s.size 0 5)).size + 1) j
  have hf := World.frozen?_alloc_mark w.drew (bytesRow s (grownCap w s.size 0 5)) 5 (bytesRow s (grownCap w s.size 0 5)).size ((bytesRow s (grownCap w s.size 0 5)).size + 1) j
  have hsz : j < (bytesRow s (grownCap w s.size 0 5)).size := by unfold bytesRow; rw [Array.size_append, Array.size_map]; omega
  refine ⟨?_, ?_⟩
  · refine (hc : _).trans ?_
    rw [bytesRow_at s _ j hj']
    have : s.data.toList.getD j 0 = s.data[j] := by simp [List.getD, Array.getElem?_eq_getElem hj']
    rw [this]; rfl
  · refine (hf : _).trans ?_
    simp; omega
theorem back (w : World) (g cap : Nat) (l : List UInt8) (h : BAt w g l) : (convert 22 9 (.slice (some ⟨g, 0, none⟩) l.length cap)).run Tryz.prog w = .ok (.string ⟨l.toArray⟩) w := by
  refine run_convert_bytes_back (P := Tryz.prog) w 22 9 5 ⟨g, 0, none⟩ cap l Tryz.underlying22 Tryz.underlying5 Tryz.underlying9 (fun j hj => ?_)
  rw [WideShapes.add_plain, Nat.zero_add, (h.2 j hj).1]
  simp [List.getD, hj, bvl]
theorem bat_set {w : World} {g k : Nat} {l : List UInt8} (c : UInt8) (h : BAt w g l) (hk : k < l.length) : BAt (w.setCell ⟨g, k, none⟩ (bvl c)) g (l.set k c) := by
  refine ⟨by simpa [World.setCell] using h.1, fun j hj => ?_⟩
  rw [List.length_set] at hj
  rw [World.frozen?_setCell]
  refine ⟨?_, (h.2 j hj).2⟩
  by_cases e : j = k
  · subst e
    rw [World.cell?_setCell_same' _ _ _ (by rw [(h.2 j hj).1]; rfl)]
    simp [List.getD, hj]
  · rw [World.cell?_setCell_other _ _ _ _ (by intro h'; apply e; injection h' with _ h2; exact h2.symm)]
    rw [(h.2 j hj).1]
    simp [List.getD, hj, List.getElem?_set, show ¬ k = j from fun h' => e h'.symm]
theorem bat_below {w w' : World} {B g : Nat} {l : List UInt8} (h : BAt w g l) (hb : Below B w w') (hg : g < B) : BAt w' g l :=
  ⟨Nat.lt_of_lt_of_le h.1 hb.size, fun j hj => ⟨(hb.cell (p := ⟨g, j, none⟩) hg).trans (h.2 j hj).1, (hb.frozen (p := ⟨g, j, none⟩) hg).trans (h.2 j hj).2⟩⟩
theorem bat_drew {w : World} {g : Nat} {l : List UInt8} (h : BAt w g l) : BAt w.drew g l := h
theorem below_set {B : Nat} {a w : World} {g k : Nat} (u : Value) (h : Below B a w) (hg : B ≤ g) : Below B a (w.setCell ⟨g, k, none⟩ u) := h.setCell hg _

/-! bytes put one behind another -/
abbrev Own (w : World) (B : Nat) (v : Value) (l : List UInt8) : Prop := w.ownsRow B 5 1 v l.length (bvs l)
theorem news_one (w : World) (x : Value) (T : TypeId) : ∀ j u, [x][j]? = some u → (w.alloc (.cells #[x] T)).cell? ((⟨w.heap.size, 0, none⟩ : Addr).add j) = some u := by
  intro j u hj
  match j, hj with
  | 0, hj =>
    simp at hj; subst hj
    show World.cell? _ ⟨w.heap.size, 0 + 0, none⟩ = _
    rw [World.cell?_alloc_new]; simp
theorem push_own {B : Nat} {a w w1 : World} {v v' : Value} {l : List UInt8} {c : UInt8} {o : Obj} (hown : Own w B v l) (hb : Below a.heap.size a w) (hB : a.heap.size ≤ B)
    (h' : w1.ownsRow B 5 1 v' (l.length + 1) (bvs l ++ [bvl c])) (hg : (w.alloc o).grownBy w1 v.ownBlock) :
    Own w1 B v' (l ++ [c]) ∧ Below a.heap.size a w1 := by
  refine ⟨by show w1.ownsRow B 5 1 v' (l ++ [c]).length (bvs (l ++ [c])); rw [List.length_append, bvs_more]; exact h', (hb.alloc hb.size o).grown hg (by have := hb.size; simp; omega) (fun k e => Nat.le_trans hB (hown.lt k e).1)⟩
theorem own_lit_nil (w : World) : Own (w.alloc (.cells #[] 5)) w.heap.size (.slice (some ⟨w.heap.size, 0, none⟩) 0 0) [] := World.ownsRow_lit w #[] 0 (Nat.le_refl _) (by decide) rfl
theorem own_lit_one (w : World) (c : UInt8) : Own (w.alloc (.cells #[bvl c] 5)) w.heap.size (.slice (some ⟨w.heap.size, 0, none⟩) 1 1) [c] := World.ownsRow_lit w #[bvl c] 1 (Nat.le_refl _) (by decide) rfl
/-- A slice of bytes that the call has built, read as a text. -/
theorem own_str {w : World} {B : Nat} {v : Value} {l : List UInt8} (h : Own w B v l) : (convert 22 9 v).run Tryz.prog w = .ok (.string ⟨l.toArray⟩) w := by
  have h' := h
  rcases h.2 with ⟨rfl, h0⟩ | ⟨g, cap, cur, rfl, _⟩
  · have : l = [] := List.eq_nil_of_length_eq_zero (by omega)
    subst this
    exact run_convert_bytes_nil w 22 5 Tryz.underlying22 Tryz.underlying5 0 0 9 Tryz.underlying9
  · refine run_convert_bytes_back (P := Tryz.prog) w 22 9 5 ⟨g, 0, none⟩ cap l Tryz.underlying22 Tryz.underlying5 Tryz.underlying9 (fun j hj => ?_)
    rw [WideShapes.add_plain, Nat.zero_add, h'.cellAt j (by omega)]
    simp [bvs, hj, bvl]
end Go.Proofs.YtobhdfkhfmpdlaaGreatDoor.Bys
