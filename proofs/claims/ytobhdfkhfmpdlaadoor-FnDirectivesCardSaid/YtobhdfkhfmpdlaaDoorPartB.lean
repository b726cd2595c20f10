/-
  CONTRACTS AND PLAIN FACTS, several texts in one; each says in its own words what it proves.
-/
import Derived.Test.YtobhdfkhfmpdlaaDoorPartA
import Derived.ChangeSlices
import Derived.Laws.IdiomStrings
import Derived.Laws.BytesArg
import Derived.OwnWalk
import Derived.Laws.OwnMore
import Derived.Laws.AppendOwn
import Derived.ChangeArms
import Derived.Deep.Slices
import Derived.OneCell
set_option linter.unusedSimpArgs false
set_option linter.unusedVariables false

/-
  CONTRACT of the model's l1New: over any slice of bytes it makes a cursor in a new block of its own; nothing that was there before is changed.
-/
namespace Go.Proofs.YtobhdfkhfmpdlaaDoor.Cur
open Go Go.RowKit
set_option linter.unusedVariables false
set_option maxRecDepth 1000000

def Made (bv : Value) (w : World) (e : Ending) (w' : World) : Prop := ∃ h : Int, e = .returned (.pointer (some ⟨w.heap.size, 0, none⟩)) ∧ w' = w.alloc (.cells #[bv, .int .i64 0, .int .i64 h] 89)

theorem new_nil (a : Option Addr) (cap : Nat) (w : World) :
    Calls Tryd.prog 27 #[.slice a 0 cap] w (Made (.slice a 0 cap) w) := by
  go_enter Tryd.func27, Tryd.ntmps27
  go_wp2
  go_loop [3, 4] (fun h i => i = .int .i64 0 ∧ ∃ x : Int, h = .int .i64 x) (fun _ i => 0)
  case atStart => exact ⟨rfl, _, rfl⟩
  case round =>
    obtain ⟨rfl, x, rfl⟩ := hrel
    go_wp2
    go_ret
    exact ⟨_, rfl, rfl⟩

theorem new_some (b off len cap : Nat) (f : Nat → Int) (w : World) (hl : len ≤ 140737488355328) (hf : ∀ j, j < len → 0 ≤ f j ∧ f j ≤ 255 ∧ w.cell? ⟨b, off + j, none⟩ = some (.int .u8 (f j))) :
    Calls Tryd.prog 27 #[.slice (some ⟨b, off, none⟩) len cap] w (Made (.slice (some ⟨b, off, none⟩) len cap) w) := by
  have HF := Lib.hid hf
  clear hf
  go_enter Tryd.func27, Tryd.ntmps27
  go_wp2
  go_loop [3, 4] (fun h i => ∃ (k : Nat) (x : Int), k ≤ len ∧ i = .int .i64 k ∧ h = .int .i64 x) (fun _ i => len - (intOf i).toNat)
  case atStart => exact ⟨0, _, Nat.zero_le _, rfl, rfl⟩
  case round =>
    obtain ⟨k, x, hk, rfl, rfl⟩ := hrel
    by_cases hlt : k < len
    · by_cases h4 : (k : Int) < 4000
      · obtain ⟨z0, z1, hc⟩ := HF.out k hlt
        go_wp2
        go_round
        case rel => exact ⟨k + 1, _, by omega, by go_num, rfl⟩
        case measure => simp [intOf]; omega
      · go_wp2
        go_ret
        exact ⟨_, rfl, rfl⟩
    · go_wp2
      go_ret
      exact ⟨_, rfl, rfl⟩

theorem new_any (B : Nat) (bv : Value) (w : World) (hby : Bytes w B bv) :
    Calls Tryd.prog 27 #[bv] w (Made bv w) := by
  rcases hby with ⟨a, cap, rfl⟩ | ⟨b, off, len, cap, f, rfl, h2, h3, h4, h5⟩
  · exact new_nil a cap w
  · exact new_some b off len cap f w h4 h5
theorem made_cur (bv : Value) (h : Int) (w : World) : CurAt (w.alloc (.cells #[bv, .int .i64 0, .int .i64 h] 89)) w.heap.size bv :=
  ⟨0, h, by omega, by show (w.heap.push _)[w.heap.size]? = _; simp⟩

theorem bytes_below {w w' : World} {B : Nat} {bv : Value} (h : Bytes w B bv) (hb : Below B w w') : Bytes w' B bv := by
  rcases h with h | ⟨b, off, len, cap, f, h1, h2, h3, h4, h5⟩
  · exact Or.inl h
  · refine Or.inr ⟨b, off, len, cap, f, h1, h2, Nat.lt_of_lt_of_le h3 hb.size, h4, fun j hj => ⟨(h5 j hj).1, (h5 j hj).2.1, ?_⟩⟩
    rw [hb.cell (p := ⟨b, off + j, none⟩) h2]
    exact (h5 j hj).2.2
theorem big_yes (a : Option Addr) (len cap : Nat) (w : World) (h : 1048576 < (len : Int)) :
    Calls Tryd.prog 5 #[.slice a len cap] w fun e w' => e = .returned (.bool true) ∧ w = w' := by
  go_enter Tryd.func5, Tryd.ntmps5
  go_wp2
  go_ret
  exact ⟨by simp, rfl⟩
theorem big_no (a : Option Addr) (len cap : Nat) (w : World) (h : ¬ 1048576 < (len : Int)) :
    Calls Tryd.prog 5 #[.slice a len cap] w fun e w' => e = .returned (.bool false) ∧ w = w' := by
  go_enter Tryd.func5, Tryd.ntmps5
  go_wp2
  go_ret
  exact ⟨by simp, rfl⟩
/-- A law's argument 'code', opened: a slice of bytes. -/
theorem open_code {H : Type} {enc : TypeId × Value → H} {W : World} {base : Nat} {v : Value} {d : DataW H} {p : List MemPlace}
    (hok : Value.okWide Tryd.prog W .any base 22 v) (h : DataW.Trod enc Tryd.prog W 0 (fun _ => true) true 22 v d p) :
    ∃ a len cap, v = .slice a len cap ∧ len ≤ maxLen ∧ (len ≤ 1048576 → Bytes W W.heap.size v) := by
  obtain ⟨a0, len, cap, rfl⟩ := WideShapes.okWide_slice Tryd.underlying22 hok
  obtain ⟨fuel, hf⟩ := h
  have c5 : Tryd.prog.cellsOf 5 = 1 := by kernel_rfl
  rcases ChangeShapes.open_ints Tryd.underlying22 Tryd.underlying5 c5 hf with ⟨hcs, hx⟩ | ⟨a, len', cap', zs, hcs, _, hl, hm, hz, hx, hcell, hwz⟩
  · simp [Value.cells] at hcs
    obtain ⟨rfl, rfl, rfl⟩ := hcs
    exact ⟨_, _, _, rfl, Nat.zero_le _, fun _ => Or.inl ⟨_, _, rfl⟩⟩
  · simp [Value.cells] at hcs
    obtain ⟨rfl, rfl, rfl⟩ := hcs
    simp only [if_true] at hz
    refine ⟨_, _, _, rfl, by omega, fun hlen => ?_⟩
    by_cases hl0 : len = 0
    · subst hl0; exact Or.inl ⟨_, _, rfl⟩
    · obtain ⟨b, off, spot⟩ := a
      have hspot : spot = none := by simpa [Addr.add] using World.cell?_spot (hcell 0 (by omega))
      subst hspot
      have hc : ∀ j, j < len → W.cell? ⟨b, off + j, none⟩ = some (.int .u8 (zs.getD j 0)) := fun j hj => by rw [← WideShapes.add_plain]; exact hcell j (by omega)
      have hbl : b < W.heap.size := by
        have h0 := hc 0 (by omega)
        rcases Nat.lt_or_ge b W.heap.size with h' | h'
        · exact h'
        · simp [World.cell?, Array.getElem?_eq_none h'] at h0
      refine Or.inr ⟨b, off, len, cap, fun j => zs.getD j 0, rfl, hbl, hbl, by omega, fun j hj => ?_⟩
      have hw := bounds_u8 (hwz (zs.getD j 0) (by
        have : zs.getD j 0 = zs[j]'(by omega) := by simp [List.getD, show j < zs.length by omega]
        rw [this]; exact List.getElem_mem _))
      exact ⟨hw.1, hw.2, hc j hj⟩
end Go.Proofs.YtobhdfkhfmpdlaaDoor.Cur

/-
  CONTRACTS of the model's draws out of a list (l1Once, l1Int, l1Str), as functions of the bytes of the draw and of where the cursor stood.
-/
namespace Go.Proofs.YtobhdfkhfmpdlaaDoor.Cf
open Go Go.RowKit Cur
set_option linter.unusedVariables false
set_option maxRecDepth 1000000

theorem once_fn (c B : Nat) (bv : Value) (κ : Src) (st : Int × Int) (n : Int) (w : World) (hcur : CurS w c bv st) (hby : BytesS w B bv κ) (hB : B ≤ c) (hn : n ≤ 1000000) :
    Calls Tryd.prog 76 #[.pointer (some ⟨c, 0, none⟩), .int .i64 n] w (fun e w' => e = .returned (.bool (decide ((belowF κ n st).1 = 0))) ∧ CurS w' c bv (belowF κ n st).2 ∧ w.grownBy w' (some c)) := by
  have c1 := below_fn c B bv κ st n w hcur hby hB (by omega)
  generalize belowF κ n st = p at c1 ⊢
  obtain ⟨x, st1⟩ := p
  go_enter Tryd.func76, Tryd.ntmps76
  go_wp2_with (fail)
  go_at_call 66
  refine c1.mono ?_
  rintro e w2 ⟨rfl, hc2, hg2⟩
  have HE := Lib.hid (And.intro hc2 hg2)
  clear hc2 hg2 hcur hby
  go_wp2
  go_ret
  exact ⟨rfl, HE.out.1, HE.out.2⟩

/-- What l1Int answers out of zs, and where it leaves the cursor. -/
def intF (κ : Src) (zs : List Int) (st : Int × Int) : Int × (Int × Int) := (zs.getD (belowF κ zs.length st).1.toNat 0, (belowF κ zs.length st).2)
theorem intF_mem (κ : Src) (zs : List Int) (st : Int × Int) (h : 1 ≤ zs.length) : (intF κ zs st).1 ∈ zs := by
  have hu := belowF_under κ zs.length st
  unfold intF
  generalize belowF κ zs.length st = p at hu ⊢
  have hj : p.1.toNat < zs.length := by have := hu.1; have := hu.2; omega
  show zs.getD p.1.toNat 0 ∈ zs
  rw [show zs.getD p.1.toNat 0 = zs[p.1.toNat] by simp [List.getD, hj]]
  exact List.getElem_mem _
theorem int_fn (c B : Nat) (bv : Value) (κ : Src) (st : Int × Int) (b cap : Nat) (zs : List Int) (n : Nat) (hn : n = zs.length) (w : World) (hcur : CurS w c bv st) (hby : BytesS w B bv κ) (hB : B ≤ c)
    (hb : b ≠ c) (h1 : 1 ≤ zs.length) (hl : zs.length ≤ 1000000) (hf : ∀ j, j < zs.length → w.cell? ⟨b, j, none⟩ = some (.int .i64 (zs.getD j 0))) :
    Calls Tryd.prog 67 #[.pointer (some ⟨c, 0, none⟩), .slice (some ⟨b, 0, none⟩) n cap] w (DrawnF (intF κ zs st) c bv w) := by
  subst hn
  have HF := Lib.hid hf
  have hu := belowF_under κ zs.length st
  have c1 := below_fn c B bv κ st zs.length w hcur hby hB (by omega)
  unfold DrawnF intF
  generalize belowF κ zs.length st = p at hu c1 ⊢
  obtain ⟨x, st1⟩ := p
  obtain ⟨j, rfl, hj⟩ : ∃ j : Nat, x = (j : Int) ∧ j < zs.length := ⟨x.toNat, by have := hu.1; have : (0 : Int) ≤ x := hu.1; omega, by have : (0 : Int) ≤ x := hu.1; have : x < (zs.length : Int) ∨ _ := hu.2; omega⟩
  show Calls _ _ _ _ (fun e w' => e = .returned (.int .i64 (zs.getD j 0)) ∧ CurS w' c bv st1 ∧ w.grownBy w' (some c))
  have HJ := HF.out j hj
  clear hf hu HF
  generalize zs.getD j 0 = y at HJ ⊢
  have HJ := Lib.hid HJ
  go_enter Tryd.func67, Tryd.ntmps67
  go_wp2_with (fail)
  go_at_call 66
  refine c1.mono ?_
  rintro e w1 ⟨rfl, hc1, hg1⟩
  have hcell : w1.cell? ⟨b, j, none⟩ = some (.int .i64 y) := hg1.cell HJ.out (by simp; omega)
  have HE := Lib.hid (And.intro hc1 hg1)
  clear hc1 hg1 hcur hby c1
  go_wp2
  go_ret
  exact ⟨rfl, HE.out.1, HE.out.2⟩
/-- l1Int over a list that was just written out. -/
theorem int_new (c B : Nat) (bv : Value) (κ : Src) (st : Int × Int) (zs : List Int) (n : Nat) (hn : n = zs.length) (w : World) (hcur : CurS w c bv st) (hby : BytesS w B bv κ) (hB : B ≤ c) (h1 : 1 ≤ zs.length) (hl : zs.length ≤ 1000000) (T : TypeId) :
    Calls Tryd.prog 67 #[.pointer (some ⟨c, 0, none⟩), .slice (some ⟨w.heap.size, 0, none⟩) n n] (w.alloc (.cells ((zs.map (Value.int .i64)).toArray) T)) (DrawnF (intF κ zs st) c bv w) := by
  refine (int_fn c B bv κ st w.heap.size n zs n hn _ (curS_alloc hcur _) (bytesS_alloc hby _) hB (by have := curS_lt hcur; omega) h1 hl (fun j hj => lits_at w zs T j hj)).mono ?_
  rintro e w1 ⟨rfl, hc1, hg1⟩
  exact ⟨rfl, hc1, gb_trans (World.grownBy_alloc _ _ _) hg1⟩

/-- What l1Str answers out of xs, and where it leaves the cursor. -/
def strF (κ : Src) (xs : List (List UInt8)) (st : Int × Int) : List UInt8 × (Int × Int) := (xs.getD (belowF κ xs.length st).1.toNat [], (belowF κ xs.length st).2)
theorem strF_mem (κ : Src) (xs : List (List UInt8)) (st : Int × Int) (h : 1 ≤ xs.length) : (strF κ xs st).1 ∈ xs := by
  have hu := belowF_under κ xs.length st
  unfold strF
  generalize belowF κ xs.length st = p at hu ⊢
  have hj : p.1.toNat < xs.length := by have := hu.1; have := hu.2; omega
  show xs.getD p.1.toNat [] ∈ xs
  rw [show xs.getD p.1.toNat [] = xs[p.1.toNat] by simp [List.getD, hj]]
  exact List.getElem_mem _
/-- How a draw of a text ends, where p tells the text and the cursor's place. -/
def DrawnT (p : List UInt8 × (Int × Int)) (c : Nat) (bv : Value) (w : World) (e : Ending) (w' : World) : Prop := e = .returned (.string ⟨p.1.toArray⟩) ∧ CurS w' c bv p.2 ∧ w.grownBy w' (some c)
theorem str_fn (c B : Nat) (bv : Value) (κ : Src) (st : Int × Int) (b cap : Nat) (xs : List (List UInt8)) (n : Nat) (hn : n = xs.length) (w : World) (hcur : CurS w c bv st) (hby : BytesS w B bv κ) (hB : B ≤ c)
    (hb : b ≠ c) (hc : Strs.At w b 0 xs) (h1 : 1 ≤ xs.length) (hl : xs.length ≤ 1000000) :
    Calls Tryd.prog 41 #[.pointer (some ⟨c, 0, none⟩), .slice (some ⟨b, 0, none⟩) n cap] w (DrawnT (strF κ xs st) c bv w) := by
  subst hn
  have HF := Lib.hid hc
  have hu := belowF_under κ xs.length st
  have c1 := below_fn c B bv κ st xs.length w hcur hby hB (by omega)
  unfold DrawnT strF
  generalize belowF κ xs.length st = p at hu c1 ⊢
  obtain ⟨x, st1⟩ := p
  obtain ⟨j, rfl, hj⟩ : ∃ j : Nat, x = (j : Int) ∧ j < xs.length := ⟨x.toNat, by have : (0 : Int) ≤ x := hu.1; omega, by have : (0 : Int) ≤ x := hu.1; have : x < (xs.length : Int) ∨ _ := hu.2; omega⟩
  show Calls _ _ _ _ (fun e w' => e = .returned (.string ⟨(xs.getD j []).toArray⟩) ∧ CurS w' c bv st1 ∧ w.grownBy w' (some c))
  have HJ := HF.out j hj
  rw [Nat.zero_add] at HJ
  clear hc hu HF
  generalize xs.getD j [] = y at HJ ⊢
  unfold Strs.sv at HJ
  have HJ := Lib.hid HJ
  go_enter Tryd.func41, Tryd.ntmps41
  go_wp2_with (fail)
  go_at_call 66
  refine c1.mono ?_
  rintro e w1 ⟨rfl, hc1, hg1⟩
  have hcell := hg1.cell HJ.out (by simp; omega)
  have HE := Lib.hid (And.intro hc1 hg1)
  clear hc1 hg1 hcur hby c1
  go_wp2
  go_ret
  exact ⟨rfl, HE.out.1, HE.out.2⟩
/-- l1Str over a list that was just written out. -/
theorem str_new (c B : Nat) (bv : Value) (κ : Src) (st : Int × Int) (xs : List (List UInt8)) (n : Nat) (hn : n = xs.length) (w : World) (hcur : CurS w c bv st) (hby : BytesS w B bv κ) (hB : B ≤ c) (h1 : 1 ≤ xs.length) (hl : xs.length ≤ 1000000) (T : TypeId) :
    Calls Tryd.prog 41 #[.pointer (some ⟨c, 0, none⟩), .slice (some ⟨w.heap.size, 0, none⟩) n n] (w.alloc (.cells ((Strs.svs xs).toArray) T)) (DrawnT (strF κ xs st) c bv w) := by
  refine (str_fn c B bv κ st w.heap.size n xs n hn _ (curS_alloc hcur _) (bytesS_alloc hby _) hB (by have := curS_lt hcur; omega) (lits_str w xs T) h1 hl).mono ?_
  rintro e w1 ⟨rfl, hc1, hg1⟩
  exact ⟨rfl, hc1, gb_trans (World.grownBy_alloc _ _ _) hg1⟩
end Go.Proofs.YtobhdfkhfmpdlaaDoor.Cf

/-
  PLAIN FACTS on slices of bytes that a call makes out of a text, or builds byte by byte, and on reading them back as a text.
-/
namespace Go.Proofs.YtobhdfkhfmpdlaaDoor.Bys
open Go Go.RowKit
set_option linter.unusedVariables false
set_option maxRecDepth 1000000

theorem info_byte : (Tryd.prog.info? 5).map (fun i => (i.zero, i.size, i.bytes)) = some (some (.int .u8 0), 1, 1) := by kernel_rfl
def bvl (c : UInt8) : Value := .int .u8 (c.toNat : Int)
def bvs (l : List UInt8) : List Value := l.map bvl
theorem bvs_len (l : List UInt8) : (bvs l).length = l.length := by unfold bvs; simp
theorem bvs_more (l : List UInt8) (c : UInt8) : bvs (l ++ [c]) = bvs l ++ [bvl c] := by unfold bvs; simp
theorem bvl_one (c : UInt8) : ∀ u ∈ [bvl c], u.oneCell' = true := by intro u hu; simp at hu; subst hu; rfl
theorem ret_str {a b : List UInt8} (h : a = b) : Ending.returned (.string ⟨a.toArray⟩) = .returned (.string ⟨b.toArray⟩) := by rw [h]

/-- Block g holds these bytes, from its head on; they can be written. -/
def BAt (w : World) (g : Nat) (l : List UInt8) : Prop := g < w.heap.size ∧ ∀ j, j < l.length → w.cell? ⟨g, j, none⟩ = some (bvl (l.getD j 0)) ∧ w.frozen? ⟨g, j, none⟩ = false
theorem of_string (s : ByteArray) (w : World) : ∃ cap w1, (convert 9 22 (.string s)).run Tryd.prog w = .ok (.slice (some ⟨w.heap.size, 0, none⟩) s.size cap) w1 ∧ BAt w1 w.heap.size s.data.toList ∧ Below w.heap.size w w1 := by
  refine ⟨_, _, run_bytes_of_string w 9 22 5 s Tryd.underlying9 Tryd.underlying22 Tryd.underlying5, ⟨by simp, fun j hj => ?_⟩, (Below.refl _ _).drew.alloc (Nat.le_refl _) _⟩
  have hj' : j < s.data.size := by simpa using hj
  have hc := World.cell?_alloc_mark w.drew (bytesRow s (grownCap w s.size 0 5)) 5 ((bytesRow s (grownCap w s.size 0 5)).size, (bytesRow s (grownCap w s.size 0 5)).size + 1) j
  have hf := World.frozen?_alloc_mark w.drew (bytesRow s (grownCap w s.size 0 5)) 5 (bytesRow s (grownCap w s.size 0 5)).size ((bytesRow s (grownCap w s.size 0 5)).size + 1) j
  have hsz : j < (bytesRow s (grownCap w s.size 0 5)).size := by unfold bytesRow; rw [Array.size_append, Array.size_map]; omega
  refine ⟨?_, ?_⟩
  · refine (hc : _).trans ?_
    rw [bytesRow_at s _ j hj']
    have : s.data.toList.getD j 0 = s.data[j] := by simp [List.getD, Array.getElem?_eq_getElem hj']
    rw [this]; rfl
  · refine (hf : _).trans ?_
    simp; omega
theorem back (w : World) (g cap : Nat) (l : List UInt8) (h : BAt w g l) : (convert 22 9 (.slice (some ⟨g, 0, none⟩) l.length cap)).run Tryd.prog w = .ok (.string ⟨l.toArray⟩) w := by
  refine run_convert_bytes_back (P := Tryd.prog) w 22 9 5 ⟨g, 0, none⟩ cap l Tryd.underlying22 Tryd.underlying5 Tryd.underlying9 (fun j hj => ?_)
  rw [WideShapes.add_plain, Nat.zero_add, (h.2 j hj).1]
  simp [List.getD, hj, bvl]
theorem bat_set {w : World} {g k : Nat} {l : List UInt8} (c : UInt8) (h : BAt w g l) (hk : k < l.length) : BAt (w.setCell ⟨g, k, none⟩ (bvl c)) g (l.set k c) := by
  refine ⟨by simpa [World.setCell] using h.1, fun j hj => ?_⟩
  rw [List.length_set] at hj
  rw [World.frozen?_setCell]
  refine ⟨?_, (h.2 j hj).2⟩
  by_cases e : j = k
  · subst e
    rw [World.cell?_setCell_same' _ _ _ (by rw [(h.2 j hj).1]; rfl)]
    simp [List.getD, hj]
  · rw [World.cell?_setCell_other _ _ _ _ (by intro h'; apply e; injection h' with _ h2; exact h2.symm)]
    rw [(h.2 j hj).1]
    simp [List.getD, hj, List.getElem?_set, show ¬ k = j from fun h' => e h'.symm]
theorem bat_below {w w' : World} {B g : Nat} {l : List UInt8} (h : BAt w g l) (hb : Below B w w') (hg : g < B) : BAt w' g l :=
  ⟨Nat.lt_of_lt_of_le h.1 hb.size, fun j hj => ⟨(hb.cell (p := ⟨g, j, none⟩) hg).trans (h.2 j hj).1, (hb.frozen (p := ⟨g, j, none⟩) hg).trans (h.2 j hj).2⟩⟩
theorem bat_drew {w : World} {g : Nat} {l : List UInt8} (h : BAt w g l) : BAt w.drew g l := h
theorem below_set {B : Nat} {a w : World} {g k : Nat} (u : Value) (h : Below B a w) (hg : B ≤ g) : Below B a (w.setCell ⟨g, k, none⟩ u) := h.setCell hg _

/-! bytes put one behind another -/
abbrev Own (w : World) (B : Nat) (v : Value) (l : List UInt8) : Prop := w.ownsRow B 5 1 v l.length (bvs l)
theorem news_one (w : World) (x : Value) (T : TypeId) : ∀ j u, [x][j]? = some u → (w.alloc (.cells #[x] T)).cell? ((⟨w.heap.size, 0, none⟩ : Addr).add j) = some u := by
  intro j u hj
  match j, hj with
  | 0, hj =>
    simp at hj; subst hj
    show World.cell? _ ⟨w.heap.size, 0 + 0, none⟩ = _
    rw [World.cell?_alloc_new]; simp
theorem push_own {B : Nat} {a w w1 : World} {v v' : Value} {l : List UInt8} {c : UInt8} {o : Obj} (hown : Own w B v l) (hb : Below a.heap.size a w) (hB : a.heap.size ≤ B)
    (h' : w1.ownsRow B 5 1 v' (l.length + 1) (bvs l ++ [bvl c])) (hg : (w.alloc o).grownBy w1 v.ownBlock) :
    Own w1 B v' (l ++ [c]) ∧ Below a.heap.size a w1 := by
  refine ⟨by show w1.ownsRow B 5 1 v' (l ++ [c]).length (bvs (l ++ [c])); rw [List.length_append, bvs_more]; exact h', (hb.alloc hb.size o).grown hg (by have := hb.size; simp; omega) (fun k e => Nat.le_trans hB (hown.lt k e).1)⟩
theorem own_lit_nil (w : World) : Own (w.alloc (.cells #[] 5)) w.heap.size (.slice (some ⟨w.heap.size, 0, none⟩) 0 0) [] := World.ownsRow_lit w #[] 0 (Nat.le_refl _) (by decide) rfl
theorem own_lit_one (w : World) (c : UInt8) : Own (w.alloc (.cells #[bvl c] 5)) w.heap.size (.slice (some ⟨w.heap.size, 0, none⟩) 1 1) [c] := World.ownsRow_lit w #[bvl c] 1 (Nat.le_refl _) (by decide) rfl
/-- A slice of bytes that the call has built, read as a text. -/
theorem own_str {w : World} {B : Nat} {v : Value} {l : List UInt8} (h : Own w B v l) : (convert 22 9 v).run Tryd.prog w = .ok (.string ⟨l.toArray⟩) w := by
  have h' := h
  rcases h.2 with ⟨rfl, h0⟩ | ⟨g, cap, cur, rfl, _⟩
  · have : l = [] := List.eq_nil_of_length_eq_zero (by omega)
    subst this
    exact run_convert_bytes_nil w 22 5 Tryd.underlying22 Tryd.underlying5 0 0 9 Tryd.underlying9
  · refine run_convert_bytes_back (P := Tryd.prog) w 22 9 5 ⟨g, 0, none⟩ cap l Tryd.underlying22 Tryd.underlying5 Tryd.underlying9 (fun j hj => ?_)
    rw [WideShapes.add_plain, Nat.zero_add, h'.cellAt j (by omega)]
    simp [bvs, hj, bvl]
end Go.Proofs.YtobhdfkhfmpdlaaDoor.Bys

/-
  PLAIN FACTS on slices of structs whose fields are one cell each, whatever the struct ('cs a': the cells of a; n: how many; z: the zero): what a slice holds, how that is kept, how a slice that the call itself has built is such a one, and how its places are filled.
-/
namespace Go.Proofs.YtobhdfkhfmpdlaaDoor.Rec
open Go Go.RowKit
set_option linter.unusedVariables false
set_option maxRecDepth 1000000

def flat {α : Type} (cs : α → List Value) (l : List α) : List Value := l.flatMap cs
/-- Values set one behind the other, from place o on. -/
def put (xs : List Value) (o : Nat) : List Value → List Value
  | [] => xs
  | u :: us => put (xs.set o u) (o + 1) us
theorem put_right (xs ys us : List Value) (o : Nat) : put (xs ++ ys) (xs.length + o) us = xs ++ put ys o us := by
  induction us generalizing ys o with
  | nil => rfl
  | cons u us ih =>
    show put ((xs ++ ys).set (xs.length + o) u) (xs.length + o + 1) us = xs ++ put (ys.set o u) (o + 1) us
    rw [List.set_append_right _ _ (by omega), show xs.length + o - xs.length = o by omega, Nat.add_assoc, ih]
theorem put_full (bs ys us : List Value) (h : us.length = bs.length) : put (bs ++ ys) 0 us = us ++ ys := by
  induction us generalizing bs with
  | nil => have : bs = [] := List.eq_nil_of_length_eq_zero h.symm; subst this; rfl
  | cons u us ih =>
    cases bs with
    | nil => simp at h
    | cons b bs =>
      show put (u :: (bs ++ ys)) (0 + 1) us = u :: us ++ ys
      have h1 := put_right [u] (bs ++ ys) us 0
      simp only [List.length_singleton, List.cons_append, List.nil_append] at h1
      rw [show (0 + 1 : Nat) = 1 + 0 by rfl, h1, ih bs (by simpa using h)]; rfl

section
variable {α : Type} {n : Nat} {cs : α → List Value} {z : α}
theorem flat_len (hl : ∀ a, (cs a).length = n) (l : List α) : (flat cs l).length = l.length * n := by
  unfold flat
  induction l with
  | nil => simp
  | cons a r ih => rw [List.flatMap_cons, List.length_append, ih, hl, List.length_cons, Nat.succ_mul]; omega
theorem flat_more (l : List α) (a : α) : flat cs (l ++ [a]) = flat cs l ++ cs a := by unfold flat; simp
theorem flat_append (l r : List α) : flat cs (l ++ r) = flat cs l ++ flat cs r := by unfold flat; simp
theorem flat_at (hl : ∀ a, (cs a).length = n) {l : List α} {j i : Nat} {u : Value} (h : j < l.length) (hu : (cs (l.getD j z))[i]? = some u) : (flat cs l)[j * n + i]? = some u := by
  unfold flat
  induction l generalizing j with
  | nil => simp at h
  | cons a r ih =>
    cases j with
    | zero =>
      have hu' : (cs a)[i]? = some u := hu
      rw [List.flatMap_cons, Nat.zero_mul, Nat.zero_add, List.getElem?_append_left (by exact (List.getElem?_eq_some_iff.1 hu').1)]
      exact hu'
    | succ j =>
      rw [List.flatMap_cons, List.getElem?_append_right (by rw [hl, Nat.succ_mul]; omega), hl, show (j + 1) * n + i - n = j * n + i by rw [Nat.succ_mul]; omega]
      exact ih (by simpa using h) hu
theorem flat_one (h1 : ∀ a, ∀ u ∈ cs a, u.oneCell' = true) (l : List α) : ∀ u ∈ flat cs l, u.oneCell' = true := by
  intro u hu
  obtain ⟨f, _, hf⟩ := List.mem_flatMap.1 hu
  exact h1 f u hf
/-- All cells of one place are set. -/
theorem flat_put (hl : ∀ a, (cs a).length = n) {l : List α} {k : Nat} (a : α) (h : k < l.length) : put (flat cs l) (k * n) (cs a) = flat cs (l.set k a) := by
  induction l generalizing k with
  | nil => simp at h
  | cons b r ih =>
    cases k with
    | zero =>
      show put (cs b ++ flat cs r) (0 * n) (cs a) = cs a ++ flat cs r
      rw [Nat.zero_mul, put_full _ _ _ (by rw [hl, hl])]
    | succ k =>
      show put (cs b ++ flat cs r) ((k + 1) * n) (cs a) = cs b ++ flat cs (r.set k a)
      rw [show (k + 1) * n = (cs b).length + k * n by rw [hl, Nat.succ_mul]; omega, put_right, ih (by simpa using h)]

/-- The cells from (b, off) on are these structs. -/
def At (n : Nat) (cs : α → List Value) (z : α) (w : World) (b off : Nat) (l : List α) : Prop := ∀ j, j < l.length → ∀ i u, (cs (l.getD j z))[i]? = some u → w.cell? ⟨b, off + j * n + i, none⟩ = some u
/-- The slice v reads as the structs l; its cells lie below block B. -/
def Holds (n : Nat) (cs : α → List Value) (z : α) (w : World) (B : Nat) (v : Value) (l : List α) : Prop := (l = [] ∧ ∃ a cap, v = .slice a 0 cap) ∨ (0 < l.length ∧ ∃ b off cap, v = .slice (some ⟨b, off, none⟩) l.length cap ∧ b < B ∧ l.length ≤ cap ∧ At n cs z w b off l)
theorem lt_of_cell {w : World} {b o : Nat} {u : Value} (h : w.cell? ⟨b, o, none⟩ = some u) : b < w.heap.size := by
  rcases Nat.lt_or_ge b w.heap.size with h' | h'
  · exact h'
  · simp [World.cell?, Array.getElem?_eq_none h'] at h
theorem at_lt (hl : ∀ a, (cs a).length = n) (hn : 0 < n) {w : World} {b off : Nat} {l : List α} (h : At n cs z w b off l) (h0 : 0 < l.length) : b < w.heap.size := by
  have h1 : 0 < (cs (l.getD 0 z)).length := by rw [hl]; exact hn
  exact lt_of_cell (h 0 h0 0 _ (List.getElem?_eq_getElem h1))
theorem at_below {w w' : World} {B b off : Nat} {l : List α} (h : At n cs z w b off l) (hb : Below B w w') (hlt : b < B) : At n cs z w' b off l := fun j hj i u hu => by
  rw [hb.cell (p := ⟨b, off + j * n + i, none⟩) hlt]; exact h j hj i u hu
theorem holds_more {w : World} {B B' : Nat} {v : Value} {l : List α} (h : Holds n cs z w B v l) (hB : B ≤ B') : Holds n cs z w B' v l := by
  rcases h with h | ⟨h0, b, off, cap, rfl, h2, hc, h1⟩
  · exact Or.inl h
  · exact Or.inr ⟨h0, b, off, cap, rfl, by omega, hc, h1⟩
theorem holds_below {w w' : World} {B : Nat} {v : Value} {l : List α} (h : Holds n cs z w B v l) (hb : Below B w w') : Holds n cs z w' B v l := by
  rcases h with h | ⟨h0, b, off, cap, rfl, hB, hc, h1⟩
  · exact Or.inl h
  · exact Or.inr ⟨h0, b, off, cap, rfl, hB, hc, at_below h1 hb hB⟩
theorem holds_grown {w w' : World} {B : Nat} {v : Value} {l : List α} {row : Option Nat} (h : Holds n cs z w B v l) (hg : w.grownBy w' row) (hr : ∀ k, row = some k → B ≤ k) : Holds n cs z w' B v l := by
  rcases h with h | ⟨h0, b, off, cap, rfl, hB, hc, h1⟩
  · exact Or.inl h
  · exact Or.inr ⟨h0, b, off, cap, rfl, hB, hc, fun j hj i u hu => hg.cell (h1 j hj i u hu) (fun e => by have := hr b e.symm; omega)⟩
theorem own_len (hl : ∀ a, (cs a).length = n) (hn : 0 < n) {w : World} {B : Nat} {T : TypeId} {v : Value} {l : List α} {m : Nat} (h : w.ownsRow B T n v m (flat cs l)) : m = l.length := by
  have := h.1; rw [flat_len hl] at this; exact (Nat.eq_of_mul_eq_mul_right hn this).symm
theorem own_cell (hl : ∀ a, (cs a).length = n) (hn : 0 < n) {w : World} {B g cap : Nat} {T : TypeId} {l : List α} {m : Nat} (h : w.ownsRow B T n (.slice (some ⟨g, 0, none⟩) m cap) m (flat cs l)) {j i : Nat} {u : Value} (hj : j < m) (hu : (cs (l.getD j z))[i]? = some u) : w.cell? ⟨g, j * n + i, none⟩ = some u := by
  have hm := own_len hl hn h
  have h1 := h.cells (g := g) rfl _ _ (flat_at hl (z := z) (l := l) (j := j) (i := i) (u := u) (by omega) hu)
  simpa only [WideShapes.add_plain, Nat.zero_add] using h1
theorem own_holds (hl : ∀ a, (cs a).length = n) (hn : 0 < n) {w : World} {B : Nat} {T : TypeId} {v : Value} {l : List α} (h : w.ownsRow B T n v l.length (flat cs l)) : Holds n cs z w w.heap.size v l := by
  have h' := h
  obtain ⟨hlen, hc⟩ := h
  rcases hc with ⟨rfl, h0⟩ | ⟨g, cap, cur, rfl, hb, hg, hm, hcap, hs, ht⟩
  · exact Or.inl ⟨List.eq_nil_of_length_eq_zero h0, _, _, rfl⟩
  · by_cases h0 : l = []
    · subst h0; exact Or.inl ⟨rfl, _, _, rfl⟩
    · refine Or.inr ⟨List.length_pos_iff.2 h0, g, 0, cap, rfl, (h'.lt g rfl).2, hm, fun j hj i u hu => ?_⟩
      rw [Nat.zero_add]; exact own_cell hl hn h' hj hu
theorem own_mono {w : World} {B B' : Nat} {T : TypeId} {v : Value} {m : Nat} {xs : List Value} (h : w.ownsRow B T n v m xs) (hB : B' ≤ B) : w.ownsRow B' T n v m xs := by
  obtain ⟨hl, hc⟩ := h
  refine ⟨hl, ?_⟩
  rcases hc with h0 | ⟨g, cap, cur, rfl, h1, h2, h3⟩
  · exact Or.inl h0
  · exact Or.inr ⟨g, cap, cur, rfl, by omega, h2, h3⟩
/-- One more struct behind a slice that the call has built. -/
theorem push_own {B : Nat} {T : TypeId} {a w w1 : World} {v v' : Value} {l : List α} {f : α} {o : Obj} (hown : w.ownsRow B T n v l.length (flat cs l)) (hb : Below a.heap.size a w) (hB : a.heap.size ≤ B)
    (h' : w1.ownsRow B T n v' (l.length + 1) (flat cs l ++ cs f)) (hg : (w.alloc o).grownBy w1 v.ownBlock) :
    w1.ownsRow B T n v' (l ++ [f]).length (flat cs (l ++ [f])) ∧ Below a.heap.size a w1 := by
  refine ⟨by rw [List.length_append, flat_more]; exact h', (hb.alloc hb.size o).grown hg (by have := hb.size; simp; omega) (fun k e => Nat.le_trans hB (hown.lt k e).1)⟩
theorem own_lit_nil (w : World) (T : TypeId) : (w.alloc (.cells #[] T)).ownsRow w.heap.size T n (.slice (some ⟨w.heap.size, 0, none⟩) 0 0) ([] : List α).length (flat cs []) := World.ownsRow_lit w #[] 0 (Nat.le_refl _) (by decide) (by simp)

/-- A list of which k places are filled. -/
def part (z : α) (l : List α) (k : Nat) : List α := l.take k ++ List.replicate (l.length - k) z
theorem part_len (l : List α) {k : Nat} (h : k ≤ l.length) : (part z l k).length = l.length := by
  unfold part; rw [List.length_append, List.length_take, List.length_replicate]; omega
theorem part_zero (l : List α) : part z l 0 = List.replicate l.length z := by unfold part; simp
theorem part_all (l : List α) : part z l l.length = l := by unfold part; simp
theorem part_more {l : List α} {k : Nat} (h : k < l.length) : (part z l k).set k (l.getD k z) = part z l (k + 1) := by
  unfold part
  rw [List.set_append_right _ _ (by rw [List.length_take]; omega), List.length_take, show k - min k l.length = 0 by omega,
    show l.length - k = (l.length - (k + 1)) + 1 by omega, List.replicate_succ, List.set_cons_zero, List.take_succ_eq_append_getElem h, List.append_assoc]
  simp [List.getD, h]
theorem made_flat (hl : ∀ a, (cs a).length = n) (hn : 0 < n) (m : Nat) (zc : Array Value) (hz : zc.toList = cs z) : (madeCells zc (m * n)).toList = flat cs (List.replicate m z) := by
  apply List.ext_getElem?
  intro q
  have hsz : zc.size = n := by rw [← Array.length_toList, hz, hl]
  by_cases hq : q < m * n
  · have hj : q / n < m := (Nat.div_lt_iff_lt_mul hn).2 hq
    have hi : q % n < n := Nat.mod_lt _ hn
    have hu : (cs ((List.replicate m z).getD (q / n) z))[q % n]? = some ((cs z)[q % n]'(by rw [hl]; exact hi)) := by
      rw [show (List.replicate m z).getD (q / n) z = z by simp [List.getD, List.getElem?_replicate, hj]]
      exact List.getElem?_eq_getElem _
    have h1 := flat_at hl (z := z) (l := List.replicate m z) (j := q / n) (by rw [List.length_replicate]; exact hj) hu
    rw [Nat.mul_comm, Nat.div_add_mod] at h1
    rw [h1]
    unfold madeCells
    rw [Array.toList_map, List.getElem?_map, Array.toList_range, List.getElem?_range hq]
    have hi2 : q % n < zc.size := by omega
    have hqs : q % zc.size = q % n := by rw [hsz]
    have e2 : zc[q % zc.size]! = zc[q % n]'hi2 := by rw [hqs]; exact getElem!_pos zc (q % n) hi2
    show some (zc[q % zc.size]!) = _
    rw [e2]
    congr 1
    rw [← Array.getElem_toList]
    simp only [hz]
  · rw [List.getElem?_eq_none (by rw [Array.length_toList, size_madeCells]; omega), List.getElem?_eq_none (by rw [flat_len hl, List.length_replicate]; omega)]
theorem made_part (hl : ∀ a, (cs a).length = n) (hn : 0 < n) (l : List α) (zc : Array Value) (hz : zc.toList = cs z) : (madeCells zc (l.length * n)).toList = flat cs (part z l 0) := by
  rw [part_zero]; exact made_flat hl hn l.length zc hz
end
section
variable {α : Type} {z : α}
/-- The size of a list of structs: its texts' lengths and its own. -/
def total (wt : α → Nat) (l : List α) : Nat := (l.map wt).sum + l.length
def pre (wt : α → Nat) (l : List α) (k : Nat) : Nat := ((l.take k).map wt).sum
theorem total_nil (wt : α → Nat) : total wt [] = 0 := rfl
theorem len_le_total (wt : α → Nat) (l : List α) : l.length ≤ total wt l := by unfold total; omega
theorem mem_total (wt : α → Nat) {l : List α} {f : α} (h : f ∈ l) : wt f ≤ total wt l := by
  unfold total
  induction l with
  | nil => cases h
  | cons a r ih =>
    simp only [List.map_cons, List.sum_cons, List.length_cons]
    rcases List.mem_cons.1 h with rfl | h
    · omega
    · have := ih h; omega
theorem total_plain (l : List α) : total (fun _ => 0) l = l.length := by
  unfold total
  have : (l.map fun _ => 0).sum = 0 := by induction l with
    | nil => rfl
    | cons a r ih => simpa using ih
  omega
theorem pre_zero (wt : α → Nat) (l : List α) : pre wt l 0 = 0 := by unfold pre; simp
theorem pre_more (wt : α → Nat) {l : List α} {k : Nat} (h : k < l.length) : pre wt l (k + 1) = pre wt l k + wt (l.getD k z) := by
  unfold pre; rw [List.take_succ_eq_append_getElem h, List.map_append, List.sum_append]; simp [List.getD, h]
theorem pre_all (wt : α → Nat) {l : List α} {k : Nat} (h : k = l.length) : total wt l = pre wt l k + l.length := by unfold pre total; subst h; simp
theorem getD_mem {l : List α} {k : Nat} (h : k < l.length) : l.getD k z ∈ l := by
  rw [show l.getD k z = l[k] by simp [List.getD, h]]; exact List.getElem_mem _

/-- A list whose first j places are what mk says of their index. -/
def mkl (mk : Nat → α) (m : Nat) : List α := (List.range m).map mk
def mks (mk : Nat → α) (l : List α) (j : Nat) : List α := mkl mk j ++ l.drop j
theorem mkl_len (mk : Nat → α) (m : Nat) : (mkl mk m).length = m := by unfold mkl; simp
theorem mkl_at (mk : Nat → α) {m j : Nat} (h : j < m) : (mkl mk m).getD j z = mk j := by unfold mkl; simp [List.getD, h]
theorem mks_zero (mk : Nat → α) (l : List α) : mks mk l 0 = l := by unfold mks mkl; simp
theorem mks_len (mk : Nat → α) {l : List α} {j : Nat} (h : j ≤ l.length) : (mks mk l j).length = l.length := by unfold mks; rw [List.length_append, mkl_len, List.length_drop]; omega
theorem mks_more (mk : Nat → α) {l : List α} {j : Nat} (h : j < l.length) : (mks mk l j).set j (mk j) = mks mk l (j + 1) := by
  unfold mks
  rw [List.set_append_right _ _ (by rw [mkl_len]; exact Nat.le_refl _), mkl_len, Nat.sub_self, List.drop_eq_getElem_cons h, List.set_cons_zero]
  unfold mkl
  rw [List.range_succ, List.map_append, List.append_assoc]; rfl
theorem mks_all (mk : Nat → α) {l : List α} {j : Nat} (h : j = l.length) : mks mk l j = mkl mk l.length := by unfold mks; subst h; simp
end
/-- What is put into place k of a list that is filled from the left. -/
theorem text_of (s : ByteArray) : (Value.string s) = .string ⟨s.data.toList.toArray⟩ := by simp
/-- A struct that stands in a block of its own, as what is put behind a slice. -/
theorem news (w : World) (cs : List Value) (T : TypeId) : ∀ j u, cs[j]? = some u → (w.alloc (.cells cs.toArray T)).cell? ((⟨w.heap.size, 0, none⟩ : Addr).add j) = some u := by
  intro j u hj
  rw [WideShapes.add_plain, Nat.zero_add, World.cell?_alloc_new]
  simpa using hj
/-- What the call has built is kept by what only adds. -/
theorem row_below {w w' : World} {B m : Nat} {T : TypeId} {sz : Nat} {v : Value} {xs : List Value} (h : w.ownsRow B T sz v m xs) (hb : Below w.heap.size w w') : w'.ownsRow B T sz v m xs := by
  obtain ⟨hl, hc⟩ := h
  refine ⟨hl, ?_⟩
  rcases hc with h0 | ⟨g, cap, cur, rfl, h1, h2, h3⟩
  · exact Or.inl h0
  · have hlt : g < w.heap.size := by
      rcases Nat.lt_or_ge g w.heap.size with h' | h'
      · exact h'
      · rw [Array.getElem?_eq_none h'] at h2; cases h2
    exact Or.inr ⟨g, cap, cur, rfl, h1, by rw [hb.block g hlt]; exact h2, h3⟩
theorem row_grown {w w' : World} {B m : Nat} {T : TypeId} {sz : Nat} {v : Value} {xs : List Value} {row : Option Nat} (h : w.ownsRow B T sz v m xs) (hg : w.grownBy w' row) (hr : ∀ g, v.ownBlock = some g → some g ≠ row) : w'.ownsRow B T sz v m xs := by
  obtain ⟨hl, hc⟩ := h
  refine ⟨hl, ?_⟩
  rcases hc with h0 | ⟨g, cap, cur, rfl, h1, h2, h3⟩
  · exact Or.inl h0
  · have hlt : g < w.heap.size := by
      rcases Nat.lt_or_ge g w.heap.size with h' | h'
      · exact h'
      · rw [Array.getElem?_eq_none h'] at h2; cases h2
    exact Or.inr ⟨g, cap, cur, rfl, h1, by rw [hg.block g hlt (hr g rfl)]; exact h2, h3⟩
theorem row_apart {w : World} {B B' n n' : Nat} {T T' : TypeId} {sz sz' : Nat} {v v' : Value} {xs xs' : List Value} (h : w.ownsRow B T sz v n xs) (h' : w.ownsRow B' T' sz' v' n' xs') (hT : T ≠ T') : ∀ g, v.ownBlock = some g → some g ≠ v'.ownBlock := by
  intro g hg hg'
  rcases h.2 with ⟨rfl, _⟩ | ⟨a, cap, cur, rfl, _, h2, _⟩
  · cases hg
  · rcases h'.2 with ⟨rfl, _⟩ | ⟨a', cap', cur', rfl, _, h2', _⟩
    · cases hg'
    · cases hg; cases hg'
      rw [h2] at h2'
      simp at h2'
      exact hT h2'.2
/-- What the call has built is kept where a cell of a younger block is written. -/
theorem own_set {w : World} {B n g : Nat} {T : TypeId} {sz : Nat} {v : Value} {xs : List Value} (h : w.ownsRow B T sz v n xs) (hlt : ∀ k, v.ownBlock = some k → k < g) (o : Nat) (u : Value) : (w.setCell ⟨g, o, none⟩ u).ownsRow B T sz v n xs :=
  ownsRow_setCell_other h (fun e => by have := hlt g e; omega) u
theorem grown_trans {a b c : World} {row : Option Nat} (h : a.grownBy b row) (k : b.grownBy c row) : a.grownBy c row := ⟨k.os.trans h.os, k.tape.trans h.tape, k.output.trans h.output, Nat.le_trans h.size k.size, fun i hi hr => (k.block i (Nat.lt_of_lt_of_le hi h.size) hr).trans (h.block i hi hr)⟩
theorem grown_of_below {a b : World} {row : Option Nat} (h : Below a.heap.size a b) : a.grownBy b row := ⟨h.os, h.tape, h.output, h.size, fun i hi _ => h.block i hi⟩
theorem shape_at {w : World} {B : Nat} {v : Value} {T : TypeId} {s m : Nat} {xs : List Value} (h : w.ownsRow B T s v m xs) : ∃ a cap, v = .slice a m cap ∧ (0 < m → ∃ g, a = some ⟨g, 0, none⟩) := by
  rcases h.2 with ⟨rfl, h0⟩ | ⟨g, cap, cur, rfl, _⟩
  · exact ⟨none, 0, by rw [h0], fun h' => by omega⟩
  · exact ⟨_, cap, rfl, fun _ => ⟨g, rfl⟩⟩
theorem below_drew {B : Nat} {a w : World} (h : Below B a w) : Below B a w.drew := ⟨h.os, h.tape, h.output, h.size, h.block⟩
theorem below_drewN {B : Nat} {a w : World} (h : Below B a w) (n : Nat) : Below B a (w.drewN n) := ⟨h.os, h.tape, h.output, h.size, h.block⟩
theorem below_of_drew {B : Nat} {w w' : World} (h : Below B w.drew w') : Below B w w' := ⟨h.os, h.tape, h.output, h.size, h.block⟩
theorem ret_nat {a b : Nat} (h : a = b) : Ending.returned (.int .i64 (a : Int)) = .returned (.int .i64 (b : Int)) := by rw [h]
def Yes (w : World) (e : Ending) (w' : World) : Prop := e = .returned (.bool true) ∧ Below w.heap.size w w'
end Go.Proofs.YtobhdfkhfmpdlaaDoor.Rec
