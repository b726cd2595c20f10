/-
  CONTRACTS AND PLAIN FACTS, several texts in one; each says in its own words what it proves.
-/
import Derived.Test.YtidmppphlcfpjaaGreatDoorPqA
import Derived.LoopTactic
import Derived.Outline
import Derived.RegionTactic
import Derived.Deep.RegionWith
import Derived.ChangeSlices
import Derived.OwnWalk
import Derived.Laws.OwnMore
import Derived.Laws.AppendOwn
import Derived.Deep.SlicePairs
set_option linter.unusedSimpArgs false
set_option linter.unusedVariables false

/-
  CONTRACTS of the laws' helpers for slices of Rule (written by rec.py): a copy (toRule, toRuleS) and the comparison of two that hold the same (eqRule, eqRuleS). Nothing that was there before is changed.
-/
namespace Go.Proofs.YtidmppphlcfpjaaGreatDoor.Rul
open Go Go.RowKit
set_option linter.unusedVariables false
set_option maxRecDepth 1000000

theorem copy_one (f : T) (w : World) : Calls Tryz.prog 48 #[fv f] w fun e w' => e = .returned (fv f) ∧ Below w.heap.size w w' := by
  obtain ⟨x, y, u⟩ := f
  unfold fv
  dsimp only
  obtain ⟨s1, hs1⟩ : ∃ z : ByteArray, z = ⟨y.toArray⟩ := ⟨_, rfl⟩
  rw [← hs1]
  clear hs1
  go_enter Tryz.func48, Tryz.ntmps48
  go_wp2
  refine bodyPost_ret (v := .agg #[.int .i64 (x), .string s1, .int .i64 (u)]) (by simp [results, Tryz.results48, go_sem]) rfl ⟨rfl, ?_⟩
  exact (((Below.refl _ _).alloc (Nat.le_refl _) _).alloc (by simp) _).alloc (by simp; omega) _
theorem copy_two (x : Int) (y : List UInt8) (u : Int) (w : World) : Calls Tryz.prog 48 #[.agg #[.int .i64 (x), .string ⟨(y).toArray⟩, .int .i64 (u)]] w fun e w' => e = .returned (.agg #[.int .i64 (x), .string ⟨(y).toArray⟩, .int .i64 (u)]) ∧ Below w.heap.size w w' := copy_one (x, y, u) w

def Copied (l : List T) (w : World) (e : Ending) (w' : World) : Prop := ∃ v, e = .returned v ∧ Own w' w.heap.size v l ∧ Below w.heap.size w w'
/-- .. and the slice is not nil. -/
def Copied' (l : List T) (w : World) (e : Ending) (w' : World) : Prop := ∃ v, e = .returned v ∧ Own w' w.heap.size v l ∧ Below w.heap.size w w' ∧ ∃ g cap, v = .slice (some ⟨g, 0, none⟩) l.length cap

theorem copy_nil (a : Option Addr) (cap : Nat) (w : World) :
    Calls Tryz.prog 21 #[.slice a 0 cap] w (Copied' [] w) := by
  obtain ⟨i0, hi, hz0, hz1, hz2⟩ := info_parts info_r
  go_enter Tryz.func21, Tryz.ntmps21
  go_wp2_with (refine wpList_make_full _ (by rfl) (.tmp 6) (.tmp 6) 42 (by rfl) w.heap.size 77 i0 (.agg #[.int .i64 0, .string ⟨#[]⟩, .int .i64 0]) 3 Tryz.underlying42 hi hz0 hz1 .i64 .i64 _ _ 0 (by rfl) (by rfl) rfl rfl (by rw [hz2]; omega) (by decide) (Nat.le_refl _) ?_; intro w1 hown hgrow)
  have e := made_part []
  rw [show ([] : List T).length * 3 = 0 * 3 from rfl, show fcs (part [] 0) = fcs [] from rfl] at e
  rw [e] at hown
  clear e
  go_loop [4] (fun i => i = .int .i64 0) (fun i => 0)
  case atStart => rfl
  case round =>
    obtain rfl := hrel
    go_wp2
    go_ret
    exact ⟨_, rfl, hown, (Below.refl _ _).grown hgrow (Nat.le_refl _) (fun k e => by cases e), ⟨_, _, rfl⟩⟩

set_option maxHeartbeats 1000000 in
theorem copy_some (b off cap : Nat) (l : List T) (w : World) (hc : At w b off l) (h0 : 0 < l.length) (hl : l.length ≤ 1048576) :
    Calls Tryz.prog 21 #[.slice (some ⟨b, off, none⟩) l.length cap] w (Copied' l w) := by
  obtain ⟨i0, hi, hz0, hz1, hz2⟩ := info_parts info_r
  have hbl := at_lt hc h0
  have HC := Lib.hid hc
  clear hc
  go_enter Tryz.func21, Tryz.ntmps21
  go_wp2_with (at_make; refine wpList_make_full _ rfl (.tmp 6) (.tmp 6) 42 rfl w.heap.size 77 i0 (.agg #[.int .i64 0, .string ⟨#[]⟩, .int .i64 0]) 3 Tryz.underlying42 hi hz0 hz1 .i64 .i64 _ _ l.length rfl rfl rfl rfl (by rw [hz2]; omega) (by unfold maxLen; omega) (Nat.le_refl _) ?_; intro w1 hown hgrow)
  rw [made_part] at hown
  have hb1 : Below w.heap.size w w1 := (Below.refl _ _).grown hgrow (Nat.le_refl _) (fun k e => by cases e)
  clear hgrow hi hz0 hz1 hz2
  have HO := Lib.hid hown
  clear hown
  go_loopw [4] (fun i wr => ∃ k : Nat, k ≤ l.length ∧ i = .int .i64 k ∧
      wr.ownsRow w.heap.size 77 3 (.slice (some ⟨w.heap.size, 0, none⟩) l.length l.length) l.length (fcs (part l k)) ∧ Below w.heap.size w wr) (fun i _ => l.length - (intOf i).toNat)
  case atStart => exact ⟨0, Nat.zero_le _, rfl, HO.out, hb1⟩
  case round =>
    obtain ⟨k, hk, rfl, hown, hb⟩ := hrel
    clear HO hb1
    by_cases hlt : k < l.length
    · obtain ⟨c0, c1, c2⟩ := at_cells (at_below HC.out hb hbl) hlt
      have HP := Lib.hid (part_more hlt)
      have HQ : Hid (k < (part l k).length) := Lib.hid (by rw [part_len l hk]; exact hlt)
      have HO := Lib.hid hown
      have HB := Lib.hid hb
      clear hown hb
      generalize hy : l.getD k nov = f at c0 c1 c2 HP
      clear hy
      obtain ⟨x, y, u⟩ := f
      dsimp only at c0 c1 c2
      go_wp2_with (go_at_call 48; refine (copy_two x y u wr).mono ?_; rintro e w' ⟨rfl, hb1⟩; have HB1 := Lib.hid (Base.then_below HB.out (hb1.mono (Nat.le_refl _))); have hr1 := row_below HO.out hb1; have HL1 := hr1.1; obtain ⟨d0, d1, d2⟩ := own_cells hr1 hlt; have f0 := hr1.frozenAt (k * 3); have f1 := hr1.frozenAt (k * 3 + 1); have f2 := hr1.frozenAt (k * 3 + 2); have HR1 := Lib.hid hr1; clear hr1 hb1)
      have s0 := HR1.out.stored (k * 3) (.int .i64 (x))
      have s1 := s0.1.stored (k * 3 + 1) (.string ⟨(y).toArray⟩)
      have s2 := s1.1.stored (k * 3 + 2) (.int .i64 (u))
      have e' := fcs_put (l := part l k) (x, y, u) HQ.out
      dsimp only at e'
      rw [e', HP.out] at s2
      have hz0 := HB1.out.size
      have hz1 := s0.2.size
      have hz2 := s1.2.size
      have hbb := (((HB1.out.grown s0.2 (by omega) (fun j e => by cases e; exact Nat.le_refl _)).grown s1.2 (by omega) (fun j e => by cases e; exact Nat.le_refl _)).grown s2.2 (by omega) (fun j e => by cases e; exact Nat.le_refl _))
      go_roundw
      case rel => exact ⟨k + 1, by omega, by go_num, s2.1, hbb⟩
      case measure => simp [intOf]; omega
    · obtain rfl : k = l.length := by omega
      rw [part_all] at hown
      go_wp2
      go_ret
      exact ⟨_, rfl, hown, hb, ⟨_, _, rfl⟩⟩

theorem copy' (v : Value) (B : Nat) (l : List T) (w : World) (h : Holds w B v l) (hl : l.length ≤ 1048576) :
    Calls Tryz.prog 21 #[v] w (Copied' l w) := by
  rcases h with ⟨rfl, a, cap, rfl⟩ | ⟨h0, b, off, cap, rfl, _, _, hc⟩
  · exact copy_nil a cap w
  · exact copy_some b off cap l w hc h0 hl
theorem copy (v : Value) (B : Nat) (l : List T) (w : World) (h : Holds w B v l) (hl : l.length ≤ 1048576) :
    Calls Tryz.prog 21 #[v] w (Copied l w) :=
  (copy' v B l w h hl).mono fun e w' ⟨v', h1, h2, h3, _⟩ => ⟨v', h1, h2, h3⟩

theorem eq_one (s0 : Int) (s1 : ByteArray) (s2 : Int) (w : World) : Calls Tryz.prog 53 #[.agg #[.int .i64 (s0), .string s1, .int .i64 (s2)], .agg #[.int .i64 (s0), .string s1, .int .i64 (s2)]] w (Rec.Yes w) := by
  go_enter Tryz.func53, Tryz.ntmps53
  go_wp2
  go_ret
  exact ⟨rfl, ((Below.refl _ _).alloc (Nat.le_refl _) _).alloc (by simp) _⟩

theorem eq_nil (a a' : Option Addr) (cap cap' : Nat) (w : World) :
    Calls Tryz.prog 25 #[.slice a 0 cap, .slice a' 0 cap'] w (Rec.Yes w) := by
  go_enter Tryz.func25, Tryz.ntmps25
  go_wp2
  go_loop [5] (fun i => i = .int .i64 0) (fun i => 0)
  case atStart => rfl
  case round =>
    obtain rfl := hrel
    go_wp2
    go_ret
    exact ⟨rfl, Below.refl _ _⟩

set_option maxHeartbeats 1000000 in
theorem eq_some (b off cap b' off' cap' : Nat) (l : List T) (w : World) (hc : At w b off l) (hc' : At w b' off' l) (h0 : 0 < l.length) (hl : l.length ≤ 4194304) :
    Calls Tryz.prog 25 #[.slice (some ⟨b, off, none⟩) l.length cap, .slice (some ⟨b', off', none⟩) l.length cap'] w (Rec.Yes w) := by
  have hbl := at_lt hc h0
  have hbl' := at_lt hc' h0
  have HC := Lib.hid hc
  have HC' := Lib.hid hc'
  clear hc hc'
  go_enter Tryz.func25, Tryz.ntmps25
  go_wp2
  go_loopw [5] (fun i wr => ∃ k : Nat, k ≤ l.length ∧ i = .int .i64 k ∧ Below w.heap.size w wr) (fun i _ => l.length - (intOf i).toNat)
  case atStart => exact ⟨0, Nat.zero_le _, rfl, Below.refl _ _⟩
  case round =>
    obtain ⟨k, hk, rfl, hb⟩ := hrel
    by_cases hlt : k < l.length
    · have cc := at_cells (at_below HC.out (Rec.below_drew hb) hbl) hlt
      have cc' := at_cells (at_below HC'.out (Rec.below_drew hb) hbl') hlt
      obtain ⟨s0, hs0⟩ : ∃ z : Int, z = (l.getD k nov).1 := ⟨_, rfl⟩
      obtain ⟨s1, hs1⟩ : ∃ z : ByteArray, z = ⟨((l.getD k nov).2.1).toArray⟩ := ⟨_, rfl⟩
      obtain ⟨s2, hs2⟩ : ∃ z : Int, z = (l.getD k nov).2.2 := ⟨_, rfl⟩
      rw [← hs0, ← hs1, ← hs2] at cc cc'
      clear hs0 hs1 hs2
      obtain ⟨c0, c1, c2⟩ := cc
      obtain ⟨e0, e1, e2⟩ := cc'
      have HB := Lib.hid (Rec.below_drew hb)
      clear hb
      go_wp2
      go_region_with (go_at_call 53; refine (eq_one s0 s1 s2 wr.drew).mono ?_; rintro e wt ⟨rfl, hb1⟩; have HB1 := Lib.hid (Base.then_below HB.out hb1); clear hb1)
      all_goals go_wp2
      all_goals go_roundw
      all_goals first
        | exact ⟨k + 1, by omega, by go_num, HB1.out⟩
        | (simp [intOf]; omega)
    · go_wp2
      go_ret
      exact ⟨rfl, hb⟩

theorem eq_wide (v v' : Value) (B B' : Nat) (l : List T) (w : World) (h : Holds w B v l) (h' : Holds w B' v' l) (hl : l.length ≤ 4194304) :
    Calls Tryz.prog 25 #[v, v'] w (Rec.Yes w) := by
  rcases h with ⟨rfl, a, cap, rfl⟩ | ⟨h0, b, off, cap, rfl, _, _, hc⟩
  · rcases h' with ⟨_, a', cap', rfl⟩ | ⟨h0, _⟩
    · exact eq_nil a a' cap cap' w
    · exact absurd h0 (by simp)
  · rcases h' with ⟨rfl, _⟩ | ⟨_, b', off', cap', rfl, _, _, hc'⟩
    · exact absurd h0 (by simp)
    · exact eq_some b off cap b' off' cap' l w hc hc' h0 hl
theorem eq_same (v v' : Value) (B B' : Nat) (l : List T) (w : World) (h : Holds w B v l) (h' : Holds w B' v' l) (hl : l.length ≤ 1048576) :
    Calls Tryz.prog 25 #[v, v'] w (Rec.Yes w) := eq_wide v v' B B' l w h h' (Nat.le_trans hl (by decide))
end Go.Proofs.YtidmppphlcfpjaaGreatDoor.Rul

/-
  PLAIN FACTS on slices of fields (a name and a value): what a slice holds, how that is kept, and how a slice that the call itself has built is such a one.
-/
namespace Go.Proofs.YtidmppphlcfpjaaGreatDoor.Flds
open Go Go.RowKit
set_option linter.unusedVariables false
set_option maxRecDepth 1000000

theorem info_fld : (Tryz.prog.info? 123).map (fun i => (i.zero, i.size, i.bytes)) = some (some (.agg #[.string ⟨#[]⟩, .string ⟨#[]⟩]), 2, 32) := by kernel_rfl

abbrev Fld : Type := List UInt8 × List UInt8
def sv (x : List UInt8) : Value := .string ⟨x.toArray⟩
def fv (f : Fld) : Value := .agg #[sv f.1, sv f.2]
def fcs (l : List Fld) : List Value := l.flatMap (fun f => [sv f.1, sv f.2])
def nofld : Fld := ([], [])
theorem fcs_len (l : List Fld) : (fcs l).length = l.length * 2 := by
  unfold fcs
  induction l with
  | nil => rfl
  | cons a r ih => rw [List.flatMap_cons, List.length_append, ih]; simp; omega
theorem fcs_more (l : List Fld) (f : Fld) : fcs (l ++ [f]) = fcs l ++ [sv f.1, sv f.2] := by unfold fcs; simp
theorem fcs_at {l : List Fld} {j : Nat} (h : j < l.length) : (fcs l)[j * 2]? = some (sv (l.getD j nofld).1) ∧ (fcs l)[j * 2 + 1]? = some (sv (l.getD j nofld).2) := by
  induction l generalizing j with
  | nil => simp at h
  | cons a r ih =>
    cases j with
    | zero => exact ⟨rfl, rfl⟩
    | succ j =>
      have h' := ih (j := j) (by simpa using h)
      have e1 : (j + 1) * 2 = j * 2 + 1 + 1 := by omega
      rw [e1]
      show (sv a.1 :: sv a.2 :: fcs r)[_]? = _ ∧ (sv a.1 :: sv a.2 :: fcs r)[_]? = _
      simpa using h'
theorem fcs_one (l : List Fld) : ∀ u ∈ fcs l, u.oneCell' = true := by
  intro u hu
  obtain ⟨f, _, hf⟩ := List.mem_flatMap.1 hu
  simp at hf
  rcases hf with rfl | rfl <;> rfl
theorem two_one (f : Fld) : ∀ u ∈ [sv f.1, sv f.2], u.oneCell' = true := by
  intro u hu; simp at hu; rcases hu with rfl | rfl <;> rfl

/-- The cells from (b, off) on are these fields. -/
def At (w : World) (b off : Nat) (l : List Fld) : Prop := ∀ j, j < l.length → w.cell? ⟨b, off + j * 2, none⟩ = some (sv (l.getD j nofld).1) ∧ w.cell? ⟨b, off + j * 2 + 1, none⟩ = some (sv (l.getD j nofld).2)
/-- The slice v reads as the fields l; its cells lie below block B. -/
def Holds (w : World) (B : Nat) (v : Value) (l : List Fld) : Prop := (l = [] ∧ ∃ a cap, v = .slice a 0 cap) ∨ (0 < l.length ∧ ∃ b off cap, v = .slice (some ⟨b, off, none⟩) l.length cap ∧ b < B ∧ l.length ≤ cap ∧ At w b off l)

theorem lt_of_cell {w : World} {b o : Nat} {u : Value} (h : w.cell? ⟨b, o, none⟩ = some u) : b < w.heap.size := by
  rcases Nat.lt_or_ge b w.heap.size with h' | h'
  · exact h'
  · simp [World.cell?, Array.getElem?_eq_none h'] at h
theorem at_lt {w : World} {b off : Nat} {l : List Fld} (h : At w b off l) (h0 : 0 < l.length) : b < w.heap.size := lt_of_cell (h 0 h0).1
theorem at_below {w w' : World} {B b off : Nat} {l : List Fld} (h : At w b off l) (hb : Below B w w') (hlt : b < B) : At w' b off l := fun j hj => by
  rw [hb.cell (p := ⟨b, off + j * 2, none⟩) hlt, hb.cell (p := ⟨b, off + j * 2 + 1, none⟩) hlt]; exact h j hj
theorem holds_more {w : World} {B B' : Nat} {v : Value} {l : List Fld} (h : Holds w B v l) (hB : B ≤ B') : Holds w B' v l := by
  rcases h with h | ⟨h0, b, off, cap, rfl, h2, hc, h1⟩
  · exact Or.inl h
  · exact Or.inr ⟨h0, b, off, cap, rfl, by omega, hc, h1⟩
theorem holds_below {w w' : World} {B : Nat} {v : Value} {l : List Fld} (h : Holds w B v l) (hb : Below B w w') : Holds w' B v l := by
  rcases h with h | ⟨h0, b, off, cap, rfl, hB, hc, h1⟩
  · exact Or.inl h
  · exact Or.inr ⟨h0, b, off, cap, rfl, hB, hc, at_below h1 hb hB⟩
abbrev Own (w : World) (B : Nat) (v : Value) (l : List Fld) : Prop := w.ownsRow B 123 2 v l.length (fcs l)
theorem own_len {w : World} {B : Nat} {v : Value} {l : List Fld} {n : Nat} (h : w.ownsRow B 123 2 v n (fcs l)) : n = l.length := by
  have := h.1; rw [fcs_len] at this; omega
theorem own_cell {w : World} {B g cap : Nat} {l : List Fld} {n : Nat} (h : w.ownsRow B 123 2 (.slice (some ⟨g, 0, none⟩) n cap) n (fcs l)) {j : Nat} (hj : j < n) :
    w.cell? ⟨g, j * 2, none⟩ = some (sv (l.getD j nofld).1) ∧ w.cell? ⟨g, j * 2 + 1, none⟩ = some (sv (l.getD j nofld).2) := by
  have hn := own_len h
  have hf := fcs_at (l := l) (j := j) (by omega)
  have hc := h.cells (g := g) rfl
  have h1 := hc _ _ hf.1
  have h2 := hc _ _ hf.2
  simp only [WideShapes.add_plain, Nat.zero_add] at h1 h2
  exact ⟨h1, h2⟩
theorem own_holds {w : World} {B : Nat} {v : Value} {l : List Fld} (h : Own w B v l) : Holds w w.heap.size v l := by
  have h' := h
  obtain ⟨hl, hc⟩ := h
  rcases hc with ⟨rfl, h0⟩ | ⟨g, cap, cur, rfl, hb, hg, hn, hcap, hs, ht⟩
  · exact Or.inl ⟨List.eq_nil_of_length_eq_zero h0, _, _, rfl⟩
  · by_cases h0 : l = []
    · subst h0; exact Or.inl ⟨rfl, _, _, rfl⟩
    · refine Or.inr ⟨List.length_pos_iff.2 h0, g, 0, cap, rfl, (h'.lt g rfl).2, hn, fun j hj => ?_⟩
      rw [Nat.zero_add]; exact own_cell h' hj
theorem own_below {w w' : World} {B : Nat} {v : Value} {l : List Fld} (h : Own w B v l) (hb : Below w.heap.size w w') : Own w' B v l := by
  obtain ⟨hl, hc⟩ := h
  refine ⟨hl, ?_⟩
  rcases hc with h0 | ⟨g, cap, cur, rfl, h1, h2, h3⟩
  · exact Or.inl h0
  · have hlt : g < w.heap.size := by
      rcases Nat.lt_or_ge g w.heap.size with h' | h'
      · exact h'
      · rw [Array.getElem?_eq_none h'] at h2; cases h2
    exact Or.inr ⟨g, cap, cur, rfl, h1, by rw [hb.block g hlt]; exact h2, h3⟩
theorem own_mono {w : World} {B B' : Nat} {v : Value} {l : List Fld} (h : Own w B v l) (hB : B' ≤ B) : Own w B' v l := by
  obtain ⟨hl, hc⟩ := h
  refine ⟨hl, ?_⟩
  rcases hc with h0 | ⟨g, cap, cur, rfl, h1, h2, h3⟩
  · exact Or.inl h0
  · exact Or.inr ⟨g, cap, cur, rfl, by omega, h2, h3⟩
theorem news_two (w : World) (x y : Value) (T : TypeId) : ∀ j u, [x, y][j]? = some u → (w.alloc (.cells #[x, y] T)).cell? ((⟨w.heap.size, 0, none⟩ : Addr).add j) = some u := by
  intro j u hj
  rw [WideShapes.add_plain, Nat.zero_add, World.cell?_alloc_new]
  simpa using hj
/-- One more field behind a slice that the call has built. -/
theorem push_own {B : Nat} {a w w1 : World} {v v' : Value} {l : List Fld} {f : Fld} {o : Obj} (hown : Own w B v l) (hb : Below a.heap.size a w) (hB : a.heap.size ≤ B)
    (h' : w1.ownsRow B 123 2 v' (l.length + 1) (fcs l ++ [sv f.1, sv f.2])) (hg : (w.alloc o).grownBy w1 v.ownBlock) :
    Own w1 B v' (l ++ [f]) ∧ Below a.heap.size a w1 := by
  refine ⟨by show w1.ownsRow B 123 2 v' (l ++ [f]).length (fcs (l ++ [f])); rw [List.length_append, fcs_more]; exact h', (hb.alloc hb.size o).grown hg (by have := hb.size; simp; omega) (fun k e => Nat.le_trans hB (hown.lt k e).1)⟩
theorem own_lit_nil (w : World) : Own (w.alloc (.cells #[] 123)) w.heap.size (.slice (some ⟨w.heap.size, 0, none⟩) 0 0) [] := World.ownsRow_lit w #[] 0 (Nat.le_refl _) (by decide) rfl
end Go.Proofs.YtidmppphlcfpjaaGreatDoor.Flds

/-
  PLAIN FACTS on the size of a list of fields, and on a list that is filled from the left.
-/
namespace Go.Proofs.YtidmppphlcfpjaaGreatDoor.Flds
open Go Go.RowKit
set_option linter.unusedVariables false
set_option maxRecDepth 1000000

def wt (f : Fld) : Nat := f.1.length + f.2.length
def total (l : List Fld) : Nat := (l.map wt).sum + l.length
theorem total_nil : total [] = 0 := rfl
def pre (l : List Fld) (k : Nat) : Nat := ((l.take k).map wt).sum
theorem pre_zero (l : List Fld) : pre l 0 = 0 := by unfold pre; simp
theorem pre_more {l : List Fld} {k : Nat} (h : k < l.length) : pre l (k + 1) = pre l k + ((l.getD k nofld).1.length + (l.getD k nofld).2.length) := by
  unfold pre; rw [List.take_succ_eq_append_getElem h, List.map_append, List.sum_append]; simp [List.getD, h, wt]
theorem pre_all {l : List Fld} {k : Nat} (h : k = l.length) : total l = pre l k + l.length := by unfold pre total; subst h; simp

def part (l : List Fld) (k : Nat) : List Fld := l.take k ++ List.replicate (l.length - k) nofld
theorem part_len (l : List Fld) {k : Nat} (h : k ≤ l.length) : (part l k).length = l.length := by
  unfold part; rw [List.length_append, List.length_take, List.length_replicate]; omega
theorem part_zero (l : List Fld) : part l 0 = List.replicate l.length nofld := by unfold part; simp
theorem part_all (l : List Fld) : part l l.length = l := by unfold part; simp
theorem part_more {l : List Fld} {k : Nat} (h : k < l.length) : (part l k).set k (l.getD k nofld) = part l (k + 1) := by
  unfold part
  rw [List.set_append_right _ _ (by rw [List.length_take]; omega), List.length_take, show k - min k l.length = 0 by omega,
    show l.length - k = (l.length - (k + 1)) + 1 by omega, List.replicate_succ, List.set_cons_zero, List.take_succ_eq_append_getElem h, List.append_assoc]
  simp [List.getD, h]
/-- Two cells of a field are set one behind the other. -/
theorem fcs_set (l : List Fld) (k : Nat) (f : Fld) : ((fcs l).set (k * 2) (sv f.1)).set (k * 2 + 1) (sv f.2) = fcs (l.set k f) := by
  induction l generalizing k with
  | nil => simp [fcs]
  | cons a r ih =>
    have e0 : ∀ (x : Fld) (q : List Fld), fcs (x :: q) = sv x.1 :: sv x.2 :: fcs q := fun x q => rfl
    cases k with
    | zero => rfl
    | succ k =>
      rw [show (k + 1) * 2 = k * 2 + 1 + 1 by omega, List.set_cons_succ, e0, e0, List.set_cons_succ, List.set_cons_succ, List.set_cons_succ, List.set_cons_succ, ih]
theorem fcs_rep (n : Nat) : fcs (List.replicate n nofld) = List.replicate (n * 2) (sv []) := by
  induction n with
  | zero => rfl
  | succ n ih =>
    rw [List.replicate_succ, show (n + 1) * 2 = n * 2 + 1 + 1 by omega, List.replicate_succ, List.replicate_succ, ← ih]
    rfl
theorem made_part (l : List Fld) : (madeCells (Value.agg #[.string ⟨#[]⟩, .string ⟨#[]⟩]).cells (l.length * 2)).toList = fcs (part l 0) := by
  rw [part_zero, fcs_rep, show (Value.agg #[.string ⟨#[]⟩, .string ⟨#[]⟩]).cells = #[sv [], sv []] from rfl]
  have e : ∀ i : Nat, (#[sv [], sv []] : Array Value)[i % 2]! = sv [] := by
    intro i; rcases Nat.mod_two_eq_zero_or_one i with h | h <;> rw [h] <;> rfl
  unfold madeCells
  rw [Array.toList_map, List.eq_replicate_iff]
  refine ⟨by simp, fun b hb => ?_⟩
  obtain ⟨i, _, rfl⟩ := List.mem_map.1 hb
  exact e i
/-- What the call has built is kept by what only adds. -/
theorem row_below {w w' : World} {B n : Nat} {T : TypeId} {sz : Nat} {v : Value} {xs : List Value} (h : w.ownsRow B T sz v n xs) (hb : Below w.heap.size w w') : w'.ownsRow B T sz v n xs := by
  obtain ⟨hl, hc⟩ := h
  refine ⟨hl, ?_⟩
  rcases hc with h0 | ⟨g, cap, cur, rfl, h1, h2, h3⟩
  · exact Or.inl h0
  · have hlt : g < w.heap.size := by
      rcases Nat.lt_or_ge g w.heap.size with h' | h'
      · exact h'
      · rw [Array.getElem?_eq_none h'] at h2; cases h2
    exact Or.inr ⟨g, cap, cur, rfl, h1, by rw [hb.block g hlt]; exact h2, h3⟩
theorem row_grown {w w' : World} {B n : Nat} {T : TypeId} {sz : Nat} {v : Value} {xs : List Value} {row : Option Nat} (h : w.ownsRow B T sz v n xs) (hg : w.grownBy w' row) (hr : ∀ g, v.ownBlock = some g → some g ≠ row) : w'.ownsRow B T sz v n xs := by
  obtain ⟨hl, hc⟩ := h
  refine ⟨hl, ?_⟩
  rcases hc with h0 | ⟨g, cap, cur, rfl, h1, h2, h3⟩
  · exact Or.inl h0
  · have hlt : g < w.heap.size := by
      rcases Nat.lt_or_ge g w.heap.size with h' | h'
      · exact h'
      · rw [Array.getElem?_eq_none h'] at h2; cases h2
    exact Or.inr ⟨g, cap, cur, rfl, h1, by rw [hg.block g hlt (hr g rfl)]; exact h2, h3⟩
theorem holds_grown {w w' : World} {B : Nat} {v : Value} {l : List Fld} {row : Option Nat} (h : Holds w B v l) (hg : w.grownBy w' row) (hr : ∀ k, row = some k → B ≤ k) : Holds w' B v l := by
  rcases h with h | ⟨h0, b, off, cap, rfl, hB, hc, h1⟩
  · exact Or.inl h
  · exact Or.inr ⟨h0, b, off, cap, rfl, hB, hc, fun j hj => ⟨hg.cell (h1 j hj).1 (fun e => by have := hr b e.symm; omega), hg.cell (h1 j hj).2 (fun e => by have := hr b e.symm; omega)⟩⟩
end Go.Proofs.YtidmppphlcfpjaaGreatDoor.Flds

/-
  CONTRACTS of the laws' helpers for slices of fields: an argument of that type, opened; its size (szFieldS). Nothing that was there before is changed.
-/
namespace Go.Proofs.YtidmppphlcfpjaaGreatDoor.Flds
open Go Go.RowKit
set_option linter.unusedVariables false
set_option maxRecDepth 1000000

theorem trod_text {H : Type} {enc : TypeId × Value → H} {W : World} {n : Nat} {sp : Nat → Bool} {v : Value} {x : DataW H × List MemPlace} (h : DataW.trod enc Tryz.prog W 0 sp true n 9 [v] = some x) : ∃ s : ByteArray, v = .string s ∧ s.size ≤ maxLen := by
  obtain ⟨s, h1, h2, h3⟩ := DataW.trod_string Tryz.underlying9 h
  exact ⟨s, by simpa using h1, h3⟩

set_option maxRecDepth 1000000 in
/-- An argument of type []laws.Field, opened. -/
theorem open_arg {H : Type} {enc : TypeId × Value → H} {W : World} {base : Nat} {v : Value} {d : DataW H} {p : List MemPlace}
    (hok : Value.okWide Tryz.prog W .any base 33 v) (h : DataW.Trod enc Tryz.prog W 0 (fun _ => true) true 33 v d p) :
    ∃ l : List Fld, Holds W W.heap.size v l ∧ l.length ≤ maxLen ∧ (∀ f ∈ l, f.1.length ≤ maxLen ∧ f.2.length ≤ maxLen) := by
  obtain ⟨a0, len, cap, rfl⟩ := WideShapes.okWide_slice Tryz.underlying33 hok
  obtain ⟨fuel, hf⟩ := h
  have c1 : Tryz.prog.cellsOf 9 = 1 := by kernel_rfl
  have c2 : Tryz.prog.cellsOf 114 = 2 := by kernel_rfl
  rcases Deep.open_slice_pairs Tryz.underlying33 Tryz.underlying114 c2 rfl rfl c1 c1 hf with ⟨hcs, hx⟩ | ⟨a, len', cap', m, n, V0, V1, D0, D1, P0, P1, hcs, _, hl, hm, hmm, hx, hall⟩
  · simp [Value.cells] at hcs
    obtain ⟨rfl, rfl, rfl⟩ := hcs
    exact ⟨[], Or.inl ⟨rfl, _, _, rfl⟩, Nat.zero_le _, fun f hf => by cases hf⟩
  · simp [Value.cells] at hcs
    obtain ⟨rfl, rfl, rfl⟩ := hcs
    simp only [if_true] at hmm
    subst hmm
    have each : ∀ i, i < m → ∃ f : Fld, W.cell? (a.add (i * 2)) = some (sv f.1) ∧ W.cell? (a.add (i * 2 + 1)) = some (sv f.2) ∧ f.1.length ≤ maxLen ∧ f.2.length ≤ maxLen := fun i hi => by
      obtain ⟨h0, h1, h2, h3⟩ := hall i hi
      obtain ⟨s, hs, hsz⟩ := trod_text h2
      obtain ⟨u, hu, huz⟩ := trod_text h3
      refine ⟨(s.data.toList, u.data.toList), by rw [h0, hs]; rfl, by rw [h1, hu]; rfl, ?_, ?_⟩
      · show s.data.toList.length ≤ maxLen; rw [Array.length_toList]; exact hsz
      · show u.data.toList.length ≤ maxLen; rw [Array.length_toList]; exact huz
    obtain ⟨F, hF⟩ := Deep.choose_lt each
    have hln : ((List.range len).map F).length = len := by simp
    have hget : ∀ j, j < len → ((List.range len).map F).getD j nofld = F j := fun j hj => by simp [List.getD, hj]
    refine ⟨(List.range len).map F, ?_, by rw [hln]; omega, ?_⟩
    · by_cases hl0 : len = 0
      · subst hl0; exact Or.inl ⟨by simp, _, _, rfl⟩
      · obtain ⟨b, off, spot⟩ := a
        have hspot : spot = none := by simpa [Addr.add] using World.cell?_spot (hF 0 (by omega)).1
        subst hspot
        have hc : At W b off ((List.range len).map F) := fun j hj => by
          rw [hln] at hj
          rw [hget j hj, ← WideShapes.add_plain, Nat.add_assoc, ← WideShapes.add_plain]
          exact ⟨(hF j (by omega)).1, (hF j (by omega)).2.1⟩
        exact Or.inr ⟨by omega, b, off, _, by rw [hln], at_lt hc (by omega), by omega, hc⟩
    · intro f hf
      obtain ⟨i, hi, rfl⟩ := List.mem_map.1 hf
      have hi' := List.mem_range.1 hi
      exact (hF i (by omega)).2.2

/-- One field's size. -/
theorem size_one (f : Fld) (left : Int) (w : World) (h1 : f.1.length ≤ maxLen) (h2 : f.2.length ≤ maxLen) (h0 : 0 ≤ left) (h3 : left ≤ 1048576) :
    Calls Tryz.prog 74 #[fv f, .int .i64 left] w fun e w' => ∃ z : Int, e = .returned (.int .i64 z) ∧ (z < 0 ∨ (0 ≤ z ∧ z + (f.1.length + f.2.length : Int) = left)) ∧ Below w.heap.size w w' := by
  obtain ⟨x, y⟩ := f
  unfold maxLen at h1 h2
  simp only at h1 h2 ⊢
  have hsx : (⟨x.toArray⟩ : ByteArray).size = x.length := by simp [ByteArray.size]
  have hsy : (⟨y.toArray⟩ : ByteArray).size = y.length := by simp [ByteArray.size]
  unfold fv sv
  have HB := Lib.hid ((Below.refl w.heap.size w).alloc (Nat.le_refl _) (.cells #[.string ⟨x.toArray⟩, .string ⟨y.toArray⟩] 114))
  by_cases hn1 : left - (x.length : Int) < 0
  · go_enter Tryz.func74, Tryz.ntmps74
    go_wp2
    go_ret
    exact ⟨_, rfl, Or.inl (by omega), HB.out⟩
  · by_cases hn2 : left - (x.length : Int) - (y.length : Int) < 0
    · go_enter Tryz.func74, Tryz.ntmps74
      go_wp2
      go_ret
      exact ⟨_, rfl, Or.inl (by omega), HB.out⟩
    · go_enter Tryz.func74, Tryz.ntmps74
      go_wp2
      go_ret
      exact ⟨_, rfl, Or.inr ⟨by omega, by omega⟩, HB.out⟩

/-- What szFieldS answers: not below 0 just where the size is at most what is left. -/
def Sized (l : List Fld) (left : Int) (w : World) (e : Ending) (w' : World) : Prop := ∃ z : Int, e = .returned (.int .i64 z) ∧ (z < 0 ∨ (0 ≤ z ∧ z + total l = left)) ∧ Below w.heap.size w w'

theorem size_nil (a : Option Addr) (cap : Nat) (left : Int) (w : World) (h0 : 0 ≤ left) (h3 : left ≤ 1048576) :
    Calls Tryz.prog 44 #[.slice a 0 cap, .int .i64 left] w (Sized [] left w) := by
  go_enter Tryz.func44, Tryz.ntmps44
  go_wp2
  go_loop [1, 5] (fun l i => i = .int .i64 0 ∧ l = .int .i64 left) (fun _ i => 0)
  case atStart => exact ⟨rfl, by simp⟩
  case round =>
    obtain ⟨rfl, rfl⟩ := hrel
    go_wp2
    go_ret
    exact ⟨_, rfl, Or.inr ⟨by omega, by simp [total_nil]⟩, Below.refl _ _⟩

set_option maxHeartbeats 1000000 in
theorem size_some (b off cap : Nat) (l : List Fld) (left : Int) (w : World) (hc : At w b off l) (h0 : 0 < l.length) (hl : l.length ≤ maxLen) (hx : ∀ f ∈ l, f.1.length ≤ maxLen ∧ f.2.length ≤ maxLen) (hl0 : 0 ≤ left) (hl3 : left ≤ 1048576) :
    Calls Tryz.prog 44 #[.slice (some ⟨b, off, none⟩) l.length cap, .int .i64 left] w (Sized l left w) := by
  have hbl := at_lt hc h0
  have HC := Lib.hid hc
  have HX := Lib.hid hx
  unfold maxLen at hl
  clear hc hx
  by_cases hn : left - (l.length : Int) < 0
  · go_enter Tryz.func44, Tryz.ntmps44
    go_wp2
    go_ret
    exact ⟨_, rfl, Or.inl (by omega), Below.refl _ _⟩
  · go_enter Tryz.func44, Tryz.ntmps44
    go_wp2
    go_loopw [1, 5] (fun q i wr => ∃ k : Nat, k ≤ l.length ∧ i = .int .i64 (k : Int) ∧ 0 ≤ left - (l.length : Int) - (pre l k : Int) ∧ q = .int .i64 (left - (l.length : Int) - (pre l k : Int)) ∧ Below w.heap.size w wr) (fun _ i _ => l.length - (intOf i).toNat)
    case atStart => exact ⟨0, Nat.zero_le _, rfl, by rw [pre_zero]; omega, by rw [pre_zero]; simp, Below.refl _ _⟩
    case round =>
      obtain ⟨k, hk, rfl, hp, rfl, hb⟩ := hrel
      by_cases hlt : k < l.length
      · obtain ⟨c1, c2⟩ := at_below HC.out hb hbl k hlt
        have hm : l.getD k nofld ∈ l := by
          rw [show l.getD k nofld = l[k] by simp [List.getD, hlt]]; exact List.getElem_mem _
        have HX1 := Lib.hid (HX.out _ hm)
        have HP := Lib.hid (pre_more hlt)
        clear hm
        generalize hy : l.getD k nofld = f at c1 c2 HP HX1
        clear hy
        generalize hr : left - (l.length : Int) - (pre l k : Int) = r at hp ⊢
        have hr' := Lib.hid hr
        clear hr
        have HR : Hid (r ≤ 1048576) := Lib.hid (by have := hr'.out; omega)
        have HB := Lib.hid hb
        clear hb
        obtain ⟨x, y⟩ := f
        unfold sv at c1 c2
        go_wp2_with (go_at_call 74; refine (size_one (x, y) r wr HX1.out.1 HX1.out.2 hp HR.out).mono ?_; rintro e w' ⟨z, rfl, hz, hb1⟩; have HB1 := Lib.hid (Base.then_below HB.out (hb1.mono (Nat.le_refl _))); clear hb1)
        · go_ret
          exact ⟨_, rfl, Or.inl (by decide), HB1.out⟩
        · have hr2 := hr'.out
          have hz' : z + ((x.length : Int) + (y.length : Int)) = r := by omega
          go_roundw
          case rel => exact ⟨k + 1, by omega, by go_num, by rw [HP.out]; omega, by rw [HP.out]; congr 1; omega, HB1.out⟩
          case measure => simp [intOf]; omega
      · have HT := Lib.hid (pre_all (l := l) (k := k) (by omega))
        go_wp2
        go_ret
        exact ⟨_, rfl, Or.inr ⟨hp, by rw [HT.out]; omega⟩, hb⟩

theorem size_any (v : Value) (B : Nat) (l : List Fld) (left : Int) (w : World) (h : Holds w B v l) (hl : l.length ≤ maxLen) (hx : ∀ f ∈ l, f.1.length ≤ maxLen ∧ f.2.length ≤ maxLen) (h0 : 0 ≤ left) (h3 : left ≤ 1048576) :
    Calls Tryz.prog 44 #[v, .int .i64 left] w (Sized l left w) := by
  rcases h with ⟨rfl, a, cap, rfl⟩ | ⟨hp, b, off, cap, rfl, _, _, hc⟩
  · exact size_nil a cap left w h0 h3
  · exact size_some b off cap l left w hc hp hl hx h0 h3
end Go.Proofs.YtidmppphlcfpjaaGreatDoor.Flds

/-
  A SLICE OF FIELDS that stands in one cell of a struct (as in a request or a response), opened.
-/
namespace Go.Proofs.YtidmppphlcfpjaaGreatDoor.Flds
open Go Go.RowKit
set_option linter.unusedVariables false
set_option maxRecDepth 1000000

set_option maxRecDepth 1000000 in
/-- A slice of fields that stands in one cell, opened. -/
theorem open_cells {H : Type} {enc : TypeId × Value → H} {W : World} {fuel : Nat} {cs : List Value} {x : DataW H × List MemPlace}
    (hf : DataW.trod enc Tryz.prog W 0 (fun _ => true) true fuel 33 cs = some x) :
    ∃ (v : Value) (l : List Fld), cs = [v] ∧ Holds W W.heap.size v l ∧ l.length ≤ maxLen ∧ (∀ f ∈ l, f.1.length ≤ maxLen ∧ f.2.length ≤ maxLen) := by
  have c1 : Tryz.prog.cellsOf 9 = 1 := by kernel_rfl
  have c2 : Tryz.prog.cellsOf 114 = 2 := by kernel_rfl
  rcases Deep.open_slice_pairs Tryz.underlying33 Tryz.underlying114 c2 rfl rfl c1 c1 hf with ⟨hcs, hx⟩ | ⟨a, len', cap', m, n, V0, V1, D0, D1, P0, P1, hcs, _, hl, hm, hmm, hx, hall⟩
  · exact ⟨_, [], hcs, Or.inl ⟨rfl, _, _, rfl⟩, Nat.zero_le _, fun f hf => by cases hf⟩
  · simp only [if_true] at hmm
    subst hmm
    have each : ∀ i, i < m → ∃ f : Fld, W.cell? (a.add (i * 2)) = some (sv f.1) ∧ W.cell? (a.add (i * 2 + 1)) = some (sv f.2) ∧ f.1.length ≤ maxLen ∧ f.2.length ≤ maxLen := fun i hi => by
      obtain ⟨h0, h1, h2, h3⟩ := hall i hi
      obtain ⟨s, hs, hsz⟩ := trod_text h2
      obtain ⟨u, hu, huz⟩ := trod_text h3
      refine ⟨(s.data.toList, u.data.toList), by rw [h0, hs]; rfl, by rw [h1, hu]; rfl, ?_, ?_⟩
      · show s.data.toList.length ≤ maxLen; rw [Array.length_toList]; exact hsz
      · show u.data.toList.length ≤ maxLen; rw [Array.length_toList]; exact huz
    obtain ⟨F, hF⟩ := Deep.choose_lt each
    have hln : ((List.range len').map F).length = len' := by simp
    have hget : ∀ j, j < len' → ((List.range len').map F).getD j nofld = F j := fun j hj => by simp [List.getD, hj]
    refine ⟨_, (List.range len').map F, hcs, ?_, by rw [hln]; omega, ?_⟩
    · by_cases hl0 : len' = 0
      · subst hl0; exact Or.inl ⟨by simp, _, _, rfl⟩
      · obtain ⟨b, off, spot⟩ := a
        have hspot : spot = none := by simpa [Addr.add] using World.cell?_spot (hF 0 (by omega)).1
        subst hspot
        have hc : At W b off ((List.range len').map F) := fun j hj => by
          rw [hln] at hj
          rw [hget j hj, ← WideShapes.add_plain, Nat.add_assoc, ← WideShapes.add_plain]
          exact ⟨(hF j (by omega)).1, (hF j (by omega)).2.1⟩
        exact Or.inr ⟨by omega, b, off, _, by rw [hln], at_lt hc (by omega), by omega, hc⟩
    · intro f hf
      obtain ⟨i, hi, rfl⟩ := List.mem_map.1 hf
      have hi' := List.mem_range.1 hi
      exact (hF i (by omega)).2.2

end Go.Proofs.YtidmppphlcfpjaaGreatDoor.Flds

/-
  CONTRACTS of the laws' helpers for slices of fields: a copy (toField, toFieldS). Nothing that was there before is changed.
-/
namespace Go.Proofs.YtidmppphlcfpjaaGreatDoor.Flds
open Go Go.RowKit
set_option linter.unusedVariables false
set_option maxRecDepth 1000000

theorem copy_one (f : Fld) (w : World) : Calls Tryz.prog 82 #[fv f] w fun e w' => e = .returned (fv f) ∧ Below w.heap.size w w' := by
  obtain ⟨x, y⟩ := f
  unfold fv sv
  obtain ⟨s, hs⟩ : ∃ s : ByteArray, s = ⟨x.toArray⟩ := ⟨_, rfl⟩
  obtain ⟨t, ht⟩ : ∃ t : ByteArray, t = ⟨y.toArray⟩ := ⟨_, rfl⟩
  simp only
  rw [← hs, ← ht]
  clear hs ht
  go_enter Tryz.func82, Tryz.ntmps82
  go_wp2
  refine bodyPost_ret (v := .agg #[.string s, .string t]) (by simp [results, Tryz.results82, go_sem]) rfl ⟨rfl, ?_⟩
  exact (((Below.refl _ _).alloc (Nat.le_refl _) _).alloc (by simp) _).alloc (by simp; omega) _
theorem copy_two (x y : List UInt8) (w : World) : Calls Tryz.prog 82 #[.agg #[.string ⟨x.toArray⟩, .string ⟨y.toArray⟩]] w fun e w' => e = .returned (.agg #[.string ⟨x.toArray⟩, .string ⟨y.toArray⟩]) ∧ Below w.heap.size w w' := copy_one (x, y) w

def Copied (l : List Fld) (w : World) (e : Ending) (w' : World) : Prop := ∃ v, e = .returned v ∧ Own w' w.heap.size v l ∧ Below w.heap.size w w'
/-- .. and the slice is not nil. -/
def Copied' (l : List Fld) (w : World) (e : Ending) (w' : World) : Prop := ∃ v, e = .returned v ∧ Own w' w.heap.size v l ∧ Below w.heap.size w w' ∧ ∃ g cap, v = .slice (some ⟨g, 0, none⟩) l.length cap

theorem copy_nil (a : Option Addr) (cap : Nat) (w : World) :
    Calls Tryz.prog 49 #[.slice a 0 cap] w (Copied' [] w) := by
  obtain ⟨i0, hi, hz0, hz1, hz2⟩ := info_parts info_fld
  go_enter Tryz.func49, Tryz.ntmps49
  go_wp2_with (refine wpList_make_full _ (by rfl) (.tmp 6) (.tmp 6) 44 (by rfl) w.heap.size 123 i0 (.agg #[.string ⟨#[]⟩, .string ⟨#[]⟩]) 2 Tryz.underlying44 hi hz0 hz1 .i64 .i64 _ _ 0 (by rfl) (by rfl) rfl rfl (by rw [hz2]; omega) (by decide) (Nat.le_refl _) ?_; intro w1 hown hgrow)
  have e := made_part []
  rw [show ([] : List Fld).length * 2 = 0 * 2 from rfl, show fcs (part [] 0) = fcs [] from rfl] at e
  rw [e] at hown
  clear e
  go_loop [4] (fun i => i = .int .i64 0) (fun i => 0)
  case atStart => rfl
  case round =>
    obtain rfl := hrel
    go_wp2
    go_ret
    exact ⟨_, rfl, hown, (Below.refl _ _).grown hgrow (Nat.le_refl _) (fun k e => by cases e), ⟨_, _, rfl⟩⟩

set_option maxHeartbeats 1000000 in
theorem copy_some (b off cap : Nat) (l : List Fld) (w : World) (hc : At w b off l) (h0 : 0 < l.length) (hl : l.length ≤ 1048576) :
    Calls Tryz.prog 49 #[.slice (some ⟨b, off, none⟩) l.length cap] w (Copied' l w) := by
  obtain ⟨i0, hi, hz0, hz1, hz2⟩ := info_parts info_fld
  have hbl := at_lt hc h0
  have HC := Lib.hid hc
  clear hc
  go_enter Tryz.func49, Tryz.ntmps49
  go_wp2_with (at_make; refine wpList_make_full _ rfl (.tmp 6) (.tmp 6) 44 rfl w.heap.size 123 i0 (.agg #[.string ⟨#[]⟩, .string ⟨#[]⟩]) 2 Tryz.underlying44 hi hz0 hz1 .i64 .i64 _ _ l.length rfl rfl rfl rfl (by rw [hz2]; omega) (by unfold maxLen; omega) (Nat.le_refl _) ?_; intro w1 hown hgrow)
  rw [made_part] at hown
  have hb1 : Below w.heap.size w w1 := (Below.refl _ _).grown hgrow (Nat.le_refl _) (fun k e => by cases e)
  clear hgrow hi hz0 hz1 hz2
  have HO := Lib.hid hown
  clear hown
  go_loopw [4] (fun i wr => ∃ k : Nat, k ≤ l.length ∧ i = .int .i64 k ∧
      wr.ownsRow w.heap.size 123 2 (.slice (some ⟨w.heap.size, 0, none⟩) l.length l.length) l.length (fcs (part l k)) ∧ Below w.heap.size w wr) (fun i _ => l.length - (intOf i).toNat)
  case atStart => exact ⟨0, Nat.zero_le _, rfl, HO.out, hb1⟩
  case round =>
    obtain ⟨k, hk, rfl, hown, hb⟩ := hrel
    clear HO hb1
    by_cases hlt : k < l.length
    · obtain ⟨c1, c2⟩ := at_below HC.out hb hbl k hlt
      have HP := Lib.hid (part_more hlt)
      have HO := Lib.hid hown
      have HB := Lib.hid hb
      clear hown hb
      generalize hy : l.getD k nofld = f at c1 c2 HP
      clear hy
      obtain ⟨x, y⟩ := f
      unfold sv at c1 c2
      go_wp2_with (go_at_call 82; refine (copy_two x y wr).mono ?_; rintro e w' ⟨rfl, hb1⟩; have HB1 := Lib.hid (Base.then_below HB.out (hb1.mono (Nat.le_refl _))); have hr1 := row_below HO.out hb1; have HL1 := hr1.1; obtain ⟨d1, d2⟩ := own_cell hr1 hlt; have f1 := hr1.frozenAt (k * 2); have f2 := hr1.frozenAt (k * 2 + 1); have HR1 := Lib.hid hr1; clear hr1 hb1; unfold sv at d1 d2)
      have s1 := HR1.out.stored (k * 2) (sv x)
      have s2 := s1.1.stored (k * 2 + 1) (sv y)
      rw [fcs_set _ _ (x, y), HP.out] at s2
      have hz1 := HB1.out.size
      have hz2 := s1.2.size
      have hbb := (HB1.out.grown s1.2 hz1 (fun j e => by cases e; exact Nat.le_refl _)).grown s2.2 (by omega) (fun j e => by cases e; exact Nat.le_refl _)
      go_roundw
      case rel => exact ⟨k + 1, by omega, by go_num, s2.1, hbb⟩
      case measure => simp [intOf]; omega
    · obtain rfl : k = l.length := by omega
      rw [part_all] at hown
      go_wp2
      go_ret
      exact ⟨_, rfl, hown, hb, ⟨_, _, rfl⟩⟩

theorem copy' (v : Value) (B : Nat) (l : List Fld) (w : World) (h : Holds w B v l) (hl : l.length ≤ 1048576) :
    Calls Tryz.prog 49 #[v] w (Copied' l w) := by
  rcases h with ⟨rfl, a, cap, rfl⟩ | ⟨h0, b, off, cap, rfl, _, _, hc⟩
  · exact copy_nil a cap w
  · exact copy_some b off cap l w hc h0 hl
theorem copy (v : Value) (B : Nat) (l : List Fld) (w : World) (h : Holds w B v l) (hl : l.length ≤ 1048576) :
    Calls Tryz.prog 49 #[v] w (Copied l w) :=
  (copy' v B l w h hl).mono fun e w' ⟨v', h1, h2, h3, _⟩ => ⟨v', h1, h2, h3⟩
end Go.Proofs.YtidmppphlcfpjaaGreatDoor.Flds
