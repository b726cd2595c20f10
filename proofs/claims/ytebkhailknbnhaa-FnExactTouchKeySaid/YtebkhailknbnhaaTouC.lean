/-
  CONTRACTS of the program's copySketch and the model's l26Copy: a copy in memory of its own; nothing that was there before is changed.
-/
import Derived.Test.YtebkhailknbnhaaSkCp
import Derived.Test.YtebkhailknbnhaaRecApp
import Derived.Test.YtebkhailknbnhaaBox
import Derived.LoopTactic
import Derived.Outline
import Derived.Deep.AppendLies
import Derived.Deep.RegionHeldLaw
import Derived.RegionTactic
import Derived.Deep.DeepCutAuto
namespace Go.Proofs.Ytebkhailknbnhaa.Sk
open Go Go.RowKit
set_option linter.unusedVariables false
set_option maxRecDepth 1000000
set_option maxRecDepth 1000000

def ics (z : Int) : List Value := [.int .i64 z]
theorem ics_len : ∀ a, (ics a).length = 1 := fun _ => rfl
theorem ics_one : ∀ a, ∀ u ∈ ics a, u.oneCell' = true := fun a u hu => by simp [ics] at hu; subst hu; rfl
theorem flat_ics (l : List Int) : Rec.flat ics l = l.map (Value.int .i64) := by
  induction l with
  | nil => rfl
  | cons c r ih =>
    show ics c ++ Rec.flat ics r = _
    rw [ih]; rfl
abbrev RH (w : World) (B : Nat) (v : Value) (zs : List Int) : Prop := Rec.Holds 1 ics 0 w B v zs
theorem rh_nums {w : World} {B : Nat} {v : Value} {zs : List Int} (h : RH w B v zs) : Nums.Holds w v zs := by
  rcases h with h | ⟨h0, b, off, cap, rfl, hb, hc, hat⟩
  · exact Or.inl h
  · exact Or.inr ⟨h0, b, off, cap, rfl, fun j hj => by have := hat j hj 0 (.int .i64 (zs.getD j 0)) rfl; simpa using this⟩
theorem own_rh {w : World} {B : Nat} {v : Value} {zs : List Int} (h : Nums.OwnI w B v zs) : RH w w.heap.size v zs := Rec.own_holds ics_len (by decide) (T := 3) (B := B) (by rw [flat_ics]; exact h)
theorem i_nil {w : World} {B N : Nat} {T : TypeId} (hB : B ≤ w.heap.size) (hN : w.heap.size = N) : (w.alloc (.cells #[] T)).ownsRow B T 1 (.slice (some ⟨N, 0, none⟩) 0 0) ([] : List Int).length (Rec.flat ics []) := by
  subst hN; exact Rec.own_mono (Rec.own_lit_nil (cs := ics) _ _) hB
theorem i_ba {a w : World} (h : Below a.heap.size a w) (o : Obj) : Below a.heap.size a (w.alloc o) := h.alloc h.size o
theorem i_bg {a w w' : World} {B n : Nat} {T : TypeId} {v : Value} {xs : List Value} (h : Below a.heap.size a w) (hown : w.ownsRow B T 1 v n xs) (hB : a.heap.size ≤ B) (hg : w.grownBy w' v.ownBlock) : Below a.heap.size a w' :=
  h.grown hg h.size (fun k e => Nat.le_trans hB (hown.lt k e).1)
/-- Two blocks of two cells each, behind which only new memory was made. -/
def Two (v : Value) (n : Int) (g : Nat) (V u : World) : Prop := u.cell? ⟨g, 0, none⟩ = some v ∧ u.cell? ⟨g, 1, none⟩ = some (.int .i64 n) ∧ (u.cell? ⟨g + 1, 0, none⟩ = some (.slice none 0 0) ∧ u.cell? ⟨g + 1, 1, none⟩ = some (.int .i64 0)) ∧ (u.frozen? ⟨g + 1, 0, none⟩ = false ∧ u.frozen? ⟨g + 1, 1, none⟩ = false)

theorem fin2 {w W : World} {g B : Nat} {v : Value} {zs : List Int} (ho : W.ownsRow B 3 1 v ([] ++ zs).length (Rec.flat ics ([] ++ zs))) (hne : ∀ k, v.ownBlock = some k → k ≠ g) (hg : w.heap.size ≤ g) (hB : w.heap.size ≤ B) (hb : Below w.heap.size w W) (x y : Value) :
    Nums.OwnI ((W.setCell ⟨g, 0, none⟩ x).setCell ⟨g, 1, none⟩ y) w.heap.size v zs ∧ Below w.heap.size w ((W.setCell ⟨g, 0, none⟩ x).setCell ⟨g, 1, none⟩ y) := by
  have hn : v.ownBlock ≠ some g := fun e => hne g e rfl
  rw [flat_ics, List.nil_append] at ho
  exact ⟨Rec.own_mono (ownsRow_setCell_other (a := ⟨g, 1, none⟩) (ownsRow_setCell_other (a := ⟨g, 0, none⟩) ho hn _) hn _) hB, (hb.setCell (p := ⟨g, 0, none⟩) hg _).setCell (p := ⟨g, 1, none⟩) hg _⟩
set_option maxHeartbeats 4000000 in
theorem impl_cpsk (v : Value) (zs : List Int) (n : Int) (B : Nat) (w : World) (h : RH w B v zs) (hB : B ≤ w.heap.size) (hl : zs.length ≤ 1048576) :
    Calls Try.prog 37 #[.agg #[v, .int .i64 n]] w (CopiedO zs n w) := by
  obtain ⟨i0, hi, hz0, hz1, hz2⟩ := info_parts Nums.info_int
  have k1 := Kept.Box.new (w := w) (T := 26) (a := #[v, .int .i64 n])
  have k2 := Kept.Box.new (w := (w.alloc (.cells #[v, .int .i64 n] 26))) (T := 26) (a := #[.slice none 0 0, .int .i64 0])
  have hsz : (w.alloc (.cells #[v, .int .i64 n] 26)).heap.size = w.heap.size + 1 := by simp
  rw [hsz] at k2
  have k1 := k1.alloc (.cells #[.slice none 0 0, .int .i64 0] 26)
  have HB0 : Below w.heap.size w ((w.alloc (.cells #[v, .int .i64 n] 26)).alloc (.cells #[.slice none 0 0, .int .i64 0] 26)) := ((Below.refl w.heap.size w).alloc (Nat.le_refl _) _).alloc (by simp) _
  have hVs : ((w.alloc (.cells #[v, .int .i64 n] 26)).alloc (.cells #[.slice none 0 0, .int .i64 0] 26)).heap.size = w.heap.size + 1 + 1 := by simp
  obtain ⟨V, hV⟩ : ∃ V, V = ((w.alloc (.cells #[v, .int .i64 n] 26)).alloc (.cells #[.slice none 0 0, .int .i64 0] 26)) := ⟨_, rfl⟩
  rw [← hV] at k1 k2 HB0 hVs
  have HM : RH V w.heap.size v zs := Rec.holds_more (Rec.holds_below h (HB0.mono hB)) hB
  have FB : Hid (∀ u, Below V.heap.size V u → Two v n w.heap.size V u) := Lib.hid (fun u hb => by
    have q1 := k1.below hb
    have q2 := k2.below hb
    exact ⟨q1.cell 0 _ rfl, q1.cell 1 _ rfl, ⟨q2.cell 0 _ rfl, q2.cell 1 _ rfl⟩, q2.frz 0, q2.frz 1⟩)
  have HMU : Hid (∀ u, Below V.heap.size V u → RH u w.heap.size v zs) := Lib.hid (fun u hb => Rec.holds_below HM (hb.mono (by omega)))
  have HBV := Lib.hid HB0
  have HVS := Lib.hid hVs
  have HVV := Lib.hid hV
  clear h k1 k2 HB0 HM hV
  go_enter Try.func37, Try.ntmps37
  go_upto_region 1 with fail
  rw [← HVV.out]
  have HBD : Hid (Below V.heap.size V V.drew) := Lib.hid (Rec.below_drew (Below.refl _ _))
  have HBA : Hid (Below V.heap.size V (V.alloc (.cells #[] 3)).drew) := Lib.hid (Rec.below_drew (i_ba (Below.refl _ _) _))
  have HO3 : Hid ((V.alloc (.cells #[] 3)).drew.ownsRow V.heap.size 3 1 (.slice (some ⟨w.heap.size + 1 + 1, 0, none⟩) 0 0) ([] : List Int).length (Rec.flat ics [])) := Lib.hid (i_nil (w := V) (Nat.le_refl _) HVS.out)
  obtain ⟨d0, d1, ⟨d2, d3⟩, d4, d5⟩ := FB.out _ HBD.out
  obtain ⟨a0, a1, ⟨a2, a3⟩, a4, a5⟩ := FB.out _ HBA.out
  go_wp2
  go_region_held_law (fun u => u.cell? ⟨w.heap.size, 0, none⟩ = some v ∧ u.cell? ⟨w.heap.size, 1, none⟩ = some (.int .i64 n))
    (first | exact ⟨d0, d1⟩ | exact ⟨a0, a1⟩ | exact ⟨e0, e1⟩ | go_keep)
    ((refine Rec.step_holds ics_len ics_one (by rfl) (.tmp 3) (.tmp 5) 22 3 (by rfl) Try.underlying22 hi hz0 hz1 hz2 (by rfl) (by decide) (by rfl) (by rfl) HO3.out (HMU.out _ HBA.out) (by unfold maxLen; simp; omega) (by simp; omega) HBA.out.size ?_; intro v1 w2 hown1 hgrow1; have HB2 : Hid (Below V.heap.size V w2) := Lib.hid (i_bg HBA.out HO3.out (Nat.le_refl _) hgrow1); obtain ⟨e0, e1, ⟨e2, e3⟩, e4, e5⟩ := FB.out _ HB2.out; obtain ⟨ar, cpr, rfl, _⟩ := Rec.shape_at hown1))
  have HF := Lib.hid (fin2 (w := w) (g := w.heap.size + 1) hown1 (fun k e => by have := (hown1.lt k e).1; have := HVS.out; omega) (by omega) HBV.out.size (Base.then_below HBV.out HB2.out))
  clear hown1 hgrow1 d0 d1 d2 d3 d4 d5 a0 a1 a2 a3 a4 a5
  rw [List.nil_append] at HF
  go_wp2
  refine bodyPost_ret (v := .agg #[.slice ar zs.length cpr, .int .i64 n]) (by simp [results, Try.results37, go_sem, e2, e3]) rfl ⟨_, rfl, (HF.out _ _).1, (HF.out _ _).2⟩
/-- With its counts, zeros if there are none. -/
def full (zs : List Int) : List Int := if zs.length = 0 then List.replicate 64 0 else zs
theorem box_grown {W W' : World} {g : Nat} {xs : List Value} {row : Option Nat} (h : Kept.Box W g xs) (hg : W.grownBy W' row) (hne : some g ≠ row) : Kept.Box W' g xs :=
  ⟨fun j u e => hg.cell (h.cell j u e) hne, fun j => (hg.frozen_far ⟨g, j, none⟩ h.lt hne).trans (h.frz j), Nat.lt_of_lt_of_le h.lt hg.size⟩
theorem own_ne {w : World} {B n g : Nat} {v : Value} {xs : List Value} {c : Array Value} {fr : Nat × Nat} (h : w.ownsRow B 3 1 v n xs) (hg : w.heap[g]? = some (.cells c 26 fr)) : ∀ k, v.ownBlock = some k → k ≠ g := by
  intro k e hk
  subst hk
  rcases h.2 with ⟨rfl, _⟩ | ⟨g', cap, cur, rfl, _, hh, _⟩
  · cases e
  · have e2 : g' = k := Option.some.inj e
    subst e2
    rw [hh] at hg
    injection hg with hg
    injection hg with _ ht
    exact absurd ht (by decide)
theorem blk_new (w : World) (c : Array Value) (T : TypeId) : (w.alloc (.cells c T)).heap[w.heap.size]? = some (.cells c T (0, 0)) := by
  show (w.heap.push _)[w.heap.size]? = _; simp
theorem blk_old {w : World} {g : Nat} {o : Obj} (h : w.heap[g]? = some o) (x : Obj) : (w.alloc x).heap[g]? = some o := by
  have hlt : g < w.heap.size := by
    rcases Nat.lt_or_ge g w.heap.size with h' | h'
    · exact h'
    · rw [Array.getElem?_eq_none h'] at h; cases h
  show (w.heap.push _)[g]? = _
  rw [Array.getElem?_push_lt hlt, ← Array.getElem?_eq_getElem hlt]; exact h
/-- The copy lies in block g, its counts in a block of their own. -/
def Rel (V : World) (zs : List Int) (n : Int) (g : Nat) (ar : Option Addr) (cpr : Nat) (wx : World) : Prop := V.heap.size ≤ g ∧ Kept.Box wx g [.slice ar zs.length cpr, .int .i64 n] ∧ (wx.ownsRow V.heap.size 3 1 (.slice ar zs.length cpr) zs.length (zs.map (Value.int .i64)) ∧ ∀ k, Value.ownBlock (.slice ar zs.length cpr) = some k → k ≠ g) ∧ Below V.heap.size V wx
theorem rel_put {V W : World} {zs : List Int} {n : Int} {g : Nat} {ar : Option Addr} {cpr : Nat} (hg : V.heap.size ≤ g) (hk : Kept.Box W g [.slice none 0 0, .int .i64 0]) (ho : W.ownsRow V.heap.size 3 1 (.slice ar zs.length cpr) zs.length (zs.map (Value.int .i64))) (hne : ∀ k, Value.ownBlock (.slice ar zs.length cpr) = some k → k ≠ g) (hb : Below V.heap.size V W) :
    Rel V zs n g ar cpr ((W.setCell ⟨g, 0, none⟩ (.slice ar zs.length cpr)).setCell ⟨g, 1, none⟩ (.int .i64 n)) := by
  have hn : Value.ownBlock (.slice ar zs.length cpr) ≠ some g := fun e => hne g e rfl
  exact ⟨hg, (hk.same (k := 0) (by simp) (.slice ar zs.length cpr)).same (k := 1) (by simp) (.int .i64 n), ⟨ownsRow_setCell_other (a := ⟨g, 1, none⟩) (ownsRow_setCell_other (a := ⟨g, 0, none⟩) ho hn _) hn _, hne⟩, (hb.setCell (p := ⟨g, 0, none⟩) hg _).setCell (p := ⟨g, 1, none⟩) hg _⟩
theorem rel_new {V W : World} {zs : List Int} {n : Int} {ar : Option Addr} {cpr : Nat} {T : TypeId} (ho : W.ownsRow V.heap.size 3 1 (.slice ar zs.length cpr) zs.length (zs.map (Value.int .i64))) (hb : Below V.heap.size V W) :
    Rel V zs n W.heap.size ar cpr (W.alloc (.cells #[.slice ar zs.length cpr, .int .i64 n] T)) :=
  ⟨hb.size, Kept.Box.new (a := #[.slice ar zs.length cpr, .int .i64 n]), ⟨ho.alloc _, fun k e => Nat.ne_of_lt (ho.lt k e).2⟩, hb.alloc hb.size _⟩

set_option maxHeartbeats 8000000 in
theorem spec_cpsk (v : Value) (zs : List Int) (n : Int) (B : Nat) (w : World) (h : RH w B v zs) (hB : B ≤ w.heap.size) (hl : zs.length ≤ 1048576) :
    Calls Try.prog 34 #[.agg #[v, .int .i64 n]] w (CopiedO (full zs) n w) := by
  obtain ⟨i0, hi, hz0, hz1, hz2⟩ := info_parts Nums.info_int
  obtain ⟨res, hres⟩ : ∃ r, r = full zs := ⟨_, rfl⟩
  rw [← hres]
  have HRS := Lib.hid hres
  clear hres
  have k1 := Kept.Box.new (w := w) (T := 26) (a := #[v, .int .i64 n])
  have k2 := Kept.Box.new (w := (w.alloc (.cells #[v, .int .i64 n] 26))) (T := 26) (a := #[.slice none 0 0, .int .i64 0])
  have hsz : (w.alloc (.cells #[v, .int .i64 n] 26)).heap.size = w.heap.size + 1 := by simp
  rw [hsz] at k2
  have k1 := k1.alloc (.cells #[.slice none 0 0, .int .i64 0] 26)
  have HB0 : Below w.heap.size w ((w.alloc (.cells #[v, .int .i64 n] 26)).alloc (.cells #[.slice none 0 0, .int .i64 0] 26)) := ((Below.refl w.heap.size w).alloc (Nat.le_refl _) _).alloc (by simp) _
  have hVs : ((w.alloc (.cells #[v, .int .i64 n] 26)).alloc (.cells #[.slice none 0 0, .int .i64 0] 26)).heap.size = w.heap.size + 1 + 1 := by simp
  obtain ⟨V, hV⟩ : ∃ V, V = ((w.alloc (.cells #[v, .int .i64 n] 26)).alloc (.cells #[.slice none 0 0, .int .i64 0] 26)) := ⟨_, rfl⟩
  rw [← hV] at k1 k2 HB0 hVs
  have HM : RH V w.heap.size v zs := Rec.holds_more (Rec.holds_below h (HB0.mono hB)) hB
  have FB : Hid (∀ u, Below V.heap.size V u → Two v n w.heap.size V u) := Lib.hid (fun u hb => by
    have q1 := k1.below hb
    have q2 := k2.below hb
    exact ⟨q1.cell 0 _ rfl, q1.cell 1 _ rfl, ⟨q2.cell 0 _ rfl, q2.cell 1 _ rfl⟩, q2.frz 0, q2.frz 1⟩)
  have HMU : Hid (∀ u, Below V.heap.size V u → RH u w.heap.size v zs) := Lib.hid (fun u hb => Rec.holds_below HM (hb.mono (by omega)))
  have HBV := Lib.hid HB0
  have HVS := Lib.hid hVs
  have HVV := Lib.hid hV
  clear h k1 k2 HB0 HM hV
  go_enter Try.func34, Try.ntmps34
  go_upto_region 1 with fail
  rw [← HVV.out]
  go_cut [3] (fun s3 wx => ∃ (g : Nat) (ar : Option Addr) (cpr : Nat), s3 = .pointer (some ⟨g, 0, none⟩) ∧ Hid (Rel V zs n g ar cpr wx))
  case first =>
    have HBd : Hid (Below V.heap.size V V.drew) := Lib.hid (Rec.below_drew (Below.refl _ _))
    have HBo : Hid (Below V.heap.size V (V.alloc (.cells #[.slice none 0 0, .int .i64 0] 26)).drew) := Lib.hid (Rec.below_drew (i_ba (Below.refl _ _) _))
    have HBa : Hid (Below V.heap.size V (V.alloc (.cells #[] 3)).drew) := Lib.hid (Rec.below_drew (i_ba (Below.refl _ _) _))
    have HBp : Hid (Below V.heap.size V ((V.alloc (.cells #[.slice none 0 0, .int .i64 0] 26)).alloc (.cells #[] 3)).drew) := Lib.hid (Rec.below_drew (i_ba (i_ba (Below.refl _ _) _) _))
    have HBq : Hid (Below V.heap.size V ((V.alloc (.cells #[] 3)).alloc (.cells #[.slice none 0 0, .int .i64 0] 26)).drew) := Lib.hid (Rec.below_drew (i_ba (i_ba (Below.refl _ _) _) _))
    have HOa : Hid ((V.alloc (.cells #[] 3)).drew.ownsRow V.heap.size 3 1 (.slice (some ⟨w.heap.size + 1 + 1, 0, none⟩) 0 0) ([] : List Int).length (Rec.flat ics [])) := Lib.hid (i_nil (w := V) (Nat.le_refl _) HVS.out)
    have HOp : Hid (((V.alloc (.cells #[.slice none 0 0, .int .i64 0] 26)).alloc (.cells #[] 3)).drew.ownsRow V.heap.size 3 1 (.slice (some ⟨w.heap.size + 1 + 1 + 1, 0, none⟩) 0 0) ([] : List Int).length (Rec.flat ics [])) := Lib.hid (i_nil (w := V.alloc (.cells #[.slice none 0 0, .int .i64 0] 26)) (by simp) (by have := HVS.out; simp; omega))
    have HOq : Hid (((V.alloc (.cells #[] 3)).alloc (.cells #[.slice none 0 0, .int .i64 0] 26)).drew.ownsRow V.heap.size 3 1 (.slice (some ⟨w.heap.size + 1 + 1, 0, none⟩) 0 0) ([] : List Int).length (Rec.flat ics [])) := Lib.hid (HOa.out.alloc _)
    have HKp : Hid (Kept.Box ((V.alloc (.cells #[.slice none 0 0, .int .i64 0] 26)).alloc (.cells #[] 3)).drew (w.heap.size + 1 + 1) [.slice none 0 0, .int .i64 0]) := Lib.hid (by have k := (Kept.Box.new (w := V) (T := 26) (a := #[.slice none 0 0, .int .i64 0])).alloc (.cells #[] 3); rw [HVS.out] at k; exact k.below (Rec.below_drew (Below.refl _ _)))
    have HKq : Hid (Kept.Box ((V.alloc (.cells #[] 3)).alloc (.cells #[.slice none 0 0, .int .i64 0] 26)).drew (w.heap.size + 1 + 1 + 1) [.slice none 0 0, .int .i64 0]) := Lib.hid (by have k := Kept.Box.new (w := V.alloc (.cells #[] 3)) (T := 26) (a := #[.slice none 0 0, .int .i64 0]); rw [show (V.alloc (.cells #[] 3)).heap.size = w.heap.size + 1 + 1 + 1 by have := HVS.out; simp; omega] at k; exact k.below (Rec.below_drew (Below.refl _ _)))
    obtain ⟨d0, d1, _⟩ := FB.out _ HBd.out
    obtain ⟨o0, o1, _⟩ := FB.out _ HBo.out
    obtain ⟨a0, a1, _⟩ := FB.out _ HBa.out
    obtain ⟨p0, p1, _⟩ := FB.out _ HBp.out
    obtain ⟨q0, q1, _⟩ := FB.out _ HBq.out
    have HHp : Hid (((V.alloc (.cells #[.slice none 0 0, .int .i64 0] 26)).alloc (.cells #[] 3)).drew.heap[w.heap.size + 1 + 1]? = some (.cells #[.slice none 0 0, .int .i64 0] 26 (0, 0))) := Lib.hid (by have h := blk_old (blk_new V #[.slice none 0 0, .int .i64 0] 26) (.cells #[] 3); rw [HVS.out] at h; exact h)
    have HHq : Hid (((V.alloc (.cells #[] 3)).alloc (.cells #[.slice none 0 0, .int .i64 0] 26)).drew.heap[w.heap.size + 1 + 1 + 1]? = some (.cells #[.slice none 0 0, .int .i64 0] 26 (0, 0))) := Lib.hid (by have h := blk_new (V.alloc (.cells #[] 3)) #[.slice none 0 0, .int .i64 0] 26; rw [show (V.alloc (.cells #[] 3)).heap.size = w.heap.size + 1 + 1 + 1 by have := HVS.out; simp; omega] at h; exact h)
    go_wp2
    go_region_held_law (fun u => u.cell? ⟨w.heap.size, 0, none⟩ = some v ∧ u.cell? ⟨w.heap.size, 1, none⟩ = some (.int .i64 n))
      (first | exact ⟨d0, d1⟩ | exact ⟨o0, o1⟩ | exact ⟨a0, a1⟩ | exact ⟨p0, p1⟩ | exact ⟨q0, q1⟩ | exact ⟨e0, e1⟩ | exact ⟨e0, e1⟩ | go_keep | exact ⟨((World.cell?_setCell_other _ _ _ _ (fun e => by have h8 := congrArg Addr.block e; dsimp only at h8; omega)).trans (World.cell?_setCell_other _ _ _ _ (fun e => by have h8 := congrArg Addr.block e; dsimp only at h8; omega))).trans e0, ((World.cell?_setCell_other _ _ _ _ (fun e => by have h8 := congrArg Addr.block e; dsimp only at h8; omega)).trans (World.cell?_setCell_other _ _ _ _ (fun e => by have h8 := congrArg Addr.block e; dsimp only at h8; omega))).trans e1⟩)
      (first
        | (refine Rec.step_holds ics_len ics_one (by rfl) (.tmp 6) (.tmp 8) 22 3 (by rfl) Try.underlying22 hi hz0 hz1 hz2 (by rfl) (by decide) (by rfl) (by rfl) HOa.out (HMU.out _ HBa.out) (by unfold maxLen; simp; omega) (by simp; omega) HBa.out.size ?_; intro v1 w2 hown1 hgrow1; have HB2 : Hid (Below V.heap.size V w2) := Lib.hid (i_bg HBa.out HOa.out (Nat.le_refl _) hgrow1); obtain ⟨e0, e1, _⟩ := FB.out _ HB2.out; rw [flat_ics, List.nil_append] at hown1; obtain ⟨ar, cpr, rfl, _⟩ := Rec.shape_at hown1; have HR := Lib.hid (rel_new (n := n) (T := 26) hown1 HB2.out))
        | (refine Rec.step_holds ics_len ics_one (by rfl) (.tmp 6) (.tmp 8) 22 3 (by rfl) Try.underlying22 hi hz0 hz1 hz2 (by rfl) (by decide) (by rfl) (by rfl) HOp.out (HMU.out _ HBp.out) (by unfold maxLen; simp; omega) (by simp; omega) HBp.out.size ?_; intro v1 w2 hown1 hgrow1; have HB2 : Hid (Below V.heap.size V w2) := Lib.hid (i_bg HBp.out HOp.out (Nat.le_refl _) hgrow1); obtain ⟨e0, e1, _⟩ := FB.out _ HB2.out; rw [flat_ics, List.nil_append] at hown1; obtain ⟨ar, cpr, rfl, _⟩ := Rec.shape_at hown1; have HK2 := Lib.hid (box_grown HKp.out hgrow1 (fun e => by have e2 : w.heap.size + 1 + 1 = w.heap.size + 1 + 1 + 1 := Option.some.inj e; omega)); have HH2 : w2.heap[w.heap.size + 1 + 1]? = some (.cells #[.slice none 0 0, .int .i64 0] 26 (0, 0)) := (hgrow1.block _ HKp.out.lt (fun e => by have e2 : w.heap.size + 1 + 1 = w.heap.size + 1 + 1 + 1 := Option.some.inj e; omega)).trans HHp.out; have HR := Lib.hid (rel_put (n := n) (by have := HVS.out; omega) HK2.out hown1 (own_ne hown1 HH2) HB2.out); have k0 := HK2.out.cell 0 _ rfl; have k1 := HK2.out.cell 1 _ rfl; have kf0 := HK2.out.frz 0; have kf1 := HK2.out.frz 1; clear HH2)
        | (refine Rec.step_holds ics_len ics_one (by rfl) (.tmp 6) (.tmp 8) 22 3 (by rfl) Try.underlying22 hi hz0 hz1 hz2 (by rfl) (by decide) (by rfl) (by rfl) HOq.out (HMU.out _ HBq.out) (by unfold maxLen; simp; omega) (by simp; omega) HBq.out.size ?_; intro v1 w2 hown1 hgrow1; have HB2 : Hid (Below V.heap.size V w2) := Lib.hid (i_bg HBq.out HOq.out (Nat.le_refl _) hgrow1); obtain ⟨e0, e1, _⟩ := FB.out _ HB2.out; rw [flat_ics, List.nil_append] at hown1; obtain ⟨ar, cpr, rfl, _⟩ := Rec.shape_at hown1; have HK2 := Lib.hid (box_grown HKq.out hgrow1 (fun e => by have e2 : w.heap.size + 1 + 1 + 1 = w.heap.size + 1 + 1 := Option.some.inj e; omega)); have HH2 : w2.heap[w.heap.size + 1 + 1 + 1]? = some (.cells #[.slice none 0 0, .int .i64 0] 26 (0, 0)) := (hgrow1.block _ HKq.out.lt (fun e => by have e2 : w.heap.size + 1 + 1 + 1 = w.heap.size + 1 + 1 := Option.some.inj e; omega)).trans HHq.out; have HR := Lib.hid (rel_put (n := n) (by have := HVS.out; omega) HK2.out hown1 (own_ne hown1 HH2) HB2.out); have k0 := HK2.out.cell 0 _ rfl; have k1 := HK2.out.cell 1 _ rfl; have kf0 := HK2.out.frz 0; have kf1 := HK2.out.frz 1; clear HH2))
    all_goals (go_wp2_with fail; go_meet; exact ⟨_, _, _, rfl, HR⟩)
  case rest =>
    rename World => wx
    obtain ⟨g, ar, cpr, rfl, HR⟩ := hcut
    obtain ⟨hgV, hbx, ⟨how, hne⟩, hbw⟩ := HR.out
    obtain ⟨f0, f1, ⟨f2, f3⟩, f4, f5⟩ := FB.out _ hbw
    have g0 := hbx.cell 0 _ rfl
    have g1 := hbx.cell 1 _ rfl
    have gf0 := hbx.frz 0
    have HBW := Lib.hid (Base.then_below HBV.out hbw)
    have hg1 : w.heap.size + 1 < g := by have := HVS.out; omega
    by_cases h0 : zs.length = 0
    · have h0i : ((zs.length : Nat) : Int) = 0 := by omega
      have hfull : res = List.replicate 64 0 := by rw [HRS.out]; unfold full; rw [if_pos h0]
      subst hfull
      clear how hne
      rw [h0] at g0
      go_wp2_with (at_make; refine wpList_make_full _ rfl (.const (.int .i64 64)) (.const (.int .i64 64)) 22 rfl wx.heap.size 3 i0 (.int .i64 0) 1 Try.underlying22 hi hz0 hz1 .i64 .i64 _ _ 64 rfl rfl rfl rfl (by rw [hz2]; omega) (by unfold maxLen; omega) (Nat.le_refl _) ?_; intro w1 hown hgrow; have HBX := Lib.hid (box_grown hbx hgrow (by simp)); have k0 := HBX.out.cell 0 _ rfl; have k1 := HBX.out.cell 1 _ rfl; have kf0 := HBX.out.frz 0; have HB1 := Lib.hid ((Below.refl wx.heap.size wx).grown hgrow (Nat.le_refl _) (fun k e => by cases e)); obtain ⟨p0, p1, ⟨p2, p3⟩, p4, p5⟩ := FB.out _ (Base.then_below hbw HB1.out); have HMO := Lib.hid hown; clear hown hgrow)
      have hmd : (madeCells (Value.int .i64 0).cells (64 * 1)).toList = (List.replicate 64 0).map (Value.int .i64) := by kernel_rfl
      have hgl := hbx.lt
      have HO1 : (w1.setCell ⟨g, 0, none⟩ (.slice (some ⟨wx.heap.size, 0, none⟩) 64 64)).ownsRow wx.heap.size 3 1 (.slice (some ⟨wx.heap.size, 0, none⟩) 64 64) ([] ++ List.replicate 64 (0 : Int)).length (Rec.flat ics ([] ++ List.replicate 64 (0 : Int))) := by
        rw [flat_ics, List.nil_append, ← hmd]
        exact ownsRow_setCell_other (a := ⟨g, 0, none⟩) HMO.out (fun e => by have e2 : wx.heap.size = g := Option.some.inj e; omega) _
      have HF := Lib.hid (fin2 (w := w) (g := w.heap.size + 1) (W := w1.setCell ⟨g, 0, none⟩ (.slice (some ⟨wx.heap.size, 0, none⟩) 64 64)) (B := wx.heap.size) (zs := List.replicate 64 0) HO1 (fun k e => by have e2 : wx.heap.size = k := Option.some.inj e; omega) (by omega) HBW.out.size ((Base.then_below HBW.out HB1.out).setCell (p := ⟨g, 0, none⟩) (by show w.heap.size ≤ g; omega) _))
      clear HO1 hbx hbw HR hmd
      go_wp2
      refine bodyPost_ret (v := .agg #[.slice (some ⟨wx.heap.size, 0, none⟩) 64 64, .int .i64 n]) (by simp [results, Try.results34, go_sem, p2, p3]) rfl ⟨_, rfl, (HF.out _ _).1, (HF.out _ _).2⟩
    · have h0i : ¬ ((zs.length : Nat) : Int) = 0 := by omega
      have hfull : res = zs := by rw [HRS.out]; unfold full; rw [if_neg h0]
      subst hfull
      have hb0 : ((res.length : Int) == 0) = false := beq_eq_false_iff_ne.2 h0i
      have HF := Lib.hid (fin2 (w := w) (g := w.heap.size + 1) (W := wx) (B := V.heap.size) (zs := res) (by rw [flat_ics, List.nil_append]; exact how) (fun k e => by have := (how.lt k e).1; have := HVS.out; omega) (by omega) HBV.out.size HBW.out)
      clear how hne hbx hbw HR
      go_wp2
      refine bodyPost_ret (v := .agg #[.slice ar res.length cpr, .int .i64 n]) (by simp [results, Try.results34, go_sem, f2, f3]) rfl ⟨_, rfl, (HF.out _ _).1, (HF.out _ _).2⟩
end Go.Proofs.Ytebkhailknbnhaa.Sk
