/-
  CONTRACTS AND PLAIN FACTS, several texts in one; each says in its own words what it proves.
-/
import Derived.Test.YtojmkdggkaocdaaGreatDoorPqB
import Derived.Laws.OwnMore
import Derived.Tactics
import Derived.Test.YtojmkdggkaocdaaGreatDoorPqA
import Derived.Test.YtojmkdggkaocdaaGreatDoorPqD
import Derived.Test.YtojmkdggkaocdaaGreatDoorPqC
import Derived.RegionTactic

/-
  A LAW FOR append(built, given...): what the call has built, and behind it a slice that reads as a list of structs, whether nil, empty or not.
-/
namespace Go.Proofs.YtojmkdggkaocdaaGreatDoor.Rec
open Go Go.RowKit
set_option linter.unusedVariables false
set_option maxRecDepth 1000000

theorem run_append_zero {P : Program} {w : World} {base n size c : Nat} {t ty e : TypeId} {i : TypeInfo} {v : Value} {xs : List Value} (hown : w.ownsRow base e size v n xs) (hi : P.info? e = some i) (ht : P.underlying t = some (.slice e)) :
    (Builtin.append_ #[t, t] ty #[v, .slice none 0 c]).run P w = .ok v w := by
  have hu := run_underlying ht
  cases hown.2 with
  | inl h => obtain ⟨rfl, rfl⟩ := h; simp [Builtin.lenOf, Builtin.firstCells, Builtin.append_, sizeOf, typeInfo, hu, hi]
  | inr h => obtain ⟨g, cap, cur, rfl, _, _, hnc, _⟩ := h; simp [Builtin.lenOf, Builtin.firstCells, Builtin.append_, sizeOf, typeInfo, storeCells, hu, hi, hnc]
section
variable {α : Type} {n : Nat} {cs : α → List Value} {z : α}
theorem wp_append_holds (hl : ∀ a, (cs a).length = n) (h1 : ∀ a, ∀ u ∈ cs a, u.oneCell' = true) {P : Program} {w : World} {o : Oper} {a : Act} {K : Act → World → Prop} {Q : Exit → Act → World → Prop}
    (s x : Operand) (t e : TypeId) (ho : o.op = .call { callee := .builtin .append, args := #[s, x], argTypes := #[t, t] }) (ht : P.underlying t = some (.slice e))
    {i : TypeInfo} (hi : P.info? e = some i) {zv : Value} (hz : i.zero = some zv) {bytes : Nat} (hsize : i.size = n) (hby : i.bytes = bytes) (hzs : zv.cells.size = n) (hsz : 0 < n)
    {B base : Nat} {v vx : Value} {l m : List α} (hs : a.eval s = v) (hx : a.eval x = vx) (hown : w.ownsRow base e n v l.length (flat cs l)) (hm : Holds n cs z w B vx m)
    (h63 : l.length + m.length ≤ maxLen) (hbytes : (l.length + m.length) * bytes ≤ 140737488355328) (hbase : base ≤ w.heap.size)
    (h : ∀ v' w', w'.ownsRow base e n v' (l ++ m).length (flat cs (l ++ m)) → w.grownBy w' v.ownBlock → K (a.put o.dst v') w') : o.wp P a w K Q := by
  have key : ∀ (ad : Addr) (cap : Nat), vx = .slice (some ad) m.length cap → (∀ j u, (flat cs m)[j]? = some u → w.cell? (ad.add j) = some u) → o.wp P a w K Q := fun ad cap hv hc =>
    wp_append_own w s x t ho base e i zv n bytes ht hi hz hsize hby hzs hsz v l.length (flat cs l) hs hown ad m.length cap (flat cs m) (hx.trans hv) (flat_len hl m) hc (flat_one h1 m) h63 hbytes hbase
      fun v' w' h2 h3 _ => h v' w' (by rw [List.length_append, flat_append]; exact h2) h3
  rcases hm with ⟨rfl, ad, cap, rfl⟩ | ⟨h0, b, off, cap, rfl, hB, hc, hcell⟩
  · cases ad with
    | some ad => exact key ad cap rfl (fun j u hu => by simp [flat] at hu)
    | none =>
      have hh := h v w (by simpa using hown) (World.grownBy.refl w _)
      have hr := run_append_zero (P := P) (ty := o.type) (c := cap) hown hi ht
      unfold Oper.wp
      simp [hs, hx, hr, ho, execOp, resolve, invoke, builtin, Result.andThen]
      exact hh
  · refine key ⟨b, off, none⟩ cap rfl (fun j u hu => ?_)
    have hlt := (List.getElem?_eq_some_iff.1 hu).1
    rw [flat_len hl] at hlt
    have hj : j / n < m.length := (Nat.div_lt_iff_lt_mul hsz).2 hlt
    have hi' : j % n < (cs (m.getD (j / n) z)).length := by rw [hl]; exact Nat.mod_lt _ hsz
    have e1 : j / n * n + j % n = j := by rw [Nat.mul_comm]; exact Nat.div_add_mod j n
    have h3 := flat_at hl (z := z) (l := m) hj (List.getElem?_eq_getElem hi')
    rw [e1, hu] at h3
    have h4 := hcell (j / n) hj (j % n) _ (List.getElem?_eq_getElem hi')
    rw [Nat.add_assoc, e1] at h4
    rw [WideShapes.add_plain, h4, ← h3]
theorem append_holds (hl : ∀ a, (cs a).length = n) (h1 : ∀ a, ∀ u ∈ cs a, u.oneCell' = true) {P : Program} {w : World} {ops : Array Oper} {rest : List Oper} {o : Oper} {a : Act} {Q : Exit → Act → World → Prop} (hgd : o.guard = none)
    (s x : Operand) (t e : TypeId) (ho : o.op = .call { callee := .builtin .append, args := #[s, x], argTypes := #[t, t] }) (ht : P.underlying t = some (.slice e))
    {i : TypeInfo} (hi : P.info? e = some i) {zv : Value} (hz : i.zero = some zv) {bytes : Nat} (hsize : i.size = n) (hby : i.bytes = bytes) (hzs : zv.cells.size = n) (hsz : 0 < n)
    {B base : Nat} {v vx : Value} {l m : List α} (hs : a.eval s = v) (hx : a.eval x = vx) (hown : w.ownsRow base e n v l.length (flat cs l)) (hm : Holds n cs z w B vx m)
    (h63 : l.length + m.length ≤ maxLen) (hbytes : (l.length + m.length) * bytes ≤ 140737488355328) (hbase : base ≤ w.heap.size)
    (h : ∀ v' w', w'.ownsRow base e n v' (l ++ m).length (flat cs (l ++ m)) → w.grownBy w' v.ownBlock → wpList P ops Q rest (a.put o.dst v') w') : wpList P ops Q (o :: rest) a w :=
  wpList_plain hgd fun _ hK => wp_append_holds hl h1 s x t e ho ht hi hz hsize hby hzs hsz hs hx hown hm h63 hbytes hbase fun v' w' h2 h3 => hK _ _ (h v' w' h2 h3)
/-- At a step of a region that draws its order. -/
theorem step_holds (hl : ∀ a, (cs a).length = n) (h1 : ∀ a, ∀ u ∈ cs a, u.oneCell' = true) {P : Program} {w : World} {ops : Array Oper} {o : Oper} {a : Act} {K : Act → World → Prop} {E : Prop} {Q : Exit → Act → World → Prop} (hgd : o.guard = none)
    (s x : Operand) (t e : TypeId) (ho : o.op = .call { callee := .builtin .append, args := #[s, x], argTypes := #[t, t] }) (ht : P.underlying t = some (.slice e))
    {i : TypeInfo} (hi : P.info? e = some i) {zv : Value} (hz : i.zero = some zv) {bytes : Nat} (hsize : i.size = n) (hby : i.bytes = bytes) (hzs : zv.cells.size = n) (hsz : 0 < n)
    {B base : Nat} {v vx : Value} {l m : List α} (hs : a.eval s = v) (hx : a.eval x = vx) (hown : w.ownsRow base e n v l.length (flat cs l)) (hm : Holds n cs z w B vx m)
    (h63 : l.length + m.length ≤ maxLen) (hbytes : (l.length + m.length) * bytes ≤ 140737488355328) (hbase : base ≤ w.heap.size)
    (h : ∀ v' w', w'.ownsRow base e n v' (l ++ m).length (flat cs (l ++ m)) → w.grownBy w' v.ownBlock → K (a.put o.dst v') w') : if Region.wanted o (yielded ops a.tmps) = true then Oper.wp P o a w K Q else E := by
  have hw : Region.wanted o (yielded ops a.tmps) = true := by simp [Region.wanted, hgd]
  rw [if_pos hw]
  exact wp_append_holds hl h1 s x t e ho ht hi hz hsize hby hzs hsz hs hx hown hm h63 hbytes hbase h
end
end Go.Proofs.YtojmkdggkaocdaaGreatDoor.Rec

/-
  PLAIN FACTS: blocks that a call has just laid, one, two or three, read on as they were laid behind whatever only adds.
-/
namespace Go.Proofs.YtojmkdggkaocdaaGreatDoor.Kept
open Go Go.RowKit
set_option linter.unusedVariables false
set_option maxRecDepth 1000000

theorem below_in {w w1 : World} {o : Obj} (h : Below (w.alloc o).heap.size (w.alloc o) w1) : Below w.heap.size w w1 := ((Below.refl _ _).alloc (Nat.le_refl _) _).trans (h.mono (by simp))
theorem one {w w1 : World} {T : TypeId} {a : Array Value} (hb : Below (w.alloc (.cells a T)).heap.size (w.alloc (.cells a T)) w1) :
    (∀ j u, a[j]? = some u → w1.cell? ⟨w.heap.size, j, none⟩ = some u) ∧ ∀ j, w1.frozen? ⟨w.heap.size, j, none⟩ = false := by
  refine ⟨fun j u h => ?_, fun j => ?_⟩
  · rw [hb.cell (p := ⟨w.heap.size, j, none⟩) (by simp), World.cell?_alloc_new]; exact h
  · rw [hb.frozen (p := ⟨w.heap.size, j, none⟩) (by simp)]; simp [go_sem]
theorem two {w w1 : World} {o : Obj} {T : TypeId} {a : Array Value} (hb : Below ((w.alloc o).alloc (.cells a T)).heap.size ((w.alloc o).alloc (.cells a T)) w1) :
    (∀ j u, a[j]? = some u → w1.cell? ⟨w.heap.size + 1, j, none⟩ = some u) ∧ ∀ j, w1.frozen? ⟨w.heap.size + 1, j, none⟩ = false := by
  have h := one hb
  rw [show (w.alloc o).heap.size = w.heap.size + 1 by simp] at h
  exact h
theorem three {w w1 : World} {o o2 : Obj} {T : TypeId} {a : Array Value} (hb : Below (((w.alloc o).alloc o2).alloc (.cells a T)).heap.size (((w.alloc o).alloc o2).alloc (.cells a T)) w1) :
    (∀ j u, a[j]? = some u → w1.cell? ⟨w.heap.size + 1 + 1, j, none⟩ = some u) ∧ ∀ j, w1.frozen? ⟨w.heap.size + 1 + 1, j, none⟩ = false := by
  have h := one hb
  rw [show ((w.alloc o).alloc o2).heap.size = w.heap.size + 1 + 1 by simp] at h
  exact h
end Go.Proofs.YtojmkdggkaocdaaGreatDoor.Kept

/-
  CONTRACTS of the model's l5Copy (a copy of a list of fields) and l11Copy (a copy of an answer); nothing that was there before is changed.
-/
namespace Go.Proofs.YtojmkdggkaocdaaGreatDoor.Flds
open Go Go.RowKit
set_option linter.unusedVariables false
set_option maxRecDepth 1000000
set_option maxRecDepth 1000000

def cs2 (f : Fld) : List Value := [sv f.1, sv f.2]
theorem to_rec {w : World} {B : Nat} {v : Value} {l : List Fld} (h : Holds w B v l) : Rec.Holds 2 cs2 nofld w B v l := by
  rcases h with h | ⟨h0, b, off, cap, rfl, hb, hc, hat⟩
  · exact Or.inl h
  · refine Or.inr ⟨h0, b, off, cap, rfl, hb, hc, fun j hj i u hu => ?_⟩
    obtain ⟨c0, c1⟩ := hat j hj
    match i, hu with
    | 0, hu => rw [show u = sv (l.getD j nofld).1 by simpa [cs2] using hu.symm]; exact c0
    | 1, hu => rw [show u = sv (l.getD j nofld).2 by simpa [cs2] using hu.symm]; exact c1
    | i + 2, hu => simp [cs2] at hu

set_option maxHeartbeats 1000000 in
theorem spec_l5copy (v : Value) (B : Nat) (l : List Fld) (w : World) (h : Holds w B v l) (hB : B ≤ w.heap.size) (hl : l.length ≤ 1048576) :
    Calls Tryz.prog 79 #[v] w (FilterEnd l w) := by
  obtain ⟨i0, hi, hz0, hz1, hz2⟩ := info_parts info_fld
  have hba : Below w.heap.size w (w.alloc (.cells #[] 119)) := (Below.refl _ _).alloc (Nat.le_refl _) _
  have HB := Lib.hid hba
  have hmw := to_rec (holds_below h (hba.mono hB))
  have hown := own_lit_nil w
  have hbz := hba.size
  clear h hba
  unfold FilterEnd
  go_enter Tryz.func79, Tryz.ntmps79
  go_wp2_with (at_builtin; go_loud (refine Rec.append_holds (l := []) (cs := cs2) (z := nofld) (fun _ => rfl) (fun f => two_one f) rfl (.tmp 3) (.tmp 4) 28 119 rfl Tryz.underlying28 hi hz0 hz1 hz2 rfl (by decide) rfl rfl hown hmw (by unfold maxLen; simp; omega) (by simp; omega) hbz ?_; intro v1 w3 hown1 hg1))
  have HO : Hid (Own w3 w.heap.size v1 l) := Lib.hid hown1
  have HB := Lib.hid (HB.out.grown hg1 HB.out.size (fun k e => (hown.lt k e).1))
  clear hown hown1 hg1 hmw hbz
  go_wp2
  go_ret
  exact ⟨_, rfl, HO.out, HB.out⟩

def CopyEnd (c : Int) (l : List Fld) (b : List UInt8) (w : World) (e : Ending) (w' : World) : Prop := ∃ v, e = .returned (.agg #[.int .i64 c, v, .string ⟨b.toArray⟩]) ∧ Own w' w.heap.size v l ∧ Below w.heap.size w w'
set_option maxHeartbeats 1000000 in
theorem spec_l11copy (c : Int) (u : Value) (l : List Fld) (b : List UInt8) (B : Nat) (w : World) (h : Holds w B u l) (hB : B ≤ w.heap.size) (hl : l.length ≤ 1048576) :
    Calls Tryz.prog 37 #[.agg #[.int .i64 c, u, .string ⟨b.toArray⟩]] w (CopyEnd c l b w) := by
  have HB0 := Lib.hid (((Below.refl w.heap.size w).alloc (Nat.le_refl _) (.cells #[.int .i64 c, u, .string ⟨b.toArray⟩] 30)).alloc (by simp) (.cells #[.int .i64 0, .slice none 0 0, .string ⟨#[]⟩] 30))
  have HS := Lib.hid (spec_l5copy u B l _ (holds_below h (HB0.out.mono hB)) (Nat.le_trans hB HB0.out.size) hl)
  unfold FilterEnd at HS
  unfold CopyEnd
  clear h
  go_enter Tryz.func37, Tryz.ntmps37
  go_wp2_with (fail)
  go_at_call 79
  refine HS.out.mono ?_
  rintro e w1 ⟨v, rfl, ho', hb1⟩
  obtain ⟨a, cap, rfl, _⟩ := Rec.shape_at ho'
  have hk2 := Kept.two hb1
  have hk1 := Kept.one (Kept.below_in hb1)
  have q0 := hk1.1 0 _ rfl
  have q1 := hk1.1 1 _ rfl
  have q2 := hk1.1 2 _ rfl
  have f1 := hk1.2 1
  have r0 := hk2.1 0 _ rfl
  have r1 := hk2.1 1 _ rfl
  have r2 := hk2.1 2 _ rfl
  have fr0 := hk2.2 0
  have fr1 := hk2.2 1
  have fr2 := hk2.2 2
  have HO := Lib.hid ho'
  have HBW := Lib.hid (HB0.out.trans (hb1.mono HB0.out.size))
  clear ho' hb1 hk2 hk1
  go_wp2
  refine bodyPost_ret (v := .agg #[.int .i64 c, .slice a l.length cap, .string ⟨b.toArray⟩]) (by simp [results, Tryz.results37, go_sem, r0, r1, r2]) rfl ⟨_, rfl, ?_, ?_⟩
  · have hno : ∀ k, Value.ownBlock (.slice a l.length cap) = some k → w.heap.size + 1 < k := fun k e => by have h9 := (HO.out.lt k e).1; simp at h9; omega
    have e2 : Value.ownBlock (.slice a l.length cap) ≠ some (w.heap.size + 1) := fun e => by have := hno _ e; omega
    have e1 : Value.ownBlock (.slice a l.length cap) ≠ some w.heap.size := fun e => by have := hno _ e; omega
    exact Rec.own_mono (ownsRow_setCell_other (a := ⟨w.heap.size + 1, 2, none⟩) (ownsRow_setCell_other (a := ⟨w.heap.size + 1, 1, none⟩) (ownsRow_setCell_other (a := ⟨w.heap.size + 1, 0, none⟩) (ownsRow_setCell_other (a := ⟨w.heap.size, 1, none⟩) HO.out e1 _) e2 _) e2 _) e2 _) (by simp; omega)
  · exact (((HBW.out.setCell (p := ⟨w.heap.size, 1, none⟩) (by show w.heap.size ≤ w.heap.size; omega) _).setCell (p := ⟨w.heap.size + 1, 0, none⟩) (by show w.heap.size ≤ w.heap.size + 1; omega) _).setCell (p := ⟨w.heap.size + 1, 1, none⟩) (by show w.heap.size ≤ w.heap.size + 1; omega) _).setCell (p := ⟨w.heap.size + 1, 2, none⟩) (by show w.heap.size ≤ w.heap.size + 1; omega) _
end Go.Proofs.YtojmkdggkaocdaaGreatDoor.Flds

/-
  PLAIN FACTS on a list of fields in which one value is set; and the program's closure of SetField with its filter.
-/
namespace Go.Proofs.YtojmkdggkaocdaaGreatDoor.Flds
open Go Go.RowKit
set_option linter.unusedVariables false
set_option maxRecDepth 1000000

/-- Of the fields with the name only the first is left (none, if one has been seen). -/
def setl (n : List UInt8) : Bool → List Fld → List Fld
  | _, [] => []
  | s, f :: r => if f.1 = n then (if s = true then setl n s r else f :: setl n true r) else f :: setl n s r
def sn (n : List UInt8) (l : List Fld) : Bool := l.any (fun f => f.1 == n)
theorem setl_snoc (n : List UInt8) (s : Bool) (l : List Fld) (f : Fld) : setl n s (l ++ [f]) = setl n s l ++ (if f.1 = n ∧ (s || sn n l) = true then [] else [f]) := by
  induction l generalizing s with
  | nil => cases s <;> by_cases h : f.1 = n <;> simp [setl, sn, h]
  | cons a r ih =>
    rw [List.cons_append]
    have h1 := ih true
    have h2 := ih s
    by_cases ha : a.1 = n
    · have hq : (a.1 == n) = true := by simpa using ha
      cases s
      · simp [setl, ha, h1, sn]
      · simp [setl, ha, h1, sn]
    · have hq : (a.1 == n) = false := by simpa using ha
      simp only [setl, ha, if_false]
      rw [h2, show sn n (a :: r) = sn n r by unfold sn; rw [List.any_cons, hq]; rfl]
      rfl
theorem setl_len (n : List UInt8) (s : Bool) (l : List Fld) : (setl n s l).length ≤ l.length := by
  induction l generalizing s with
  | nil => simp [setl]
  | cons a r ih =>
    have h1 := ih s
    have h2 := ih true
    by_cases ha : a.1 = n
    · cases s
      · simp only [setl, ha, if_true]; simp; omega
      · simp only [setl, ha, if_true]; simp; omega
    · simp only [setl, ha, if_false]; simp; omega
theorem sn_more {n : List UInt8} {l : List Fld} {k : Nat} (h : k < l.length) : sn n (l.take (k + 1)) = (sn n (l.take k) || ((l.getD k nofld).1 == n)) := by
  unfold sn
  rw [List.take_succ_eq_append_getElem h, List.any_append, show l.getD k nofld = l[k] by simp [List.getD, h]]; simp
theorem setl_more {n : List UInt8} {l : List Fld} {k : Nat} (h : k < l.length) : setl n false (l.take (k + 1)) = setl n false (l.take k) ++ (if (l.getD k nofld).1 = n ∧ sn n (l.take k) = true then [] else [l.getD k nofld]) := by
  rw [List.take_succ_eq_append_getElem h, setl_snoc, show l.getD k nofld = l[k] by simp [List.getD, h]]
  simp

/-- What SetField's closure does: it answers whether the field is left, and notes that one with the name has been seen. -/
theorem set_closure (g h : Nat) (n x y : List UInt8) (s : Bool) (wx : World) (hgh : g ≠ h) (hg : g < wx.heap.size) (hh : h < wx.heap.size) (cg : wx.cell? ⟨g, 0, none⟩ = some (.string ⟨n.toArray⟩)) (ch : wx.cell? ⟨h, 0, none⟩ = some (.bool s)) (fh : wx.frozen? ⟨h, 0, none⟩ = false) :
    Calls Tryz.prog 130 #[.agg #[.string ⟨x.toArray⟩, .string ⟨y.toArray⟩], .pointer (some ⟨g, 0, none⟩), .pointer (some ⟨h, 0, none⟩)] wx fun e w' =>
      e = .returned (.bool (!(x == n) || !s)) ∧ w' = (wx.setCell ⟨h, 0, none⟩ (.bool (s || (x == n)))).alloc (.cells #[.string ⟨x.toArray⟩, .string ⟨y.toArray⟩] 119) := by
  by_cases e : x = n
  · subst e
    cases s
    · go_enter Tryz.func130, Tryz.ntmps130
      go_wp2
      go_ret
      exact ⟨by simp, by simp⟩
    · go_enter Tryz.func130, Tryz.ntmps130
      go_wp2
      go_ret
      exact ⟨by simp, by simp⟩
  · have hq : (x == n) = false := by simpa using e
    cases s
    · go_enter Tryz.func130, Tryz.ntmps130
      go_wp2
      go_ret
      exact ⟨by rw [hq]; simp, by rw [hq]; simp⟩
    · go_enter Tryz.func130, Tryz.ntmps130
      go_wp2
      go_ret
      exact ⟨by rw [hq]; simp, by rw [hq]; simp⟩

/-- The worlds that come behind such a call, one field's copy laid ahead of it. -/
theorem cl_facts {B0 : Nat} {w wr : World} {x y nm q q' : Value} {g h : Nat} {T : TypeId} (hb : Below B0 w wr) (hB : B0 ≤ wr.heap.size) (hh0 : B0 ≤ h) (hh : h < wr.heap.size) (hg : g < wr.heap.size) (hgh : g ≠ h)
    (cg : wr.cell? ⟨g, 0, none⟩ = some nm) (ch : wr.cell? ⟨h, 0, none⟩ = some q) (fh : wr.frozen? ⟨h, 0, none⟩ = false) {w1 : World} (e : w1 = ((wr.alloc (.cells #[x, y] T)).setCell ⟨h, 0, none⟩ q').alloc (.cells #[x, y] T)) :
    w1.cell? ⟨wr.heap.size, 0, none⟩ = some x ∧ w1.cell? ⟨wr.heap.size, 1, none⟩ = some y ∧ w1.cell? ⟨g, 0, none⟩ = some nm ∧ w1.cell? ⟨h, 0, none⟩ = some q' ∧ w1.frozen? ⟨h, 0, none⟩ = false ∧ Below B0 w w1 ∧ w1.heap.size = wr.heap.size + 2 := by
  subst e
  obtain ⟨n1, n2⟩ := alloc_two wr x y T
  have s1 : (wr.alloc (.cells #[x, y] T)).heap.size = wr.heap.size + 1 := World.size_alloc _ _
  have s2 : ((wr.alloc (.cells #[x, y] T)).setCell ⟨h, 0, none⟩ q').heap.size = wr.heap.size + 1 := by
    have hs := (Below.refl 0 (wr.alloc (.cells #[x, y] T))).setCell (p := ⟨h, 0, none⟩) (Nat.zero_le _) q'
    simp [s1]
  have ch1 : (wr.alloc (.cells #[x, y] T)).cell? ⟨h, 0, none⟩ = some q := by rw [World.cell?_alloc_past _ _ _ hh]; exact ch
  have fh1 : (wr.alloc (.cells #[x, y] T)).frozen? ⟨h, 0, none⟩ = false := by
    rw [World.frozen?_of_block (w := wr) (Below.heap_alloc wr _ h hh)]; exact fh
  have old : ∀ k o, k < wr.heap.size + 1 → k ≠ h → (((wr.alloc (.cells #[x, y] T)).setCell ⟨h, 0, none⟩ q').alloc (.cells #[x, y] T)).cell? ⟨k, o, none⟩ = (wr.alloc (.cells #[x, y] T)).cell? ⟨k, o, none⟩ := fun k o hk hne => by
    rw [World.cell?_alloc_past _ _ _ (by rw [s2]; exact hk)]
    exact World.cell?_of_block (Below.heap_setCell _ _ _ k hne)
  refine ⟨(old _ 0 (by omega) (by omega)).trans n1, (old _ 1 (by omega) (by omega)).trans n2, (old g 0 (by omega) hgh).trans (by rw [World.cell?_alloc_past _ _ _ hg]; exact cg), ?_, ?_, ((hb.alloc hB _).setCell (p := ⟨h, 0, none⟩) hh0 q').alloc (by rw [s2]; omega) _, by rw [World.size_alloc, s2]⟩
  · rw [World.cell?_alloc_past _ _ _ (by rw [s2]; show h < _; omega)]
    exact World.cell?_setCell_same _ _ _ ch1
  · rw [World.frozen?_of_block (w := ((wr.alloc (.cells #[x, y] T)).setCell ⟨h, 0, none⟩ q')) (Below.heap_alloc _ _ h (by rw [s2]; omega)), World.frozen?_setCell]
    exact fh1
theorem cl_own {w wr w1 : World} {B n h : Nat} {T T' : TypeId} {sz : Nat} {v x y q' : Value} {xs : List Value} (ho : wr.ownsRow B T sz v n xs) (hh : h < B) (e : w1 = ((wr.alloc (.cells #[x, y] T')).setCell ⟨h, 0, none⟩ q').alloc (.cells #[x, y] T')) : w1.ownsRow B T sz v n xs := by
  subst e
  exact row_below (ownsRow_setCell_below (row_below ho ((Below.refl _ _).alloc (Nat.le_refl _) _)) (a := ⟨h, 0, none⟩) hh q') ((Below.refl _ _).alloc (Nat.le_refl _) _)
end Go.Proofs.YtojmkdggkaocdaaGreatDoor.Flds

/-
  CONTRACTS of SetField, the program's: in new memory, the fields with this value as the only one with this name; nothing that was there before is changed.
-/
namespace Go.Proofs.YtojmkdggkaocdaaGreatDoor.Flds
open Go Go.RowKit
set_option linter.unusedVariables false
set_option maxRecDepth 1000000

def FilSet (B0 g h : Nat) (n : List UInt8) (l : List Fld) (w : World) (e : Ending) (w' : World) : Prop :=
  ∃ v, e = .returned v ∧ Own w' w.heap.size v (setl n false l) ∧ w'.cell? ⟨g, 0, none⟩ = some (.string ⟨n.toArray⟩) ∧ w'.cell? ⟨h, 0, none⟩ = some (.bool (sn n l)) ∧ Below B0 w w'

theorem shape_any {w : World} {B : Nat} {v : Value} {l : List Fld} (h : Holds w B v l) : ∃ a cap, v = .slice a l.length cap ∧ (0 < l.length → ∃ b off, a = some ⟨b, off, none⟩ ∧ b < B ∧ At w b off l) := by
  rcases h with ⟨rfl, a, cap, rfl⟩ | ⟨h0, b, off, cap, rfl, hb, _, hc⟩
  · exact ⟨a, cap, rfl, fun h => by simp at h⟩
  · exact ⟨_, cap, rfl, fun _ => ⟨b, off, rfl, hb, hc⟩⟩

theorem r_no {x n : List UInt8} {s : Bool} (h : false = (!(x == n) || !s)) : x = n ∧ s = true := by
  by_cases e : x = n
  · cases s
    · subst e; simp at h
    · exact ⟨e, rfl⟩
  · have hq : (x == n) = false := by simpa using e
    rw [hq] at h; cases h
theorem r_yes {x n : List UInt8} {s : Bool} (h : true = (!(x == n) || !s)) : ¬ (x = n ∧ s = true) := by
  rintro ⟨rfl, rfl⟩
  simp at h
set_option maxHeartbeats 2000000 in
theorem filter_set (B0 g h : Nat) (n : List UInt8) (v : Value) (l : List Fld) (w : World) (hgh : g ≠ h) (hB0 : B0 ≤ h) (hBw : B0 ≤ w.heap.size) (hg : g < w.heap.size) (hh : h < w.heap.size)
    (cg : w.cell? ⟨g, 0, none⟩ = some (.string ⟨n.toArray⟩)) (ch : w.cell? ⟨h, 0, none⟩ = some (.bool false)) (fh : w.frozen? ⟨h, 0, none⟩ = false) (hH : Holds w B0 v l) (hl : l.length ≤ 1048576) :
    Calls Tryz.prog 105 #[v, .func (.func 130) #[] #[.pointer (some ⟨g, 0, none⟩), .pointer (some ⟨h, 0, none⟩)]] w (FilSet B0 g h n l w) := by
  obtain ⟨i0, hi, hz0, hz1, hz2⟩ := info_parts info_fld
  obtain ⟨a, cap, rfl, ha⟩ := shape_any hH
  have HA := Lib.hid ha
  have HO := Lib.hid (own_lit_nil w)
  have hb1 : Below B0 w (w.alloc (.cells #[] 119)) := (Below.refl _ _).alloc hBw _
  have HS : Hid ((w.alloc (.cells #[] 119)).cell? ⟨g, 0, none⟩ = some (.string ⟨n.toArray⟩) ∧ (w.alloc (.cells #[] 119)).cell? ⟨h, 0, none⟩ = some (.bool false) ∧ (w.alloc (.cells #[] 119)).frozen? ⟨h, 0, none⟩ = false ∧ Below B0 w (w.alloc (.cells #[] 119)) ∧ w.heap.size ≤ (w.alloc (.cells #[] 119)).heap.size) :=
    Lib.hid ⟨by rw [World.cell?_alloc_past _ _ _ hg]; exact cg, by rw [World.cell?_alloc_past _ _ _ hh]; exact ch, by rw [World.frozen?_of_block (w := w) (Below.heap_alloc w _ h hh)]; exact fh, hb1, by simp⟩
  clear ha hH cg ch fh hb1
  go_enter Tryz.func105, Tryz.ntmps105
  go_wp2
  go_loopw [5, 11] (fun v i wr => ∃ k : Nat, k ≤ l.length ∧ i = .int .i64 (k : Int) ∧ Own wr w.heap.size v (setl n false (l.take k)) ∧ (wr.cell? ⟨g, 0, none⟩ = some (.string ⟨n.toArray⟩) ∧ wr.cell? ⟨h, 0, none⟩ = some (.bool (sn n (l.take k))) ∧ wr.frozen? ⟨h, 0, none⟩ = false ∧ Below B0 w wr ∧ w.heap.size ≤ wr.heap.size)) (fun _ i _ => l.length - (intOf i).toNat)
  case atStart => exact ⟨0, Nat.zero_le _, rfl, by rw [List.take_zero]; exact HO.out, HS.out⟩
  case round =>
    clear HO HS
    obtain ⟨k, hk, rfl, hown, cg, ch, fh, hb, hsz⟩ := hrel
    by_cases hlt : k < l.length
    · obtain ⟨b, off, rfl, hbl, hc⟩ := HA.out (by omega)
      obtain ⟨c1, c2⟩ := at_below hc hb hbl k hlt
      have HM := Lib.hid (setl_more (n := n) hlt)
      have HN := Lib.hid (sn_more (n := n) hlt)
      generalize hx : l.getD k nofld = f at c1 c2 HM HN
      clear hx hc
      obtain ⟨x, y⟩ := f
      unfold sv at c1 c2
      simp only at HM HN
      generalize sn n (l.take k) = s at ch HM HN
      have hgr : g < wr.heap.size := by omega
      have hhr : h < wr.heap.size := by omega
      have HCL := Lib.hid (set_closure g h n x y s (wr.alloc (.cells #[.string ⟨x.toArray⟩, .string ⟨y.toArray⟩] 119)) hgh (by rw [World.size_alloc]; omega) (by rw [World.size_alloc]; omega) (by rw [World.cell?_alloc_past _ _ _ hgr]; exact cg) (by rw [World.cell?_alloc_past _ _ _ hhr]; exact ch) (by rw [World.frozen?_of_block (w := wr) (Below.heap_alloc wr _ h hhr)]; exact fh))
      have HF : Hid (∀ w1 : World, w1 = ((wr.alloc (.cells #[.string ⟨x.toArray⟩, .string ⟨y.toArray⟩] 119)).setCell ⟨h, 0, none⟩ (.bool (s || (x == n)))).alloc (.cells #[.string ⟨x.toArray⟩, .string ⟨y.toArray⟩] 119) → _) := Lib.hid (fun w1 e => cl_facts (q' := .bool (s || (x == n))) hb (Nat.le_trans hBw hsz) hB0 hhr hgr hgh cg ch fh e)
      have HW : Hid (∀ w1 : World, w1 = ((wr.alloc (.cells #[.string ⟨x.toArray⟩, .string ⟨y.toArray⟩] 119)).setCell ⟨h, 0, none⟩ (.bool (s || (x == n)))).alloc (.cells #[.string ⟨x.toArray⟩, .string ⟨y.toArray⟩] 119) → Own w1 w.heap.size u5 (setl n false (l.take k))) := Lib.hid (fun w1 e => cl_own (w := w) hown hh e)
      clear hb hown cg ch fh
      go_wp2_with (fail)
      go_at_call 130
      refine HCL.out.mono ?_
      rintro e w1 ⟨he, hw1⟩
      obtain ⟨d1, d2, dg, dh, fh1, hb1, hs1⟩ := HF.out w1 hw1
      have hown := HW.out w1 hw1
      have hle : wr.heap.size + 2 ≤ w1.heap.size := by omega
      clear hw1 HF HW HCL hs1
      rw [← HN.out] at dh
      obtain ⟨r, hr⟩ : ∃ r, r = (!(x == n) || !s) := ⟨_, rfl⟩
      rw [← hr] at he
      have HG := Lib.hid (And.intro dg (And.intro dh (And.intro fh1 hb1)))
      clear dg dh fh1 hb1
      cases r
      · have HM' : Hid (setl n false (l.take (k + 1)) = setl n false (l.take k)) := Lib.hid (by
          rw [HM.out, if_pos (r_no hr), List.append_nil])
        clear hr
        subst he
        have HO := Lib.hid hown
        clear hown
        go_wp2
        go_roundw
        case rel => exact ⟨k + 1, by omega, by go_num, by rw [HM'.out]; exact HO.out, HG.out.1, HG.out.2.1, HG.out.2.2.1, HG.out.2.2.2, by omega⟩
        case measure => simp [intOf]; omega
      · have HM' : Hid (setl n false (l.take (k + 1)) = setl n false (l.take k) ++ [(x, y)]) := Lib.hid (by
          rw [HM.out, if_neg (r_yes hr)])
        clear hr
        subst he
        have hL := fcs_len (setl n false (l.take k))
        have HL := Lib.hid (show (setl n false (l.take k)).length ≤ 1048576 by have h1 := setl_len n false (l.take k); have h2 := List.length_take_le' k l; omega)
        go_wp2_with (at_builtin; go_loud (refine wpList_append_own _ rfl (.tmp 18) (.tmp 20) 28 rfl w.heap.size 119 i0 (.agg #[.string ⟨#[]⟩, .string ⟨#[]⟩]) 2 32 Tryz.underlying28 hi hz0 hz1 hz2 rfl (by decide) _ _ _ rfl (hown.alloc _) ⟨w1.heap.size, 0, none⟩ 1 1 [.string ⟨x.toArray⟩, .string ⟨y.toArray⟩] rfl rfl (news_two _ _ _ _) (two_one (x, y)) (by have := HL.out; unfold maxLen; omega) (by have := HL.out; omega) (by simp; omega) ?_); intro v1 w2 hown1 hg2 _)
        have R : Hid (Own w2 w.heap.size v1 (setl n false (l.take k) ++ [(x, y)])) := Lib.hid (by show w2.ownsRow _ _ _ _ (setl n false (l.take k) ++ [(x, y)]).length (fcs (setl n false (l.take k) ++ [(x, y)])); rw [List.length_append, fcs_more]; exact hown1)
        have hown' := hown
        have hrow : ∀ k, Value.ownBlock _ = some k → w.heap.size ≤ k ∧ k < w1.heap.size := fun k e => hown'.lt k e
        have RG := Lib.hid (And.intro (hg2.cell (a := ⟨g, 0, none⟩) (by rw [World.cell?_alloc_past _ _ _ (by show g < _; omega)]; exact HG.out.1) (fun e => by have := (hrow g e.symm).1; omega)) (And.intro (hg2.cell (a := ⟨h, 0, none⟩) (by rw [World.cell?_alloc_past _ _ _ (by show h < _; omega)]; exact HG.out.2.1) (fun e => by have := (hrow h e.symm).1; omega)) (And.intro (show w2.frozen? ⟨h, 0, none⟩ = false by
          rw [World.frozen?_of_block (w := w1.alloc (.cells #[.string ⟨x.toArray⟩, .string ⟨y.toArray⟩] 119)) (hg2.block h (by rw [World.size_alloc]; omega) (fun e => by have := (hrow h e.symm).1; omega)), World.frozen?_of_block (w := w1) (Below.heap_alloc w1 _ h (by omega))]
          exact HG.out.2.2.1) (And.intro ((HG.out.2.2.2.alloc (by omega) _).grown hg2 (by rw [World.size_alloc]; omega) (fun k e => by have := (hrow k e).1; omega)) (show w.heap.size ≤ w2.heap.size by have := hg2.size; rw [World.size_alloc] at this; omega)))))
        clear hown hown' hown1 hg2 hrow
        go_wp2
        go_roundw
        case rel => exact ⟨k + 1, by omega, by go_num, by rw [HM'.out]; exact R.out, RG.out⟩
        case measure => simp [intOf]; omega
    · have HE : Hid (l.take k = l) := Lib.hid (by rw [List.take_of_length_le (by omega)])
      rw [HE.out] at hown ch
      have HR := Lib.hid (And.intro hown (And.intro cg (And.intro ch hb)))
      clear hown cg ch fh hb
      go_wp2
      go_ret
      exact ⟨_, rfl, HR.out.1, HR.out.2.1, HR.out.2.2.1, HR.out.2.2.2⟩
end Go.Proofs.YtojmkdggkaocdaaGreatDoor.Flds
