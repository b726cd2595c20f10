/-
  CONTRACTS AND PLAIN FACTS, several texts in one; each says in its own words what it proves.
-/
import Derived.Test.YtojmkdggkaocdaaGreatDoorPqD
import Derived.Test.YtojmkdggkaocdaaGreatDoorPqH
import Derived.Test.YtojmkdggkaocdaaGreatDoorPqU
import Derived.Test.YtojmkdggkaocdaaGreatDoorPqN
import Derived.IntWalk
set_option linter.unusedSimpArgs false
set_option linter.unusedVariables false

/-
  CONTRACTS of the program's copyResponse and of both sides' PassHop; nothing that was there before is changed.
-/
namespace Go.Proofs.YtojmkdggkaocdaaGreatDoor.Psh
open Go Go.RowKit
set_option linter.unusedVariables false
set_option maxRecDepth 1000000
set_option maxRecDepth 1000000

abbrev F := Flds.Fld
/-- The hop is valid, and the time is one at which an answer may leave. -/
def good (x y z t : Int) : Bool := Hps.okh (x, y, z) && decide (0 ≤ t ∧ t ≤ 8204889598)
/-- The age with which the hop gives the answer on. -/
noncomputable def hage (x y z t : Int) (l : List F) : Int := Age.cage (Age.inia l (t + x) (t + x + y)) (t + x + y) (t + x + y + z)
noncomputable def pshl (x y z t : Int) (l : List F) : List F := if good x y z t = true then Flds.wag (hage x y z t l) l else l
def psht (x y z t : Int) : Int := if good x y z t = true then t + y + z else t
theorem pshl_len (x y z t : Int) (l : List F) : (pshl x y z t l).length ≤ l.length + 1 := by
  unfold pshl; split
  · unfold Flds.wag; exact Flds.fin_len _ _ _
  · omega
def HopEnd (c : Int) (l : List F) (b : List UInt8) (t : Int) (w : World) (e : Ending) (w' : World) : Prop := ∃ v, e = .returned (.tuple #[.agg #[.int .i64 c, v, .string ⟨b.toArray⟩], .int .i64 t]) ∧ Flds.Own w' w.heap.size v l ∧ Below w.heap.size w w'
theorem wf_of {n : Int} (h1 : -9223372036854775808 ≤ n) (h2 : n ≤ 9223372036854775807) : (Lit.int .i64 n).wf = true := by
  simp [Lit.wf, IntKind.min, IntKind.max, IntKind.signed, IntKind.bits]; omega
theorem wrap_bd (n : Int) : -9223372036854775808 ≤ wrap64 n ∧ wrap64 n ≤ 9223372036854775807 := by unfold wrap64; omega
theorem inia_bd (l : List F) (a g : Int) : -9223372036854775808 ≤ Age.inia l a g ∧ Age.inia l a g ≤ 9223372036854775807 := by
  unfold Age.inia Age.ia0
  have h1 := wrap_bd (Age.agef l + max 0 (wrap64 (g - a)))
  have h2 := wrap_bd (g - (Age.din Age.dateN l).1)
  split <;> omega
theorem cage_bd (i g n : Int) : 0 ≤ Age.cage i g n ∧ Age.cage i g n ≤ 2147483648 := by unfold Age.cage; omega

/-- Where the answer, the hop and the result lie. -/
structure Keep (c : Int) (u : Value) (b : List UInt8) (x y z : Int) (p q r : Nat) (W : World) : Prop where
  x0 : W.cell? ⟨p, 0, none⟩ = some (.int .i64 c)
  x1 : W.cell? ⟨p, 1, none⟩ = some u
  x2 : W.cell? ⟨p, 2, none⟩ = some (.string ⟨b.toArray⟩)
  h0 : W.cell? ⟨q, 0, none⟩ = some (.int .i64 x)
  h1 : W.cell? ⟨q, 1, none⟩ = some (.int .i64 y)
  h2 : W.cell? ⟨q, 2, none⟩ = some (.int .i64 z)
  r0 : W.cell? ⟨r, 0, none⟩ = some (.int .i64 0)
  r1 : W.cell? ⟨r, 1, none⟩ = some (.slice none 0 0)
  r2 : W.cell? ⟨r, 2, none⟩ = some (.string ⟨#[]⟩)
  t0 : W.frozen? ⟨r, 0, none⟩ = false
  t1 : W.frozen? ⟨r, 1, none⟩ = false
  t2 : W.frozen? ⟨r, 2, none⟩ = false
theorem Keep.below {c : Int} {u : Value} {b : List UInt8} {x y z : Int} {p q r : Nat} {W W' : World} (h : Keep c u b x y z p q r W) (hb : Below W.heap.size W W') : Keep c u b x y z p q r W' := by
  have hp := Rec.lt_of_cell h.x0
  have hq := Rec.lt_of_cell h.h0
  have hr := Rec.lt_of_cell h.r0
  exact ⟨(hb.cell (p := ⟨p, 0, none⟩) hp).trans h.x0, (hb.cell (p := ⟨p, 1, none⟩) hp).trans h.x1, (hb.cell (p := ⟨p, 2, none⟩) hp).trans h.x2,
    (hb.cell (p := ⟨q, 0, none⟩) hq).trans h.h0, (hb.cell (p := ⟨q, 1, none⟩) hq).trans h.h1, (hb.cell (p := ⟨q, 2, none⟩) hq).trans h.h2,
    (hb.cell (p := ⟨r, 0, none⟩) hr).trans h.r0, (hb.cell (p := ⟨r, 1, none⟩) hr).trans h.r1, (hb.cell (p := ⟨r, 2, none⟩) hr).trans h.r2,
    (hb.frozen (p := ⟨r, 0, none⟩) hr).trans h.t0, (hb.frozen (p := ⟨r, 1, none⟩) hr).trans h.t1, (hb.frozen (p := ⟨r, 2, none⟩) hr).trans h.t2⟩
theorem keep_start (c : Int) (u : Value) (b : List UInt8) (x y z : Int) (w : World) : Keep c u b x y z w.heap.size (w.heap.size + 1) (w.heap.size + 2) (((w.alloc (.cells #[.int .i64 c, u, .string ⟨b.toArray⟩] 30)).alloc (.cells #[.int .i64 x, .int .i64 y, .int .i64 z] 34)).alloc (.cells #[.int .i64 0, .slice none 0 0, .string ⟨#[]⟩] 30)) := by
  have k0 := ((Kept.Box.new (w := w) (T := 30) (a := #[.int .i64 c, u, .string ⟨b.toArray⟩])).alloc (.cells #[.int .i64 x, .int .i64 y, .int .i64 z] 34)).alloc (.cells #[.int .i64 0, .slice none 0 0, .string ⟨#[]⟩] 30)
  have k1 := (Kept.Box.new (w := (w.alloc (.cells #[.int .i64 c, u, .string ⟨b.toArray⟩] 30))) (T := 34) (a := #[.int .i64 x, .int .i64 y, .int .i64 z])).alloc (.cells #[.int .i64 0, .slice none 0 0, .string ⟨#[]⟩] 30)
  have k2 := Kept.Box.new (w := ((w.alloc (.cells #[.int .i64 c, u, .string ⟨b.toArray⟩] 30)).alloc (.cells #[.int .i64 x, .int .i64 y, .int .i64 z] 34))) (T := 30) (a := #[.int .i64 0, .slice none 0 0, .string ⟨#[]⟩])
  rw [show (w.alloc (.cells #[.int .i64 c, u, .string ⟨b.toArray⟩] 30)).heap.size = w.heap.size + 1 by simp] at k1
  rw [show ((w.alloc (.cells #[.int .i64 c, u, .string ⟨b.toArray⟩] 30)).alloc (.cells #[.int .i64 x, .int .i64 y, .int .i64 z] 34)).heap.size = w.heap.size + 2 by simp] at k2
  exact ⟨k0.cell 0 _ rfl, k0.cell 1 _ rfl, k0.cell 2 _ rfl, k1.cell 0 _ rfl, k1.cell 1 _ rfl, k1.cell 2 _ rfl, k2.cell 0 _ rfl, k2.cell 1 _ rfl, k2.cell 2 _ rfl, k2.frz 0, k2.frz 1, k2.frz 2⟩
def S (w : World) (c : Int) (u : Value) (b : List UInt8) (x y z : Int) (W : World) : Prop := Keep c u b x y z w.heap.size (w.heap.size + 1) (w.heap.size + 2) W ∧ Below w.heap.size w W ∧ w.heap.size + 3 ≤ W.heap.size
theorem S.go {w W W' : World} {c : Int} {u : Value} {b : List UInt8} {x y z : Int} (h : S w c u b x y z W) (hb : Below W.heap.size W W') : S w c u b x y z W' := ⟨h.1.below hb, Base.then_below h.2.1 hb, Nat.le_trans h.2.2 hb.size⟩
theorem s_start (c : Int) (u : Value) (b : List UInt8) (x y z : Int) (w : World) : S w c u b x y z (((w.alloc (.cells #[.int .i64 c, u, .string ⟨b.toArray⟩] 30)).alloc (.cells #[.int .i64 x, .int .i64 y, .int .i64 z] 34)).alloc (.cells #[.int .i64 0, .slice none 0 0, .string ⟨#[]⟩] 30)) :=
  ⟨keep_start c u b x y z w, (((Below.refl w.heap.size w).alloc (Nat.le_refl _) (.cells #[.int .i64 c, u, .string ⟨b.toArray⟩] 30)).alloc (by simp) (.cells #[.int .i64 x, .int .i64 y, .int .i64 z] 34)).alloc (by simp; omega) (.cells #[.int .i64 0, .slice none 0 0, .string ⟨#[]⟩] 30), by simp⟩

set_option maxHeartbeats 1000000 in
theorem impl_copyrsp (c : Int) (u : Value) (l : List F) (b : List UInt8) (B : Nat) (w : World) (h : Flds.Holds w B u l) (hB : B ≤ w.heap.size) (hl : l.length ≤ 1048576) :
    Calls Tryz.prog 44 #[.agg #[.int .i64 c, u, .string ⟨b.toArray⟩]] w (Flds.CopyEnd c l b w) := by
  obtain ⟨i0, hi, hz0, hz1, hz2⟩ := info_parts Flds.info_fld
  have hba : Below w.heap.size w (((w.alloc (.cells #[.int .i64 c, u, .string ⟨b.toArray⟩] 30)).alloc (.cells #[.int .i64 0, .slice none 0 0, .string ⟨#[]⟩] 30)).alloc (.cells #[] 119)) := (((Below.refl w.heap.size w).alloc (Nat.le_refl _) (.cells #[.int .i64 c, u, .string ⟨b.toArray⟩] 30)).alloc (by simp) (.cells #[.int .i64 0, .slice none 0 0, .string ⟨#[]⟩] 30)).alloc (by simp; omega) (.cells #[] 119)
  have HB := Lib.hid hba
  have hmw := Flds.to_rec (Flds.holds_below h (hba.mono hB))
  have hown := Flds.own_lit_nil ((w.alloc (.cells #[.int .i64 c, u, .string ⟨b.toArray⟩] 30)).alloc (.cells #[.int .i64 0, .slice none 0 0, .string ⟨#[]⟩] 30))
  have k0 := ((Kept.Box.new (w := w) (T := 30) (a := #[.int .i64 c, u, .string ⟨b.toArray⟩])).alloc (.cells #[.int .i64 0, .slice none 0 0, .string ⟨#[]⟩] 30)).alloc (.cells #[] 119)
  have k2 := (Kept.Box.new (w := (w.alloc (.cells #[.int .i64 c, u, .string ⟨b.toArray⟩] 30))) (T := 30) (a := #[.int .i64 0, .slice none 0 0, .string ⟨#[]⟩])).alloc (.cells #[] 119)
  have hs1 : (w.alloc (.cells #[.int .i64 c, u, .string ⟨b.toArray⟩] 30)).heap.size = w.heap.size + 1 := by simp
  have hs2 : ((w.alloc (.cells #[.int .i64 c, u, .string ⟨b.toArray⟩] 30)).alloc (.cells #[.int .i64 0, .slice none 0 0, .string ⟨#[]⟩] 30)).heap.size = w.heap.size + 2 := by simp
  have hs3 : (((w.alloc (.cells #[.int .i64 c, u, .string ⟨b.toArray⟩] 30)).alloc (.cells #[.int .i64 0, .slice none 0 0, .string ⟨#[]⟩] 30)).alloc (.cells #[] 119)).heap.size = w.heap.size + 3 := by simp
  rw [hs1] at k2
  rw [hs2] at hown
  have hbz : w.heap.size + 2 ≤ (((w.alloc (.cells #[.int .i64 c, u, .string ⟨b.toArray⟩] 30)).alloc (.cells #[.int .i64 0, .slice none 0 0, .string ⟨#[]⟩] 30)).alloc (.cells #[] 119)).heap.size := by rw [hs3]; omega
  have y1 := k0.cell 1 _ rfl
  have K0 := Lib.hid k0
  have K2 := Lib.hid k2
  clear h hba k0 k2
  unfold Flds.CopyEnd
  go_enter Tryz.func44, Tryz.ntmps44
  go_wp2_with (
    at_builtin
    go_loud (refine Rec.append_holds (l := []) (cs := Flds.cs2) (z := Flds.nofld) (fun _ => rfl) (fun f => Flds.two_one f) rfl (.tmp 3) (.tmp 5) 28 119 rfl Tryz.underlying28 hi hz0 hz1 hz2 rfl (by decide) rfl rfl hown hmw (by unfold maxLen; simp; omega) (by simp; omega) hbz ?_; intro v1 w3 hown1 hg1)
    have hrow : ∀ k, Value.ownBlock (.slice (some ⟨w.heap.size + 2, 0, none⟩) 0 0) = some k → w.heap.size + 2 ≤ k := fun k e => (hown.lt k e).1
    have HO : Hid (Flds.Own w3 (w.heap.size + 2) v1 l) := Lib.hid hown1
    have HB := Lib.hid (HB.out.grown hg1 HB.out.size (fun k e => by have := hrow k e; omega))
    have hbb : Below (w.heap.size + 2) (((w.alloc (.cells #[.int .i64 c, u, .string ⟨b.toArray⟩] 30)).alloc (.cells #[.int .i64 0, .slice none 0 0, .string ⟨#[]⟩] 30)).alloc (.cells #[] 119)) w3 := (Below.refl _ _).grown hg1 (by rw [hs3]; omega) (fun k e => hrow k e)
    have q0 := (hbb.cell (p := ⟨w.heap.size, 0, none⟩) (by show w.heap.size < _; omega)).trans (K0.out.cell 0 _ rfl)
    have q1 := (hbb.cell (p := ⟨w.heap.size, 1, none⟩) (by show w.heap.size < _; omega)).trans (K0.out.cell 1 _ rfl)
    have q2 := (hbb.cell (p := ⟨w.heap.size, 2, none⟩) (by show w.heap.size < _; omega)).trans (K0.out.cell 2 _ rfl)
    have f1 := (hbb.frozen (p := ⟨w.heap.size, 1, none⟩) (by show w.heap.size < _; omega)).trans (K0.out.frz 1)
    have r0 := (hbb.cell (p := ⟨w.heap.size + 1, 0, none⟩) (by show w.heap.size + 1 < _; omega)).trans (K2.out.cell 0 _ rfl)
    have r1 := (hbb.cell (p := ⟨w.heap.size + 1, 1, none⟩) (by show w.heap.size + 1 < _; omega)).trans (K2.out.cell 1 _ rfl)
    have r2 := (hbb.cell (p := ⟨w.heap.size + 1, 2, none⟩) (by show w.heap.size + 1 < _; omega)).trans (K2.out.cell 2 _ rfl)
    have fr0 := (hbb.frozen (p := ⟨w.heap.size + 1, 0, none⟩) (by show w.heap.size + 1 < _; omega)).trans (K2.out.frz 0)
    have fr1 := (hbb.frozen (p := ⟨w.heap.size + 1, 1, none⟩) (by show w.heap.size + 1 < _; omega)).trans (K2.out.frz 1)
    have fr2 := (hbb.frozen (p := ⟨w.heap.size + 1, 2, none⟩) (by show w.heap.size + 1 < _; omega)).trans (K2.out.frz 2)
    obtain ⟨a, cap, rfl, _⟩ := Rec.shape_at HO.out
    clear hown hown1 hg1 hmw hbz hbb K0 K2 y1 hs1 hs2 hs3 hrow)
  all_goals try go_wp2
  have hno : ∀ k, Value.ownBlock (.slice a l.length cap) = some k → w.heap.size + 1 < k := fun k e => by have h9 := (HO.out.lt k e).1; omega
  have e2 : Value.ownBlock (.slice a l.length cap) ≠ some (w.heap.size + 1) := fun e => by have := hno _ e; omega
  have e1 : Value.ownBlock (.slice a l.length cap) ≠ some w.heap.size := fun e => by have := hno _ e; omega
  refine bodyPost_ret (v := .agg #[.int .i64 c, .slice a l.length cap, .string ⟨b.toArray⟩]) (by simp [results, Tryz.results44, go_sem, r0, r1, r2]) rfl ⟨_, rfl, ?_, ?_⟩
  · exact Rec.own_mono (ownsRow_setCell_other (a := ⟨w.heap.size + 1, 2, none⟩) (ownsRow_setCell_other (a := ⟨w.heap.size + 1, 1, none⟩) (ownsRow_setCell_other (a := ⟨w.heap.size + 1, 0, none⟩) (ownsRow_setCell_other (a := ⟨w.heap.size, 1, none⟩) HO.out e1 _) e2 _) e2 _) e2 _) (by omega)
  · exact (((HB.out.setCell (p := ⟨w.heap.size, 1, none⟩) (by show w.heap.size ≤ w.heap.size; omega) _).setCell (p := ⟨w.heap.size + 1, 0, none⟩) (by show w.heap.size ≤ w.heap.size + 1; omega) _).setCell (p := ⟨w.heap.size + 1, 1, none⟩) (by show w.heap.size ≤ w.heap.size + 1; omega) _).setCell (p := ⟨w.heap.size + 1, 2, none⟩) (by show w.heap.size ≤ w.heap.size + 1; omega) _

set_option maxHeartbeats 8000000 in
theorem spec_psh (c : Int) (u : Value) (l : List F) (b : List UInt8) (t x y z : Int) (B : Nat) (w : World) (h : Flds.Holds w B u l) (hB : B ≤ w.heap.size) (hl : Flds.total l ≤ 1048576) :
    Calls Tryz.prog 8 #[.agg #[.int .i64 c, u, .string ⟨b.toArray⟩], .int .i64 t, .agg #[.int .i64 x, .int .i64 y, .int .i64 z]] w (HopEnd c (pshl x y z t l) b (psht x y z t) w) := by
  have hll : l.length ≤ 1048576 := by unfold Flds.total at hl; omega
  have HS := Lib.hid (s_start c u b x y z w)
  have HY := Lib.hid (fun W (hb : Below w.heap.size w W) => Flds.holds_below h (hb.mono hB))
  have HH := Lib.hid (fun W => Hps.spec_hop x y z W)
  have HC := Lib.hid (fun W (hb : Below w.heap.size w W) => Flds.spec_l11copy c u l b B W (HY.out W hb) (Nat.le_trans hB hb.size) hll)
  have HI := Lib.hid (fun W (hb : Below w.heap.size w W) (a g : Int) wa wg => Age.spec_inia c u B l b a g W (HY.out W hb) (Nat.le_trans hB hb.size) hl wa wg)
  have HG := Lib.hid (fun W (hb : Below w.heap.size w W) (a : Int) => Flds.spec_wag c u l b a B W (HY.out W hb) (Nat.le_trans hB hb.size) hll)
  clear h
  unfold Hps.fv Hps.BoolEnd at HH
  unfold Flds.CopyEnd at HC HG
  unfold Age.NumEnd at HI
  unfold HopEnd
  obtain ⟨q0, q1, q2, k0, k1, k2, r0, r1, r2, t0, t1, t2⟩ := HS.out.1
  by_cases hok : Hps.okh (x, y, z) = true
  case neg =>
    have hok' : Hps.okh (x, y, z) = false := by simpa using hok
    have e1 : pshl x y z t l = l := by unfold pshl good; rw [hok']; rfl
    have e2 : psht x y z t = t := by unfold psht good; rw [hok']; rfl
    rw [e1, e2]
    rw [hok'] at HH
    clear hok hok' e1 e2 HI HG
    go_enter Tryz.func8, Tryz.ntmps8
    go_wp2_with (fail)
    go_at_call 35
    refine (HH.out _).mono ?_
    rintro e w1 ⟨rfl, hb1⟩
    clear q0 q1 q2 k0 k1 k2 r0 r1 r2 t0 t1 t2
    have HS := Lib.hid (HS.out.go hb1)
    obtain ⟨q0, q1, q2, k0, k1, k2, r0, r1, r2, t0, t1, t2⟩ := HS.out.1
    clear hb1
    go_wp2_with (fail)
    go_at_call 37
    refine (HC.out _ HS.out.2.1).mono ?_
    rintro e w2 ⟨vS, rfl, oS, hb2⟩
    have HOS := Lib.hid (Rec.own_mono (B' := w.heap.size + 3) oS HS.out.2.2)
    clear q0 q1 q2 k0 k1 k2 r0 r1 r2 t0 t1 t2
    have HS := Lib.hid (HS.out.go hb2)
    obtain ⟨q0, q1, q2, k0, k1, k2, r0, r1, r2, t0, t1, t2⟩ := HS.out.1
    have HB := Lib.hid HS.out.2.1
    obtain ⟨aS, cS, rfl, _⟩ := Rec.shape_at oS
    clear hb2 oS
    go_wp2
    have hx : ∀ k, Value.ownBlock (.slice aS l.length cS) = some k → w.heap.size + 2 < k := fun k e => by have h9 := (HOS.out.lt k e).1; omega
    have e1 : Value.ownBlock (.slice aS l.length cS) ≠ some (w.heap.size + 2) := fun e => by have := hx _ e; omega
    have HBS := Lib.hid (((HB.out.setCell (p := ⟨w.heap.size + 2, 0, none⟩) (by show w.heap.size ≤ w.heap.size + 2; omega) (.int .i64 c)).setCell (p := ⟨w.heap.size + 2, 1, none⟩) (by show w.heap.size ≤ w.heap.size + 2; omega) (.slice aS l.length cS)).setCell (p := ⟨w.heap.size + 2, 2, none⟩) (by show w.heap.size ≤ w.heap.size + 2; omega) (.string ⟨b.toArray⟩))
    have HOW := Lib.hid (Rec.own_mono (B' := w.heap.size) (ownsRow_setCell_other (a := ⟨w.heap.size + 2, 2, none⟩) (ownsRow_setCell_other (a := ⟨w.heap.size + 2, 1, none⟩) (ownsRow_setCell_other (a := ⟨w.heap.size + 2, 0, none⟩) HOS.out e1 (.int .i64 c)) e1 (.slice aS l.length cS)) e1 (.string ⟨b.toArray⟩)) (by omega))
    refine bodyPost_ret (v := .tuple #[.agg #[.int .i64 c, .slice aS l.length cS, .string ⟨b.toArray⟩], .int .i64 (t)]) (by simp [results, Tryz.results8, go_sem, r0, r1, r2]) rfl ⟨_, rfl, HOW.out, HBS.out⟩
  have HP : Hid ((-1000 ≤ x ∧ x ≤ 1000) ∧ (0 ≤ y ∧ y ≤ 1000) ∧ (0 ≤ z ∧ z ≤ 100000)) := Lib.hid (by unfold Hps.okh at hok; simpa using hok)
  rw [hok] at HH
  by_cases htm : 0 ≤ t ∧ t ≤ 8204889598
  case neg =>
    have e1 : pshl x y z t l = l := by unfold pshl good; rw [decide_eq_false htm, Bool.and_false]; rfl
    have e2 : psht x y z t = t := by unfold psht good; rw [decide_eq_false htm, Bool.and_false]; rfl
    rw [e1, e2]
    have HT : Hid (t < 0 ∨ 8204889598 < t) := Lib.hid (by omega)
    clear hok htm e1 e2 HI HG
    go_enter Tryz.func8, Tryz.ntmps8
    go_wp2_with (fail)
    go_at_call 35
    refine (HH.out _).mono ?_
    rintro e w1 ⟨rfl, hb1⟩
    clear q0 q1 q2 k0 k1 k2 r0 r1 r2 t0 t1 t2
    have HS := Lib.hid (HS.out.go hb1)
    obtain ⟨q0, q1, q2, k0, k1, k2, r0, r1, r2, t0, t1, t2⟩ := HS.out.1
    clear hb1
    go_wp2_with (fail)
    go_at_call 36
    refine (NumDiv.in_no _ _ _ _ HT.out).mono ?_
    rintro e w' ⟨rfl, rfl⟩
    go_wp2_with (fail)
    go_at_call 37
    refine (HC.out _ HS.out.2.1).mono ?_
    rintro e w2 ⟨vS, rfl, oS, hb2⟩
    have HOS := Lib.hid (Rec.own_mono (B' := w.heap.size + 3) oS HS.out.2.2)
    clear q0 q1 q2 k0 k1 k2 r0 r1 r2 t0 t1 t2
    have HS := Lib.hid (HS.out.go hb2)
    obtain ⟨q0, q1, q2, k0, k1, k2, r0, r1, r2, t0, t1, t2⟩ := HS.out.1
    have HB := Lib.hid HS.out.2.1
    obtain ⟨aS, cS, rfl, _⟩ := Rec.shape_at oS
    clear hb2 oS
    go_wp2
    have hx : ∀ k, Value.ownBlock (.slice aS l.length cS) = some k → w.heap.size + 2 < k := fun k e => by have h9 := (HOS.out.lt k e).1; omega
    have e1 : Value.ownBlock (.slice aS l.length cS) ≠ some (w.heap.size + 2) := fun e => by have := hx _ e; omega
    have HBS := Lib.hid (((HB.out.setCell (p := ⟨w.heap.size + 2, 0, none⟩) (by show w.heap.size ≤ w.heap.size + 2; omega) (.int .i64 c)).setCell (p := ⟨w.heap.size + 2, 1, none⟩) (by show w.heap.size ≤ w.heap.size + 2; omega) (.slice aS l.length cS)).setCell (p := ⟨w.heap.size + 2, 2, none⟩) (by show w.heap.size ≤ w.heap.size + 2; omega) (.string ⟨b.toArray⟩))
    have HOW := Lib.hid (Rec.own_mono (B' := w.heap.size) (ownsRow_setCell_other (a := ⟨w.heap.size + 2, 2, none⟩) (ownsRow_setCell_other (a := ⟨w.heap.size + 2, 1, none⟩) (ownsRow_setCell_other (a := ⟨w.heap.size + 2, 0, none⟩) HOS.out e1 (.int .i64 c)) e1 (.slice aS l.length cS)) e1 (.string ⟨b.toArray⟩)) (by omega))
    refine bodyPost_ret (v := .tuple #[.agg #[.int .i64 c, .slice aS l.length cS, .string ⟨b.toArray⟩], .int .i64 (t)]) (by simp [results, Tryz.results8, go_sem, r0, r1, r2]) rfl ⟨_, rfl, HOW.out, HBS.out⟩
  have e0 : good x y z t = true := by unfold good; rw [hok, decide_eq_true htm]; rfl
  have e1 : pshl x y z t l = Flds.wag (Age.cage (Age.inia l (t + x) (t + x + y)) (t + x + y) (t + x + y + z)) l := by unfold pshl hage; rw [e0]; rfl
  have e2 : psht x y z t = t + y + z := by unfold psht; rw [e0]; rfl
  rw [e1, e2]
  obtain ⟨ht1, ht2⟩ := htm
  obtain ⟨⟨hx1, hx2⟩, ⟨hy1, hy2⟩, hz1, hz2⟩ := HP.out
  have HI := Lib.hid (fun W (hb : Below w.heap.size w W) => HI.out W hb (t + x) (t + x + y) (wf_of (by omega) (by omega)) (wf_of (by omega) (by omega)))
  have hib := inia_bd l (t + x) (t + x + y)
  generalize Age.inia l (t + x) (t + x + y) = n at HI hib ⊢
  have HA := Lib.hid (fun W => Age.spec_cage n (t + x + y) (t + x + y + z) W (wf_of hib.1 hib.2) (wf_of (by omega) (by omega)) (wf_of (by omega) (by omega)))
  have hab := cage_bd n (t + x + y) (t + x + y + z)
  generalize Age.cage n (t + x + y) (t + x + y + z) = m at HA hab ⊢
  have HG := Lib.hid (fun W (hb : Below w.heap.size w W) => HG.out W hb m)
  generalize Flds.wag m l = g at HG ⊢
  have hwt : IntKind.i64.wrap (IntKind.i64.wrap (t + y) + z) = t + y + z := by rw [IntWalk.i64_in (t + y) (by omega), IntWalk.i64_in (t + y + z) (by omega)]
  obtain ⟨hi1, hi2⟩ := hib
  obtain ⟨ha1, ha2⟩ := hab
  clear hok e0 e1 e2 HP HC hll
  go_enter Tryz.func8, Tryz.ntmps8
  go_wp2_with (fail)
  go_at_call 35
  refine (HH.out _).mono ?_
  rintro e w1 ⟨rfl, hb1⟩
  clear q0 q1 q2 k0 k1 k2 r0 r1 r2 t0 t1 t2
  have HS := Lib.hid (HS.out.go hb1)
  obtain ⟨q0, q1, q2, k0, k1, k2, r0, r1, r2, t0, t1, t2⟩ := HS.out.1
  clear hb1
  go_wp2_with (fail)
  go_at_call 36
  refine (NumDiv.in_yes _ _ _ _ ht1 ht2).mono ?_
  rintro e w' ⟨rfl, rfl⟩
  have HSD := Lib.hid (show S w c u b x y z w1.drew from ⟨⟨q0, q1, q2, k0, k1, k2, r0, r1, r2, t0, t1, t2⟩, Rec.below_drew HS.out.2.1, HS.out.2.2⟩)
  have HIS := Lib.hid (fun W (hs : S w c u b x y z W) => HI.out W hs.2.1)
  have SK : Hid (∀ w0 w1 : World, S w c u b x y z w0 → Below w0.heap.size w0 w1 → S w c u b x y z w1) := Lib.hid (fun _ _ h hb => h.go hb)
  have SE : Hid (∀ w0 w1 : World, S w c u b x y z w0 → w0 = w1 → S w c u b x y z w1) := Lib.hid (fun _ _ h hb => hb ▸ h)
  have f0 : ∀ W : RegS.In (S w c u b x y z), W.w.cell? ⟨w.heap.size, 0, none⟩ = some (.int .i64 c) := fun W => W.h.1.x0
  have f1 : ∀ W : RegS.In (S w c u b x y z), W.w.cell? ⟨w.heap.size, 1, none⟩ = some (u) := fun W => W.h.1.x1
  have f2 : ∀ W : RegS.In (S w c u b x y z), W.w.cell? ⟨w.heap.size, 2, none⟩ = some (.string ⟨b.toArray⟩) := fun W => W.h.1.x2
  have f3 : ∀ W : RegS.In (S w c u b x y z), W.w.cell? ⟨w.heap.size + 1, 2, none⟩ = some (.int .i64 z) := fun W => W.h.1.h2
  go_wp2
  refine RegS.region (S w c u b x y z) (by kernel_rfl) (by kernel_rfl) HSD.out ?_
  haveI : Nonempty (RegS.In (S w c u b x y z)) := ⟨⟨_, HSD.out⟩⟩
  repeat (first | go_big_quiet_step ((first | (go_at_call 39; with_reducible exact RegS.call (HIS.out _ (RegS.In.h _)) (fun e w' he => ⟨he.1, SK.out _ _ (RegS.In.h _) he.2⟩)) | (go_at_call 38; with_reducible exact RegS.call (HA.out _) (fun e w' he => ⟨he.1, SE.out _ _ (RegS.In.h _) he.2⟩)))) | quiet_step ((first | (go_at_call 39; with_reducible exact RegS.call (HIS.out _ (RegS.In.h _)) (fun e w' he => ⟨he.1, SK.out _ _ (RegS.In.h _) he.2⟩)) | (go_at_call 38; with_reducible exact RegS.call (HA.out _) (fun e w' he => ⟨he.1, SE.out _ _ (RegS.In.h _) he.2⟩)))))
  refine wpQuiet_nil ?_
  intro wz hw'
  obtain ⟨⟨wq, hS⟩, hw''⟩ := hw'
  subst hw''
  clear q0 q1 q2 k0 k1 k2 r0 r1 r2 t0 t1 t2
  have HS := Lib.hid hS
  clear hS f0 f1 f2 f3 HSD HIS SK SE
  obtain ⟨q0, q1, q2, k0, k1, k2, r0, r1, r2, t0, t1, t2⟩ := HS.out.1
  have HS := Lib.hid (show S w c u b x y z wz.drew from ⟨⟨q0, q1, q2, k0, k1, k2, r0, r1, r2, t0, t1, t2⟩, Rec.below_drew HS.out.2.1, HS.out.2.2⟩)
  clear q0 q1 q2 k0 k1 k2 r0 r1 r2 t0 t1 t2
  obtain ⟨q0, q1, q2, k0, k1, k2, r0, r1, r2, t0, t1, t2⟩ := HS.out.1
  go_wp2
  go_region_with (first
    | (go_at_call 40; refine (HG.out _ HS.out.2.1).mono ?_; rintro e wq ⟨vS, rfl, oS, hbq⟩; have HOS := Lib.hid (Rec.own_mono (B' := w.heap.size + 3) oS HS.out.2.2); clear q0 q1 q2 k0 k1 k2 r0 r1 r2 t0 t1 t2; have HS := Lib.hid (HS.out.go hbq); obtain ⟨q0, q1, q2, k0, k1, k2, r0, r1, r2, t0, t1, t2⟩ := HS.out.1; have HB := Lib.hid HS.out.2.1; obtain ⟨aS, cS, rfl, _⟩ := Rec.shape_at oS; clear hbq oS; try fail))
  all_goals (
    go_wp2
    have hx : ∀ k, Value.ownBlock (.slice aS g.length cS) = some k → w.heap.size + 2 < k := fun k e => by have h9 := (HOS.out.lt k e).1; omega
    have e1 : Value.ownBlock (.slice aS g.length cS) ≠ some (w.heap.size + 2) := fun e => by have := hx _ e; omega
    have HBS := Lib.hid (((HB.out.setCell (p := ⟨w.heap.size + 2, 0, none⟩) (by show w.heap.size ≤ w.heap.size + 2; omega) (.int .i64 c)).setCell (p := ⟨w.heap.size + 2, 1, none⟩) (by show w.heap.size ≤ w.heap.size + 2; omega) (.slice aS g.length cS)).setCell (p := ⟨w.heap.size + 2, 2, none⟩) (by show w.heap.size ≤ w.heap.size + 2; omega) (.string ⟨b.toArray⟩))
    have HOW := Lib.hid (Rec.own_mono (B' := w.heap.size) (ownsRow_setCell_other (a := ⟨w.heap.size + 2, 2, none⟩) (ownsRow_setCell_other (a := ⟨w.heap.size + 2, 1, none⟩) (ownsRow_setCell_other (a := ⟨w.heap.size + 2, 0, none⟩) HOS.out e1 (.int .i64 c)) e1 (.slice aS g.length cS)) e1 (.string ⟨b.toArray⟩)) (by omega))
    refine bodyPost_ret (v := .tuple #[.agg #[.int .i64 c, .slice aS g.length cS, .string ⟨b.toArray⟩], .int .i64 (t + y + z)]) (by simp [results, Tryz.results8, go_sem, r0, r1, r2, hwt]) rfl ⟨_, rfl, HOW.out, HBS.out⟩)

set_option maxHeartbeats 8000000 in
theorem impl_psh (c : Int) (u : Value) (l : List F) (b : List UInt8) (t x y z : Int) (B : Nat) (w : World) (h : Flds.Holds w B u l) (hB : B ≤ w.heap.size) (hl : Flds.total l ≤ 1048576) (ht : Age.Tabs w) (her : Par.Errs w) :
    Calls Tryz.prog 11 #[.agg #[.int .i64 c, u, .string ⟨b.toArray⟩], .int .i64 t, .agg #[.int .i64 x, .int .i64 y, .int .i64 z]] w (HopEnd c (pshl x y z t l) b (psht x y z t) w) := by
  have hll : l.length ≤ 1048576 := by unfold Flds.total at hl; omega
  have HS := Lib.hid (s_start c u b x y z w)
  have HY := Lib.hid (fun W (hb : Below w.heap.size w W) => Flds.holds_below h (hb.mono hB))
  have HH := Lib.hid (fun W => Hps.impl_hop x y z W)
  have HC := Lib.hid (fun W (hb : Below w.heap.size w W) => impl_copyrsp c u l b B W (HY.out W hb) (Nat.le_trans hB hb.size) hll)
  have HI := Lib.hid (fun W (hb : Below w.heap.size w W) (a g : Int) wa wg => Age.impl_inia c u B l b a g W (HY.out W hb) (Nat.le_trans hB hb.size) hl wa wg (Age.tabs_below ht hb) (Par.errs_below her hb))
  have HG := Lib.hid (fun W (hb : Below w.heap.size w W) (a : Int) => Flds.impl_wag c u l b a B W (HY.out W hb) (Nat.le_trans hB hb.size) hll (Age.tabs_below ht hb).2.2)
  clear h ht her
  unfold Hps.fv Hps.BoolEnd at HH
  unfold Flds.CopyEnd at HC HG
  unfold Age.NumEnd at HI
  unfold HopEnd
  obtain ⟨q0, q1, q2, k0, k1, k2, r0, r1, r2, t0, t1, t2⟩ := HS.out.1
  by_cases hok : Hps.okh (x, y, z) = true
  case neg =>
    have hok' : Hps.okh (x, y, z) = false := by simpa using hok
    have e1 : pshl x y z t l = l := by unfold pshl good; rw [hok']; rfl
    have e2 : psht x y z t = t := by unfold psht good; rw [hok']; rfl
    rw [e1, e2]
    rw [hok'] at HH
    clear hok hok' e1 e2 HI HG
    go_enter Tryz.func11, Tryz.ntmps11
    go_wp2_with (fail)
    go_at_call 42
    refine (HH.out _).mono ?_
    rintro e w1 ⟨rfl, hb1⟩
    clear q0 q1 q2 k0 k1 k2 r0 r1 r2 t0 t1 t2
    have HS := Lib.hid (HS.out.go hb1)
    obtain ⟨q0, q1, q2, k0, k1, k2, r0, r1, r2, t0, t1, t2⟩ := HS.out.1
    clear hb1
    go_wp2_with (fail)
    go_at_call 44
    refine (HC.out _ HS.out.2.1).mono ?_
    rintro e w2 ⟨vS, rfl, oS, hb2⟩
    have HOS := Lib.hid (Rec.own_mono (B' := w.heap.size + 3) oS HS.out.2.2)
    clear q0 q1 q2 k0 k1 k2 r0 r1 r2 t0 t1 t2
    have HS := Lib.hid (HS.out.go hb2)
    obtain ⟨q0, q1, q2, k0, k1, k2, r0, r1, r2, t0, t1, t2⟩ := HS.out.1
    have HB := Lib.hid HS.out.2.1
    obtain ⟨aS, cS, rfl, _⟩ := Rec.shape_at oS
    clear hb2 oS
    go_wp2
    have hx : ∀ k, Value.ownBlock (.slice aS l.length cS) = some k → w.heap.size + 2 < k := fun k e => by have h9 := (HOS.out.lt k e).1; omega
    have e1 : Value.ownBlock (.slice aS l.length cS) ≠ some (w.heap.size + 2) := fun e => by have := hx _ e; omega
    have HBS := Lib.hid (((HB.out.setCell (p := ⟨w.heap.size + 2, 0, none⟩) (by show w.heap.size ≤ w.heap.size + 2; omega) (.int .i64 c)).setCell (p := ⟨w.heap.size + 2, 1, none⟩) (by show w.heap.size ≤ w.heap.size + 2; omega) (.slice aS l.length cS)).setCell (p := ⟨w.heap.size + 2, 2, none⟩) (by show w.heap.size ≤ w.heap.size + 2; omega) (.string ⟨b.toArray⟩))
    have HOW := Lib.hid (Rec.own_mono (B' := w.heap.size) (ownsRow_setCell_other (a := ⟨w.heap.size + 2, 2, none⟩) (ownsRow_setCell_other (a := ⟨w.heap.size + 2, 1, none⟩) (ownsRow_setCell_other (a := ⟨w.heap.size + 2, 0, none⟩) HOS.out e1 (.int .i64 c)) e1 (.slice aS l.length cS)) e1 (.string ⟨b.toArray⟩)) (by omega))
    refine bodyPost_ret (v := .tuple #[.agg #[.int .i64 c, .slice aS l.length cS, .string ⟨b.toArray⟩], .int .i64 (t)]) (by simp [results, Tryz.results11, go_sem, r0, r1, r2]) rfl ⟨_, rfl, HOW.out, HBS.out⟩
  have HP : Hid ((-1000 ≤ x ∧ x ≤ 1000) ∧ (0 ≤ y ∧ y ≤ 1000) ∧ (0 ≤ z ∧ z ≤ 100000)) := Lib.hid (by unfold Hps.okh at hok; simpa using hok)
  rw [hok] at HH
  by_cases htm : 0 ≤ t ∧ t ≤ 8204889598
  case neg =>
    have e1 : pshl x y z t l = l := by unfold pshl good; rw [decide_eq_false htm, Bool.and_false]; rfl
    have e2 : psht x y z t = t := by unfold psht good; rw [decide_eq_false htm, Bool.and_false]; rfl
    rw [e1, e2]
    have HT : Hid (t < 0 ∨ 8204889598 < t) := Lib.hid (by omega)
    clear hok htm e1 e2 HI HG
    go_enter Tryz.func11, Tryz.ntmps11
    go_wp2_with (fail)
    go_at_call 42
    refine (HH.out _).mono ?_
    rintro e w1 ⟨rfl, hb1⟩
    clear q0 q1 q2 k0 k1 k2 r0 r1 r2 t0 t1 t2
    have HS := Lib.hid (HS.out.go hb1)
    obtain ⟨q0, q1, q2, k0, k1, k2, r0, r1, r2, t0, t1, t2⟩ := HS.out.1
    clear hb1
    go_wp2_with (fail)
    go_at_call 43
    refine (Win.within_no _ _ _ HT.out).mono ?_
    rintro e w' ⟨rfl, rfl⟩
    go_wp2_with (fail)
    go_at_call 44
    refine (HC.out _ HS.out.2.1).mono ?_
    rintro e w2 ⟨vS, rfl, oS, hb2⟩
    have HOS := Lib.hid (Rec.own_mono (B' := w.heap.size + 3) oS HS.out.2.2)
    clear q0 q1 q2 k0 k1 k2 r0 r1 r2 t0 t1 t2
    have HS := Lib.hid (HS.out.go hb2)
    obtain ⟨q0, q1, q2, k0, k1, k2, r0, r1, r2, t0, t1, t2⟩ := HS.out.1
    have HB := Lib.hid HS.out.2.1
    obtain ⟨aS, cS, rfl, _⟩ := Rec.shape_at oS
    clear hb2 oS
    go_wp2
    have hx : ∀ k, Value.ownBlock (.slice aS l.length cS) = some k → w.heap.size + 2 < k := fun k e => by have h9 := (HOS.out.lt k e).1; omega
    have e1 : Value.ownBlock (.slice aS l.length cS) ≠ some (w.heap.size + 2) := fun e => by have := hx _ e; omega
    have HBS := Lib.hid (((HB.out.setCell (p := ⟨w.heap.size + 2, 0, none⟩) (by show w.heap.size ≤ w.heap.size + 2; omega) (.int .i64 c)).setCell (p := ⟨w.heap.size + 2, 1, none⟩) (by show w.heap.size ≤ w.heap.size + 2; omega) (.slice aS l.length cS)).setCell (p := ⟨w.heap.size + 2, 2, none⟩) (by show w.heap.size ≤ w.heap.size + 2; omega) (.string ⟨b.toArray⟩))
    have HOW := Lib.hid (Rec.own_mono (B' := w.heap.size) (ownsRow_setCell_other (a := ⟨w.heap.size + 2, 2, none⟩) (ownsRow_setCell_other (a := ⟨w.heap.size + 2, 1, none⟩) (ownsRow_setCell_other (a := ⟨w.heap.size + 2, 0, none⟩) HOS.out e1 (.int .i64 c)) e1 (.slice aS l.length cS)) e1 (.string ⟨b.toArray⟩)) (by omega))
    refine bodyPost_ret (v := .tuple #[.agg #[.int .i64 c, .slice aS l.length cS, .string ⟨b.toArray⟩], .int .i64 (t)]) (by simp [results, Tryz.results11, go_sem, r0, r1, r2]) rfl ⟨_, rfl, HOW.out, HBS.out⟩
  have e0 : good x y z t = true := by unfold good; rw [hok, decide_eq_true htm]; rfl
  have e1 : pshl x y z t l = Flds.wag (Age.cage (Age.inia l (t + x) (t + x + y)) (t + x + y) (t + x + y + z)) l := by unfold pshl hage; rw [e0]; rfl
  have e2 : psht x y z t = t + y + z := by unfold psht; rw [e0]; rfl
  rw [e1, e2]
  obtain ⟨ht1, ht2⟩ := htm
  obtain ⟨⟨hx1, hx2⟩, ⟨hy1, hy2⟩, hz1, hz2⟩ := HP.out
  have HI := Lib.hid (fun W (hb : Below w.heap.size w W) => HI.out W hb (t + x) (t + x + y) (wf_of (by omega) (by omega)) (wf_of (by omega) (by omega)))
  have hib := inia_bd l (t + x) (t + x + y)
  generalize Age.inia l (t + x) (t + x + y) = n at HI hib ⊢
  have HA := Lib.hid (fun W => Age.impl_cage n (t + x + y) (t + x + y + z) W (wf_of hib.1 hib.2) (wf_of (by omega) (by omega)) (wf_of (by omega) (by omega)))
  have hab := cage_bd n (t + x + y) (t + x + y + z)
  generalize Age.cage n (t + x + y) (t + x + y + z) = m at HA hab ⊢
  have HG := Lib.hid (fun W (hb : Below w.heap.size w W) => HG.out W hb m)
  generalize Flds.wag m l = g at HG ⊢
  have hwt : IntKind.i64.wrap (IntKind.i64.wrap (t + y) + z) = t + y + z := by rw [IntWalk.i64_in (t + y) (by omega), IntWalk.i64_in (t + y + z) (by omega)]
  obtain ⟨hi1, hi2⟩ := hib
  obtain ⟨ha1, ha2⟩ := hab
  clear hok e0 e1 e2 HP HC hll
  go_enter Tryz.func11, Tryz.ntmps11
  go_wp2_with (fail)
  go_at_call 42
  refine (HH.out _).mono ?_
  rintro e w1 ⟨rfl, hb1⟩
  clear q0 q1 q2 k0 k1 k2 r0 r1 r2 t0 t1 t2
  have HS := Lib.hid (HS.out.go hb1)
  obtain ⟨q0, q1, q2, k0, k1, k2, r0, r1, r2, t0, t1, t2⟩ := HS.out.1
  clear hb1
  go_wp2_with (fail)
  go_at_call 43
  refine (Win.within_yes _ _ _ ht1 ht2).mono ?_
  rintro e w' ⟨rfl, rfl⟩
  go_wp2_with (fail)
  go_at_call 46
  refine (HI.out _ HS.out.2.1).mono ?_
  rintro e w2 ⟨rfl, hb2⟩
  clear q0 q1 q2 k0 k1 k2 r0 r1 r2 t0 t1 t2
  have HS := Lib.hid (HS.out.go hb2)
  obtain ⟨q0, q1, q2, k0, k1, k2, r0, r1, r2, t0, t1, t2⟩ := HS.out.1
  clear hb2
  go_wp2_with (fail)
  go_at_call 45
  refine (HA.out _).mono ?_
  rintro e w' ⟨rfl, rfl⟩
  have HS := Lib.hid (show S w c u b x y z w2.drew from ⟨⟨q0, q1, q2, k0, k1, k2, r0, r1, r2, t0, t1, t2⟩, Rec.below_drew HS.out.2.1, HS.out.2.2⟩)
  clear q0 q1 q2 k0 k1 k2 r0 r1 r2 t0 t1 t2
  obtain ⟨q0, q1, q2, k0, k1, k2, r0, r1, r2, t0, t1, t2⟩ := HS.out.1
  go_wp2
  go_region_with (first
    | (go_at_call 47; refine (HG.out _ HS.out.2.1).mono ?_; rintro e wq ⟨vS, rfl, oS, hbq⟩; have HOS := Lib.hid (Rec.own_mono (B' := w.heap.size + 3) oS HS.out.2.2); clear q0 q1 q2 k0 k1 k2 r0 r1 r2 t0 t1 t2; have HS := Lib.hid (HS.out.go hbq); obtain ⟨q0, q1, q2, k0, k1, k2, r0, r1, r2, t0, t1, t2⟩ := HS.out.1; have HB := Lib.hid HS.out.2.1; obtain ⟨aS, cS, rfl, _⟩ := Rec.shape_at oS; clear hbq oS; try fail))
  all_goals (
    go_wp2
    have hx : ∀ k, Value.ownBlock (.slice aS g.length cS) = some k → w.heap.size + 2 < k := fun k e => by have h9 := (HOS.out.lt k e).1; omega
    have e1 : Value.ownBlock (.slice aS g.length cS) ≠ some (w.heap.size + 2) := fun e => by have := hx _ e; omega
    have HBS := Lib.hid (((HB.out.setCell (p := ⟨w.heap.size + 2, 0, none⟩) (by show w.heap.size ≤ w.heap.size + 2; omega) (.int .i64 c)).setCell (p := ⟨w.heap.size + 2, 1, none⟩) (by show w.heap.size ≤ w.heap.size + 2; omega) (.slice aS g.length cS)).setCell (p := ⟨w.heap.size + 2, 2, none⟩) (by show w.heap.size ≤ w.heap.size + 2; omega) (.string ⟨b.toArray⟩))
    have HOW := Lib.hid (Rec.own_mono (B' := w.heap.size) (ownsRow_setCell_other (a := ⟨w.heap.size + 2, 2, none⟩) (ownsRow_setCell_other (a := ⟨w.heap.size + 2, 1, none⟩) (ownsRow_setCell_other (a := ⟨w.heap.size + 2, 0, none⟩) HOS.out e1 (.int .i64 c)) e1 (.slice aS g.length cS)) e1 (.string ⟨b.toArray⟩)) (by omega))
    refine bodyPost_ret (v := .tuple #[.agg #[.int .i64 c, .slice aS g.length cS, .string ⟨b.toArray⟩], .int .i64 (t + y + z)]) (by simp [results, Tryz.results11, go_sem, r0, r1, r2, hwt]) rfl ⟨_, rfl, HOW.out, HBS.out⟩)

end Go.Proofs.YtojmkdggkaocdaaGreatDoor.Psh
