/-
  CONTRACTS AND PLAIN FACTS, several texts in one; each says in its own words what it proves.
-/
import Derived.Test.YtojmkdggkaocdaaGreatDoorPvV
import Derived.Test.YtojmkdggkaocdaaGreatDoorPvW
import Derived.Test.YtojmkdggkaocdaaGreatDoorPvX
import Derived.Test.YtojmkdggkaocdaaGreatDoorPvB
import Derived.Test.YtojmkdggkaocdaaGreatDoorPvL

/-
  CONTRACTS of both sides' VariantOf; nothing that was there before is changed.
-/
namespace Go.Proofs.YtojmkdggkaocdaaGreatDoor.Vrt
open Go Go.RowKit
set_option linter.unusedVariables false
set_option maxRecDepth 1000000
set_option maxRecDepth 1000000

def accN : List UInt8 := [97, 99, 99, 101, 112, 116, 45, 108, 97, 110, 103, 117, 97, 103, 101]
/-- The language and the visitor whose variant a request gets. -/
def vrt (zs : List (List UInt8)) (q : Bool) (l : List Flds.Fld) : List UInt8 × List UInt8 := (Qua.cho zs (Flds.got accN l), if q = true then Sel.vis l else [])
def TwoEnd (p : List UInt8 × List UInt8) (w : World) (e : Ending) (w' : World) : Prop := e = .returned (.tuple #[.string ⟨p.1.toArray⟩, .string ⟨p.2.toArray⟩]) ∧ Below w.heap.size w w'
theorem wsum (n : List UInt8) (hn : 2 ≤ n.length) : ∀ l : List Flds.Fld, Strs.total (Flds.vals n l) + (Flds.vals n l).length ≤ Flds.total l
  | [] => by simp [Flds.vals, Strs.total, Flds.total]
  | f :: r => by
    have ih := wsum n hn r
    have ht : Flds.total (f :: r) = Flds.total r + (f.1.length + f.2.length) + 1 := by
      unfold Flds.total Flds.wt; simp only [List.map_cons, List.sum_cons, List.length_cons]; omega
    by_cases h : (f.1 == n) = true
    · have hv : Flds.vals n (f :: r) = f.2 :: Flds.vals n r := by unfold Flds.vals; rw [List.filter_cons_of_pos (by exact h)]; rfl
      have hl : f.1.length = n.length := by rw [beq_iff_eq.1 h]
      rw [hv, ht]
      unfold Strs.total at ih ⊢
      simp only [List.map_cons, List.sum_cons, List.length_cons] at ih ⊢
      omega
    · have hv : Flds.vals n (f :: r) = Flds.vals n r := by unfold Flds.vals; rw [List.filter_cons_of_neg (by exact h)]
      rw [hv, ht]; omega
theorem got_le {n : List UInt8} (hn : 2 ≤ n.length) (l : List Flds.Fld) : (Flds.got n l).length ≤ Flds.total l := by
  have h1 := wsum n hn l
  have h2 := Tx.join_len (Flds.vals n l) (Flds.vals n l).length (Nat.le_refl _)
  have h3 := Strs.pre_all (xs := Flds.vals n l) (k := (Flds.vals n l).length) rfl
  rw [List.take_length] at h2
  unfold Flds.got
  omega
theorem cho_nil (s : List UInt8) : Qua.cho [] s = [] := rfl
theorem ret_2 {p q : List UInt8 × List UInt8} (h : p = q) : Ending.returned (.tuple #[.string ⟨p.1.toArray⟩, .string ⟨p.2.toArray⟩]) = .returned (.tuple #[.string ⟨q.1.toArray⟩, .string ⟨q.2.toArray⟩]) := by rw [h]


set_option maxHeartbeats 8000000 in
theorem impl_vrt (t0 c0 k0 : List UInt8) (q : Bool) (vl : Value) (zs : List (List UInt8)) (vv : Value) (m h t : List UInt8) (u : Value) (l : List Flds.Fld) (B : Nat) (w : World) (hz : Strs.Holds w B vl zs) (hh : Flds.Holds w B u l) (hB : B ≤ w.heap.size) (hzl : zs.length ≤ 1048576) (hl : Flds.total l ≤ 1048576) (he : Par.Errs w) (hmx : Sh.MxL w) :
    Calls Tryz.prog 26 #[.agg #[.string ⟨t0.toArray⟩, .string ⟨c0.toArray⟩, .string ⟨k0.toArray⟩, .bool q, vl, vv], .agg #[.string ⟨m.toArray⟩, .string ⟨h.toArray⟩, .string ⟨t.toArray⟩, u]] w (TwoEnd (vrt zs q l) w) := by
  cases q
  case false =>
    obtain ⟨al, cl, rfl, _⟩ := Qua.shape_s hz
    have hgl : (Flds.got accN l).length ≤ 1048576 := Nat.le_trans (got_le (by decide) l) hl
    have HX1 : Hid (Kept.Box ((w.alloc (.cells #[.string ⟨t0.toArray⟩, .string ⟨c0.toArray⟩, .string ⟨k0.toArray⟩, .bool false, .slice al zs.length cl, vv] 59)).alloc (.cells #[.string ⟨m.toArray⟩, .string ⟨h.toArray⟩, .string ⟨t.toArray⟩, u] 62)) w.heap.size [.string ⟨t0.toArray⟩, .string ⟨c0.toArray⟩, .string ⟨k0.toArray⟩, .bool false, .slice al zs.length cl, vv]) := Lib.hid (Kept.Box.new.alloc _)
    have HX2 : Hid (Kept.Box ((w.alloc (.cells #[.string ⟨t0.toArray⟩, .string ⟨c0.toArray⟩, .string ⟨k0.toArray⟩, .bool false, .slice al zs.length cl, vv] 59)).alloc (.cells #[.string ⟨m.toArray⟩, .string ⟨h.toArray⟩, .string ⟨t.toArray⟩, u] 62)) (w.heap.size + 1) [.string ⟨m.toArray⟩, .string ⟨h.toArray⟩, .string ⟨t.toArray⟩, u]) := Lib.hid (by
      have h := Kept.Box.new (w := w.alloc (.cells #[.string ⟨t0.toArray⟩, .string ⟨c0.toArray⟩, .string ⟨k0.toArray⟩, .bool false, .slice al zs.length cl, vv] 59)) (T := 62) (a := #[.string ⟨m.toArray⟩, .string ⟨h.toArray⟩, .string ⟨t.toArray⟩, u])
      rw [World.size_alloc] at h; exact h)
    have HB := Lib.hid (((Below.refl w.heap.size w).alloc (Nat.le_refl _) (.cells #[.string ⟨t0.toArray⟩, .string ⟨c0.toArray⟩, .string ⟨k0.toArray⟩, .bool false, .slice al zs.length cl, vv] 59)).alloc (by simp) (.cells #[.string ⟨m.toArray⟩, .string ⟨h.toArray⟩, .string ⟨t.toArray⟩, u] 62))
    have HG := Lib.hid (fun (W : World) (hb : Below w.heap.size w W) => Flds.impl_get u B l accN W (Flds.holds_below hh (hb.mono hB)) (Nat.le_trans hB hb.size) hl)
    have HC := Lib.hid (fun (W : World) (hb : Below w.heap.size w W) => Qua.impl_cho (.slice al zs.length cl) B zs (Flds.got accN l) W (Strs.holds_below hz (hb.mono hB)) (Nat.le_trans hB hb.size) hzl hgl (Par.errs_below he hb) (Sh.mxl_below hmx hb))
    have HV := Lib.hid (fun (W : World) (hb : Below w.heap.size w W) => Sel.impl_vis m h t u B l W (Flds.holds_below hh (hb.mono hB)) (Nat.le_trans hB hb.size) hl)
    unfold Flds.GetEnd at HG
    rw [show Tx.join (Flds.vals accN l) = Flds.got accN l from rfl] at HG
    unfold accN at HG
    have HE : Hid (vrt zs false l = (Qua.cho zs (Flds.got accN l), if false = true then Sel.vis l else [])) := Lib.hid rfl
    unfold Qua.TxtEnd at HC
    unfold Sel.TxtEnd at HV
    unfold accN at HC HE
    unfold TwoEnd
    generalize vrt zs false l = res at *
    generalize Qua.cho zs _ = ch at *
    generalize Flds.got _ l = gt at *
    generalize Sel.vis l = vs at *
    clear hgl hl hz hh he hmx
    go_enter Tryz.func26, Tryz.ntmps26
    have x3 := HX2.out.cell 3 _ rfl
    go_wp2_with (fail)
    go_at_call 62
    refine (HG.out _ HB.out).mono ?_
    rintro e w1 ⟨rfl, b1⟩
    have HX1 := Lib.hid (HX1.out.below b1)
    have HX2 := Lib.hid (HX2.out.below b1)
    have HB := Lib.hid (Base.then_below HB.out b1)
    clear b1 x3
    have c4 := HX1.out.cell 4 _ rfl
    go_wp2_with (fail)
    go_at_call 63
    refine (HC.out _ HB.out).mono ?_
    rintro e w2 ⟨rfl, b2⟩
    have HX1 := Lib.hid (HX1.out.below b2)
    have HX2 := Lib.hid (HX2.out.below b2)
    have HB := Lib.hid (Base.then_below HB.out b2)
    clear b2 c4
    have c3 := HX1.out.cell 3 _ rfl
    have HF : Hid (res = (ch, [])) := Lib.hid (by rw [HE.out]; rfl)
    go_wp2
    go_ret2
    exact ⟨ret_2 HF.out.symm, HB.out⟩
  case true =>
    obtain ⟨al, cl, rfl, _⟩ := Qua.shape_s hz
    have hgl : (Flds.got accN l).length ≤ 1048576 := Nat.le_trans (got_le (by decide) l) hl
    have HX1 : Hid (Kept.Box ((w.alloc (.cells #[.string ⟨t0.toArray⟩, .string ⟨c0.toArray⟩, .string ⟨k0.toArray⟩, .bool true, .slice al zs.length cl, vv] 59)).alloc (.cells #[.string ⟨m.toArray⟩, .string ⟨h.toArray⟩, .string ⟨t.toArray⟩, u] 62)) w.heap.size [.string ⟨t0.toArray⟩, .string ⟨c0.toArray⟩, .string ⟨k0.toArray⟩, .bool true, .slice al zs.length cl, vv]) := Lib.hid (Kept.Box.new.alloc _)
    have HX2 : Hid (Kept.Box ((w.alloc (.cells #[.string ⟨t0.toArray⟩, .string ⟨c0.toArray⟩, .string ⟨k0.toArray⟩, .bool true, .slice al zs.length cl, vv] 59)).alloc (.cells #[.string ⟨m.toArray⟩, .string ⟨h.toArray⟩, .string ⟨t.toArray⟩, u] 62)) (w.heap.size + 1) [.string ⟨m.toArray⟩, .string ⟨h.toArray⟩, .string ⟨t.toArray⟩, u]) := Lib.hid (by
      have h := Kept.Box.new (w := w.alloc (.cells #[.string ⟨t0.toArray⟩, .string ⟨c0.toArray⟩, .string ⟨k0.toArray⟩, .bool true, .slice al zs.length cl, vv] 59)) (T := 62) (a := #[.string ⟨m.toArray⟩, .string ⟨h.toArray⟩, .string ⟨t.toArray⟩, u])
      rw [World.size_alloc] at h; exact h)
    have HB := Lib.hid (((Below.refl w.heap.size w).alloc (Nat.le_refl _) (.cells #[.string ⟨t0.toArray⟩, .string ⟨c0.toArray⟩, .string ⟨k0.toArray⟩, .bool true, .slice al zs.length cl, vv] 59)).alloc (by simp) (.cells #[.string ⟨m.toArray⟩, .string ⟨h.toArray⟩, .string ⟨t.toArray⟩, u] 62))
    have HG := Lib.hid (fun (W : World) (hb : Below w.heap.size w W) => Flds.impl_get u B l accN W (Flds.holds_below hh (hb.mono hB)) (Nat.le_trans hB hb.size) hl)
    have HC := Lib.hid (fun (W : World) (hb : Below w.heap.size w W) => Qua.impl_cho (.slice al zs.length cl) B zs (Flds.got accN l) W (Strs.holds_below hz (hb.mono hB)) (Nat.le_trans hB hb.size) hzl hgl (Par.errs_below he hb) (Sh.mxl_below hmx hb))
    have HV := Lib.hid (fun (W : World) (hb : Below w.heap.size w W) => Sel.impl_vis m h t u B l W (Flds.holds_below hh (hb.mono hB)) (Nat.le_trans hB hb.size) hl)
    unfold Flds.GetEnd at HG
    rw [show Tx.join (Flds.vals accN l) = Flds.got accN l from rfl] at HG
    unfold accN at HG
    have HE : Hid (vrt zs true l = (Qua.cho zs (Flds.got accN l), if true = true then Sel.vis l else [])) := Lib.hid rfl
    unfold Qua.TxtEnd at HC
    unfold Sel.TxtEnd at HV
    unfold accN at HC HE
    unfold TwoEnd
    generalize vrt zs true l = res at *
    generalize Qua.cho zs _ = ch at *
    generalize Flds.got _ l = gt at *
    generalize Sel.vis l = vs at *
    clear hgl hl hz hh he hmx
    go_enter Tryz.func26, Tryz.ntmps26
    have x3 := HX2.out.cell 3 _ rfl
    go_wp2_with (fail)
    go_at_call 62
    refine (HG.out _ HB.out).mono ?_
    rintro e w1 ⟨rfl, b1⟩
    have HX1 := Lib.hid (HX1.out.below b1)
    have HX2 := Lib.hid (HX2.out.below b1)
    have HB := Lib.hid (Base.then_below HB.out b1)
    clear b1 x3
    have c4 := HX1.out.cell 4 _ rfl
    go_wp2_with (fail)
    go_at_call 63
    refine (HC.out _ HB.out).mono ?_
    rintro e w2 ⟨rfl, b2⟩
    have HX1 := Lib.hid (HX1.out.below b2)
    have HX2 := Lib.hid (HX2.out.below b2)
    have HB := Lib.hid (Base.then_below HB.out b2)
    clear b2 c4
    have c3 := HX1.out.cell 3 _ rfl
    have HF : Hid (res = (ch, vs)) := Lib.hid (by rw [HE.out]; rfl)
    have r0 := HX2.out.cell 0 _ rfl
    have r1 := HX2.out.cell 1 _ rfl
    have r2 := HX2.out.cell 2 _ rfl
    have r3 := HX2.out.cell 3 _ rfl
    go_wp2_with (fail)
    go_at_call 64
    refine (HV.out _ HB.out).mono ?_
    rintro e w9 ⟨rfl, b9⟩
    have HB := Lib.hid (Base.then_below HB.out b9)
    clear b9 r0 r1 r2 r3
    go_wp2
    go_ret2
    exact ⟨ret_2 HF.out.symm, HB.out⟩


set_option maxHeartbeats 8000000 in
theorem spec_vrt (t0 c0 k0 : List UInt8) (q : Bool) (vl : Value) (zs : List (List UInt8)) (vv : Value) (m h t : List UInt8) (u : Value) (l : List Flds.Fld) (B : Nat) (w : World) (hz : Strs.Holds w B vl zs) (hh : Flds.Holds w B u l) (hB : B ≤ w.heap.size) (hzl : zs.length ≤ 1048576) (hl : Flds.total l ≤ 1048576) :
    Calls Tryz.prog 23 #[.agg #[.string ⟨t0.toArray⟩, .string ⟨c0.toArray⟩, .string ⟨k0.toArray⟩, .bool q, vl, vv], .agg #[.string ⟨m.toArray⟩, .string ⟨h.toArray⟩, .string ⟨t.toArray⟩, u]] w (TwoEnd (vrt zs q l) w) := by
  cases q
  case false =>
    obtain ⟨al, cl, rfl, _⟩ := Qua.shape_s hz
    have hgl : (Flds.got accN l).length ≤ 1048576 := Nat.le_trans (got_le (by decide) l) hl
    have HX1 : Hid (Kept.Box ((w.alloc (.cells #[.string ⟨t0.toArray⟩, .string ⟨c0.toArray⟩, .string ⟨k0.toArray⟩, .bool false, .slice al zs.length cl, vv] 59)).alloc (.cells #[.string ⟨m.toArray⟩, .string ⟨h.toArray⟩, .string ⟨t.toArray⟩, u] 62)) w.heap.size [.string ⟨t0.toArray⟩, .string ⟨c0.toArray⟩, .string ⟨k0.toArray⟩, .bool false, .slice al zs.length cl, vv]) := Lib.hid (Kept.Box.new.alloc _)
    have HX2 : Hid (Kept.Box ((w.alloc (.cells #[.string ⟨t0.toArray⟩, .string ⟨c0.toArray⟩, .string ⟨k0.toArray⟩, .bool false, .slice al zs.length cl, vv] 59)).alloc (.cells #[.string ⟨m.toArray⟩, .string ⟨h.toArray⟩, .string ⟨t.toArray⟩, u] 62)) (w.heap.size + 1) [.string ⟨m.toArray⟩, .string ⟨h.toArray⟩, .string ⟨t.toArray⟩, u]) := Lib.hid (by
      have h := Kept.Box.new (w := w.alloc (.cells #[.string ⟨t0.toArray⟩, .string ⟨c0.toArray⟩, .string ⟨k0.toArray⟩, .bool false, .slice al zs.length cl, vv] 59)) (T := 62) (a := #[.string ⟨m.toArray⟩, .string ⟨h.toArray⟩, .string ⟨t.toArray⟩, u])
      rw [World.size_alloc] at h; exact h)
    have HB := Lib.hid (((Below.refl w.heap.size w).alloc (Nat.le_refl _) (.cells #[.string ⟨t0.toArray⟩, .string ⟨c0.toArray⟩, .string ⟨k0.toArray⟩, .bool false, .slice al zs.length cl, vv] 59)).alloc (by simp) (.cells #[.string ⟨m.toArray⟩, .string ⟨h.toArray⟩, .string ⟨t.toArray⟩, u] 62))
    have HG := Lib.hid (fun (W : World) (hb : Below w.heap.size w W) => Flds.spec_lget u B l accN W (Flds.holds_below hh (hb.mono hB)) (by omega))
    have HC := Lib.hid (fun (W : World) (hb : Below w.heap.size w W) => Qua.spec_cho (.slice al zs.length cl) B zs (Flds.got accN l) W (Strs.holds_below hz (hb.mono hB)) (Nat.le_trans hB hb.size) hzl hgl)
    have HV := Lib.hid (fun (W : World) (hb : Below w.heap.size w W) => Sel.spec_vis m h t u B l W (Flds.holds_below hh (hb.mono hB)) (Nat.le_trans hB hb.size) hl)
    unfold Flds.GotEnd at HG
    unfold accN at HG
    have HE : Hid (vrt zs false l = (Qua.cho zs (Flds.got accN l), if false = true then Sel.vis l else [])) := Lib.hid rfl
    unfold Qua.TxtEnd at HC
    unfold Sel.TxtEnd at HV
    unfold accN at HC HE
    unfold TwoEnd
    generalize vrt zs false l = res at *
    have HNIL : Hid (zs.length = 0 → Qua.cho zs (Flds.got [97, 99, 99, 101, 112, 116, 45, 108, 97, 110, 103, 117, 97, 103, 101] l) = []) := Lib.hid (fun h => by rw [List.eq_nil_of_length_eq_zero h]; exact cho_nil _)
    generalize Qua.cho zs _ = ch at *
    generalize Flds.got _ l = gt at *
    generalize Sel.vis l = vs at *
    clear hgl hl hz hh
    have x4 := HX1.out.cell 4 _ rfl
    by_cases h0 : (zs.length : Int) = 0
    case pos =>
      have h0n : ¬ 0 < (zs.length : Int) := by omega
      have h0m : ¬ 0 < zs.length := by omega
      obtain rfl := HNIL.out (by omega)
      have x3 := HX1.out.cell 3 _ rfl
      have HF : Hid (res = ([], [])) := Lib.hid (by rw [HE.out]; rfl)
      go_enter Tryz.func23, Tryz.ntmps23
      go_wp2
      go_ret2
      exact ⟨ret_2 HF.out.symm, HB.out⟩
    have h0n : 0 < (zs.length : Int) := by omega
    have h0m : 0 < zs.length := by omega
    clear HNIL h0
    have HSD := Lib.hid (Qua.grow_start HB.out)
    have SK : Hid (∀ w0 w1 : World, (Qua.GrowS w ((w.alloc (.cells #[.string ⟨t0.toArray⟩, .string ⟨c0.toArray⟩, .string ⟨k0.toArray⟩, .bool false, .slice al zs.length cl, vv] 59)).alloc (.cells #[.string ⟨m.toArray⟩, .string ⟨h.toArray⟩, .string ⟨t.toArray⟩, u] 62))) w0 → Below w0.heap.size w0 w1 → (Qua.GrowS w ((w.alloc (.cells #[.string ⟨t0.toArray⟩, .string ⟨c0.toArray⟩, .string ⟨k0.toArray⟩, .bool false, .slice al zs.length cl, vv] 59)).alloc (.cells #[.string ⟨m.toArray⟩, .string ⟨h.toArray⟩, .string ⟨t.toArray⟩, u] 62))) w1) := Lib.hid (fun _ _ h hb => Qua.grow_call h hb)
    have HGG : Hid (∀ u' : RegS.In (Qua.GrowS w ((w.alloc (.cells #[.string ⟨t0.toArray⟩, .string ⟨c0.toArray⟩, .string ⟨k0.toArray⟩, .bool false, .slice al zs.length cl, vv] 59)).alloc (.cells #[.string ⟨m.toArray⟩, .string ⟨h.toArray⟩, .string ⟨t.toArray⟩, u] 62))), _) := Lib.hid (fun u' => HG.out u'.w u'.h.2)
    have HCC : Hid (∀ u' : RegS.In (Qua.GrowS w ((w.alloc (.cells #[.string ⟨t0.toArray⟩, .string ⟨c0.toArray⟩, .string ⟨k0.toArray⟩, .bool false, .slice al zs.length cl, vv] 59)).alloc (.cells #[.string ⟨m.toArray⟩, .string ⟨h.toArray⟩, .string ⟨t.toArray⟩, u] 62))), _) := Lib.hid (fun u' => HC.out u'.w u'.h.2)
    have f4 : ∀ u' : RegS.In (Qua.GrowS w ((w.alloc (.cells #[.string ⟨t0.toArray⟩, .string ⟨c0.toArray⟩, .string ⟨k0.toArray⟩, .bool false, .slice al zs.length cl, vv] 59)).alloc (.cells #[.string ⟨m.toArray⟩, .string ⟨h.toArray⟩, .string ⟨t.toArray⟩, u] 62))), u'.w.cell? ⟨w.heap.size, 4, none⟩ = some (.slice al zs.length cl) := fun u' => Qua.grow_old u'.h (HX1.out.cell 4 _ rfl)
    have f3 : ∀ u' : RegS.In (Qua.GrowS w ((w.alloc (.cells #[.string ⟨t0.toArray⟩, .string ⟨c0.toArray⟩, .string ⟨k0.toArray⟩, .bool false, .slice al zs.length cl, vv] 59)).alloc (.cells #[.string ⟨m.toArray⟩, .string ⟨h.toArray⟩, .string ⟨t.toArray⟩, u] 62))), u'.w.cell? ⟨w.heap.size + 1, 3, none⟩ = some u := fun u' => Qua.grow_old u'.h (HX2.out.cell 3 _ rfl)
    go_enter Tryz.func23, Tryz.ntmps23
    go_wp2
    refine RegS.region (Qua.GrowS w ((w.alloc (.cells #[.string ⟨t0.toArray⟩, .string ⟨c0.toArray⟩, .string ⟨k0.toArray⟩, .bool false, .slice al zs.length cl, vv] 59)).alloc (.cells #[.string ⟨m.toArray⟩, .string ⟨h.toArray⟩, .string ⟨t.toArray⟩, u] 62))) (by kernel_rfl) (by kernel_rfl) HSD.out ?_
    haveI : Nonempty (RegS.In (Qua.GrowS w ((w.alloc (.cells #[.string ⟨t0.toArray⟩, .string ⟨c0.toArray⟩, .string ⟨k0.toArray⟩, .bool false, .slice al zs.length cl, vv] 59)).alloc (.cells #[.string ⟨m.toArray⟩, .string ⟨h.toArray⟩, .string ⟨t.toArray⟩, u] 62)))) := ⟨⟨_, HSD.out⟩⟩
    repeat (first | go_big_quiet_step ((first | (go_at_call 58; with_reducible exact RegS.call (HGG.out _) (fun e w' he => ⟨he.1, SK.out _ _ (RegS.In.h _) he.2⟩)) | (go_at_call 57; with_reducible exact RegS.call (HCC.out _) (fun e w' he => ⟨he.1, SK.out _ _ (RegS.In.h _) he.2⟩)))) | quiet_step ((first | (go_at_call 58; with_reducible exact RegS.call (HGG.out _) (fun e w' he => ⟨he.1, SK.out _ _ (RegS.In.h _) he.2⟩)) | (go_at_call 57; with_reducible exact RegS.call (HCC.out _) (fun e w' he => ⟨he.1, SK.out _ _ (RegS.In.h _) he.2⟩)))))
    refine wpQuiet_nil ?_
    intro _ hw'
    obtain ⟨⟨wz, hS⟩, hw''⟩ := hw'
    subst hw''
    have HX1 := Lib.hid (HX1.out.below hS.1)
    have HX2 := Lib.hid (HX2.out.below hS.1)
    have HB := Lib.hid hS.2
    clear hS f3 f4 x4 HGG HCC
    have c3 := HX1.out.cell 3 _ rfl
    have HF : Hid (res = (ch, [])) := Lib.hid (by rw [HE.out]; rfl)
    go_wp2
    go_ret2
    exact ⟨ret_2 HF.out.symm, HB.out⟩
  case true =>
    obtain ⟨al, cl, rfl, _⟩ := Qua.shape_s hz
    have hgl : (Flds.got accN l).length ≤ 1048576 := Nat.le_trans (got_le (by decide) l) hl
    have HX1 : Hid (Kept.Box ((w.alloc (.cells #[.string ⟨t0.toArray⟩, .string ⟨c0.toArray⟩, .string ⟨k0.toArray⟩, .bool true, .slice al zs.length cl, vv] 59)).alloc (.cells #[.string ⟨m.toArray⟩, .string ⟨h.toArray⟩, .string ⟨t.toArray⟩, u] 62)) w.heap.size [.string ⟨t0.toArray⟩, .string ⟨c0.toArray⟩, .string ⟨k0.toArray⟩, .bool true, .slice al zs.length cl, vv]) := Lib.hid (Kept.Box.new.alloc _)
    have HX2 : Hid (Kept.Box ((w.alloc (.cells #[.string ⟨t0.toArray⟩, .string ⟨c0.toArray⟩, .string ⟨k0.toArray⟩, .bool true, .slice al zs.length cl, vv] 59)).alloc (.cells #[.string ⟨m.toArray⟩, .string ⟨h.toArray⟩, .string ⟨t.toArray⟩, u] 62)) (w.heap.size + 1) [.string ⟨m.toArray⟩, .string ⟨h.toArray⟩, .string ⟨t.toArray⟩, u]) := Lib.hid (by
      have h := Kept.Box.new (w := w.alloc (.cells #[.string ⟨t0.toArray⟩, .string ⟨c0.toArray⟩, .string ⟨k0.toArray⟩, .bool true, .slice al zs.length cl, vv] 59)) (T := 62) (a := #[.string ⟨m.toArray⟩, .string ⟨h.toArray⟩, .string ⟨t.toArray⟩, u])
      rw [World.size_alloc] at h; exact h)
    have HB := Lib.hid (((Below.refl w.heap.size w).alloc (Nat.le_refl _) (.cells #[.string ⟨t0.toArray⟩, .string ⟨c0.toArray⟩, .string ⟨k0.toArray⟩, .bool true, .slice al zs.length cl, vv] 59)).alloc (by simp) (.cells #[.string ⟨m.toArray⟩, .string ⟨h.toArray⟩, .string ⟨t.toArray⟩, u] 62))
    have HG := Lib.hid (fun (W : World) (hb : Below w.heap.size w W) => Flds.spec_lget u B l accN W (Flds.holds_below hh (hb.mono hB)) (by omega))
    have HC := Lib.hid (fun (W : World) (hb : Below w.heap.size w W) => Qua.spec_cho (.slice al zs.length cl) B zs (Flds.got accN l) W (Strs.holds_below hz (hb.mono hB)) (Nat.le_trans hB hb.size) hzl hgl)
    have HV := Lib.hid (fun (W : World) (hb : Below w.heap.size w W) => Sel.spec_vis m h t u B l W (Flds.holds_below hh (hb.mono hB)) (Nat.le_trans hB hb.size) hl)
    unfold Flds.GotEnd at HG
    unfold accN at HG
    have HE : Hid (vrt zs true l = (Qua.cho zs (Flds.got accN l), if true = true then Sel.vis l else [])) := Lib.hid rfl
    unfold Qua.TxtEnd at HC
    unfold Sel.TxtEnd at HV
    unfold accN at HC HE
    unfold TwoEnd
    generalize vrt zs true l = res at *
    have HNIL : Hid (zs.length = 0 → Qua.cho zs (Flds.got [97, 99, 99, 101, 112, 116, 45, 108, 97, 110, 103, 117, 97, 103, 101] l) = []) := Lib.hid (fun h => by rw [List.eq_nil_of_length_eq_zero h]; exact cho_nil _)
    generalize Qua.cho zs _ = ch at *
    generalize Flds.got _ l = gt at *
    generalize Sel.vis l = vs at *
    clear hgl hl hz hh
    have x4 := HX1.out.cell 4 _ rfl
    by_cases h0 : (zs.length : Int) = 0
    case pos =>
      have h0n : ¬ 0 < (zs.length : Int) := by omega
      have h0m : ¬ 0 < zs.length := by omega
      obtain rfl := HNIL.out (by omega)
      have x3 := HX1.out.cell 3 _ rfl
      have HF : Hid (res = ([], vs)) := Lib.hid (by rw [HE.out]; rfl)
      go_enter Tryz.func23, Tryz.ntmps23
      have r0 := HX2.out.cell 0 _ rfl
      have r1 := HX2.out.cell 1 _ rfl
      have r2 := HX2.out.cell 2 _ rfl
      have r3 := HX2.out.cell 3 _ rfl
      go_wp2_with (fail)
      go_at_call 59
      refine (HV.out _ HB.out).mono ?_
      rintro e w9 ⟨rfl, b9⟩
      have HB := Lib.hid (Base.then_below HB.out b9)
      clear b9 r0 r1 r2 r3
      go_wp2
      go_ret2
      exact ⟨ret_2 HF.out.symm, HB.out⟩
    have h0n : 0 < (zs.length : Int) := by omega
    have h0m : 0 < zs.length := by omega
    clear HNIL h0
    have HSD := Lib.hid (Qua.grow_start HB.out)
    have SK : Hid (∀ w0 w1 : World, (Qua.GrowS w ((w.alloc (.cells #[.string ⟨t0.toArray⟩, .string ⟨c0.toArray⟩, .string ⟨k0.toArray⟩, .bool true, .slice al zs.length cl, vv] 59)).alloc (.cells #[.string ⟨m.toArray⟩, .string ⟨h.toArray⟩, .string ⟨t.toArray⟩, u] 62))) w0 → Below w0.heap.size w0 w1 → (Qua.GrowS w ((w.alloc (.cells #[.string ⟨t0.toArray⟩, .string ⟨c0.toArray⟩, .string ⟨k0.toArray⟩, .bool true, .slice al zs.length cl, vv] 59)).alloc (.cells #[.string ⟨m.toArray⟩, .string ⟨h.toArray⟩, .string ⟨t.toArray⟩, u] 62))) w1) := Lib.hid (fun _ _ h hb => Qua.grow_call h hb)
    have HGG : Hid (∀ u' : RegS.In (Qua.GrowS w ((w.alloc (.cells #[.string ⟨t0.toArray⟩, .string ⟨c0.toArray⟩, .string ⟨k0.toArray⟩, .bool true, .slice al zs.length cl, vv] 59)).alloc (.cells #[.string ⟨m.toArray⟩, .string ⟨h.toArray⟩, .string ⟨t.toArray⟩, u] 62))), _) := Lib.hid (fun u' => HG.out u'.w u'.h.2)
    have HCC : Hid (∀ u' : RegS.In (Qua.GrowS w ((w.alloc (.cells #[.string ⟨t0.toArray⟩, .string ⟨c0.toArray⟩, .string ⟨k0.toArray⟩, .bool true, .slice al zs.length cl, vv] 59)).alloc (.cells #[.string ⟨m.toArray⟩, .string ⟨h.toArray⟩, .string ⟨t.toArray⟩, u] 62))), _) := Lib.hid (fun u' => HC.out u'.w u'.h.2)
    have f4 : ∀ u' : RegS.In (Qua.GrowS w ((w.alloc (.cells #[.string ⟨t0.toArray⟩, .string ⟨c0.toArray⟩, .string ⟨k0.toArray⟩, .bool true, .slice al zs.length cl, vv] 59)).alloc (.cells #[.string ⟨m.toArray⟩, .string ⟨h.toArray⟩, .string ⟨t.toArray⟩, u] 62))), u'.w.cell? ⟨w.heap.size, 4, none⟩ = some (.slice al zs.length cl) := fun u' => Qua.grow_old u'.h (HX1.out.cell 4 _ rfl)
    have f3 : ∀ u' : RegS.In (Qua.GrowS w ((w.alloc (.cells #[.string ⟨t0.toArray⟩, .string ⟨c0.toArray⟩, .string ⟨k0.toArray⟩, .bool true, .slice al zs.length cl, vv] 59)).alloc (.cells #[.string ⟨m.toArray⟩, .string ⟨h.toArray⟩, .string ⟨t.toArray⟩, u] 62))), u'.w.cell? ⟨w.heap.size + 1, 3, none⟩ = some u := fun u' => Qua.grow_old u'.h (HX2.out.cell 3 _ rfl)
    go_enter Tryz.func23, Tryz.ntmps23
    go_wp2
    refine RegS.region (Qua.GrowS w ((w.alloc (.cells #[.string ⟨t0.toArray⟩, .string ⟨c0.toArray⟩, .string ⟨k0.toArray⟩, .bool true, .slice al zs.length cl, vv] 59)).alloc (.cells #[.string ⟨m.toArray⟩, .string ⟨h.toArray⟩, .string ⟨t.toArray⟩, u] 62))) (by kernel_rfl) (by kernel_rfl) HSD.out ?_
    haveI : Nonempty (RegS.In (Qua.GrowS w ((w.alloc (.cells #[.string ⟨t0.toArray⟩, .string ⟨c0.toArray⟩, .string ⟨k0.toArray⟩, .bool true, .slice al zs.length cl, vv] 59)).alloc (.cells #[.string ⟨m.toArray⟩, .string ⟨h.toArray⟩, .string ⟨t.toArray⟩, u] 62)))) := ⟨⟨_, HSD.out⟩⟩
    repeat (first | go_big_quiet_step ((first | (go_at_call 58; with_reducible exact RegS.call (HGG.out _) (fun e w' he => ⟨he.1, SK.out _ _ (RegS.In.h _) he.2⟩)) | (go_at_call 57; with_reducible exact RegS.call (HCC.out _) (fun e w' he => ⟨he.1, SK.out _ _ (RegS.In.h _) he.2⟩)))) | quiet_step ((first | (go_at_call 58; with_reducible exact RegS.call (HGG.out _) (fun e w' he => ⟨he.1, SK.out _ _ (RegS.In.h _) he.2⟩)) | (go_at_call 57; with_reducible exact RegS.call (HCC.out _) (fun e w' he => ⟨he.1, SK.out _ _ (RegS.In.h _) he.2⟩)))))
    refine wpQuiet_nil ?_
    intro _ hw'
    obtain ⟨⟨wz, hS⟩, hw''⟩ := hw'
    subst hw''
    have HX1 := Lib.hid (HX1.out.below hS.1)
    have HX2 := Lib.hid (HX2.out.below hS.1)
    have HB := Lib.hid hS.2
    clear hS f3 f4 x4 HGG HCC
    have c3 := HX1.out.cell 3 _ rfl
    have HF : Hid (res = (ch, vs)) := Lib.hid (by rw [HE.out]; rfl)
    have r0 := HX2.out.cell 0 _ rfl
    have r1 := HX2.out.cell 1 _ rfl
    have r2 := HX2.out.cell 2 _ rfl
    have r3 := HX2.out.cell 3 _ rfl
    go_wp2_with (fail)
    go_at_call 59
    refine (HV.out _ HB.out).mono ?_
    rintro e w9 ⟨rfl, b9⟩
    have HB := Lib.hid (Base.then_below HB.out b9)
    clear b9 r0 r1 r2 r3
    go_wp2
    go_ret2
    exact ⟨ret_2 HF.out.symm, HB.out⟩

end Go.Proofs.YtojmkdggkaocdaaGreatDoor.Vrt

/-
  FROM A ROW's LISTED VARIABLES to what the contracts ask of the world: the library's table of powers of ten, wherever it stands on the list.
-/
namespace Go.Proofs.YtojmkdggkaocdaaGreatDoor.Laid
open Go
set_option linter.unusedVariables false
set_option maxRecDepth 1000000

theorem of_vars {P : Program} {w : World} : ∀ {l : List (String × DataW Unit)} {ps : List MemPlace}, DataW.LaidVars P w l ps → ∀ n d, (n, d) ∈ l →
    ∃ g t cs fuel p, P.globalNamed n = some g ∧ (P.globals[g]?).map (·.type) = some t ∧ w.var? P n = some cs ∧ DataW.trod (fun _ => ()) P w 0 (fun _ => true) false fuel t cs.toList = some (d, p)
  | [], _, _, _, _, hm => by cases hm
  | (n', d') :: r, ps, h, n, d, hm => by
    obtain ⟨g, t, cs, fuel, p, q, h1, h2, h3, h4, h5, _⟩ := h
    rcases List.mem_cons.1 hm with e | e
    · cases e
      exact ⟨g, t, cs, fuel, p, h1, h2, h3, h4⟩
    · exact of_vars h5 n d e
theorem tens_datum : (Rows.laid_internal_strconv_uint64pow10 : DataW Unit) = Lib.tabData .u64 Lib.pow10Tab := by kernel_rfl
theorem tens {l : List (String × DataW Unit)} {W : World} (h : laidMet Tryz.prog l W) (hm : ("internal/strconv.uint64pow10", Rows.laid_internal_strconv_uint64pow10) ∈ l) : Fmt.Tens W := by
  obtain ⟨ps, hv, _⟩ := h
  obtain ⟨g, t, cs, fuel, p, hg, ht, hvar, hd⟩ := of_vars hv _ _ hm
  obtain rfl := Option.some.inj ((show Tryz.prog.globalNamed "internal/strconv.uint64pow10" = some 4 by kernel_rfl).symm.trans hg)
  obtain rfl := Option.some.inj ((show (Tryz.prog.globals[4]?).map (·.type) = some 250 by kernel_rfl).symm.trans ht)
  rw [tens_datum] at hd
  unfold Fmt.Tens Lib.TabIs
  rw [hvar, ← Lib.cells_of_tab Tryz.underlying250 Tryz.underlying193 (by kernel_rfl) (by kernel_rfl) hd]
end Go.Proofs.YtojmkdggkaocdaaGreatDoor.Laid
