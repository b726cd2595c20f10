/-
  CONTRACTS AND PLAIN FACTS, several texts in one; each says in its own words what it proves.
-/
import Derived.Test.YtojmkdggkaocdaaGreatDoorPvAA
import Derived.Deep.QuietTactic
import Derived.Test.YtojmkdggkaocdaaGreatDoorPvAO
import Derived.Test.YtojmkdggkaocdaaGreatDoorPvU

/-
  CONTRACTS of both sides' HitsAnswer; nothing that was there before is changed.
-/
namespace Go.Proofs.YtojmkdggkaocdaaGreatDoor.HtA
open Go Go.RowKit Pur Hit
set_option linter.unusedVariables false
set_option maxRecDepth 1000000
set_option maxRecDepth 1000000

/-- One of the purges hits the answer. -/
def hits (ps : List Pur.T) (key : List UInt8) (l : List Flds.Fld) (q : Int) : Bool := ps.any (fun f => hit f key l q)
theorem any_more {l : List Pur.T} {k : Nat} {p : Pur.T → Bool} (h : k < l.length) (h1 : (l.take k).any p = false) (h2 : p (l.getD k Pur.nov) = false) : (l.take (k + 1)).any p = false := by
  have e : l.getD k Pur.nov = l[k]'h := by simp [List.getD, h]
  rw [List.take_succ_eq_append_getElem h, List.any_append, h1, ← e]; simpa using h2
theorem any_hit {l : List Pur.T} {k : Nat} {p : Pur.T → Bool} (h : k < l.length) (h2 : p (l.getD k Pur.nov) = true) : l.any p = true := by
  have e : l.getD k Pur.nov = l[k]'h := by simp [List.getD, h]
  rw [List.any_eq_true]; exact ⟨_, List.getElem_mem h, by rw [← e]; exact h2⟩
theorem shape_p {w : World} {B : Nat} {v : Value} {l : List Pur.T} (h : Pur.Holds w B v l) : ∃ a cap, v = .slice a l.length cap ∧ (0 < l.length → ∃ b off, a = some ⟨b, off, none⟩ ∧ b < B ∧ l.length ≤ cap ∧ Pur.At w b off l) := by
  rcases h with ⟨rfl, a, cap, rfl⟩ | ⟨h0, b, off, cap, rfl, hb, hcap, hc⟩
  · exact ⟨a, cap, rfl, fun h => by simp at h⟩
  · exact ⟨_, cap, rfl, fun _ => ⟨b, off, rfl, hb, hcap, hc⟩⟩

def IdxEnd (q : Bool) (w : World) (e : Ending) (w' : World) : Prop := ∃ z : Int, e = .returned (.int .i64 z) ∧ ((0 ≤ z ∧ q = true) ∨ (z < 0 ∧ q = false)) ∧ Below w.heap.size w w'
/-- The key and the answer that the closure has captured. -/
def Cap2 (w : World) (g1 g2 : Nat) (k : List UInt8) (c : Int) (u : Value) (b : List UInt8) : Prop := w.cell? ⟨g1, 0, none⟩ = some (.string ⟨k.toArray⟩) ∧ w.cell? ⟨g2, 0, none⟩ = some (.int .i64 c) ∧ w.cell? ⟨g2, 1, none⟩ = some u ∧ w.cell? ⟨g2, 2, none⟩ = some (.string ⟨b.toArray⟩)
theorem cap2_below {w w' : World} {g1 g2 : Nat} {k : List UInt8} {c : Int} {u : Value} {b : List UInt8} (h : Cap2 w g1 g2 k c u b) (hb : Below w.heap.size w w') : Cap2 w' g1 g2 k c u b := by
  have hc := fun (g j : Nat) (v : Value) (e : w.cell? ⟨g, j, none⟩ = some v) => (hb.cell (p := ⟨g, j, none⟩) (Rec.lt_of_cell e)).trans e
  exact ⟨hc _ _ _ h.1, hc _ _ _ h.2.1, hc _ _ _ h.2.2.1, hc _ _ _ h.2.2.2⟩
def hita (ps : List Pur.T) (m h t : List UInt8) (lr l : List Flds.Fld) : Bool := hits ps (Nt.keyp m h t lr).1 l (Stp.stamp l)
def GrowB (w wr u : World) : Prop := Below wr.heap.size wr u ∧ Below w.heap.size w u
theorem growb_start {w wr : World} (hb : Below w.heap.size w wr) : GrowB w wr wr.drew := ⟨Rec.below_drew (Below.refl _ _), Rec.below_drew hb⟩
theorem growb_call {w wr w0 w1 : World} (h : GrowB w wr w0) (hb : Below w0.heap.size w0 w1) : GrowB w wr w1 := ⟨h.1.trans (hb.mono h.1.size), Base.then_below h.2 hb⟩
theorem growb_old {w wr w' : World} (h : GrowB w wr w') {b o : Nat} {u : Value} (hc : wr.cell? ⟨b, o, none⟩ = some u) : w'.cell? ⟨b, o, none⟩ = some u := by
  rw [h.1.cell (p := ⟨b, o, none⟩) (Rec.lt_of_cell hc)]; exact hc


set_option maxHeartbeats 4000000 in
theorem clos2 (f : Pur.T) (g1 g2 : Nat) (k : List UInt8) (c : Int) (u : Value) (l : List Flds.Fld) (b : List UInt8) (B : Nat) (w : World) (hu : Flds.Holds w B u l) (hB : B ≤ w.heap.size) (hl : Flds.total l ≤ 1048576) (ht : Fmt.Tens w) (he : Par.Errs w) (hm : Sh.MxL w) (hc : Cap2 w g1 g2 k c u b) :
    Calls Tryz.prog 74 #[.agg #[.int .i64 f.1, .int .i64 f.2.1, .string ⟨f.2.2.toArray⟩], .pointer (some ⟨g1, 0, none⟩), .pointer (some ⟨g2, 0, none⟩)] w (BoolEnd (hit f k l (Stp.stamp l)) w) := by
  have hb0 : Below w.heap.size w (w.alloc (.cells #[.int .i64 f.1, .int .i64 f.2.1, .string ⟨f.2.2.toArray⟩] 103)) := (Below.refl _ _).alloc (Nat.le_refl _) _
  have HB0 := Lib.hid hb0
  have hcc := cap2_below hc hb0
  have HX : Hid (Kept.Box (w.alloc (.cells #[.int .i64 f.1, .int .i64 f.2.1, .string ⟨f.2.2.toArray⟩] 103)) w.heap.size [.int .i64 f.1, .int .i64 f.2.1, .string ⟨f.2.2.toArray⟩]) := Lib.hid Kept.Box.new
  have HST0 := Lib.hid (fun (W : World) (hb : Below w.heap.size w W) => Stp.impl_stp c u B l b W (Flds.holds_below hu (hb.mono hB)) (Nat.le_trans hB hb.size) hl (Fmt.tens_below ht hb) (Par.errs_below he hb))
  have HHI0 := Lib.hid (fun (W : World) (hb : Below w.heap.size w W) => impl_hits f k u B l (Stp.stamp l) W (Flds.holds_below hu (hb.mono hB)) (Nat.le_trans hB hb.size) hl (Sh.mxl_below hm hb))
  unfold Stp.NumEnd at HST0
  unfold BoolEnd at HHI0 ⊢
  generalize hit f k l (Stp.stamp l) = z at *
  generalize Stp.stamp l = q at *
  obtain ⟨ua, ucap, rfl, _⟩ := Flds.shape_lget hu
  have HSD := Lib.hid (growb_start HB0.out)
  have SK : Hid (∀ w0 w1 : World, (GrowB w (w.alloc (.cells #[.int .i64 f.1, .int .i64 f.2.1, .string ⟨f.2.2.toArray⟩] 103))) w0 → Below w0.heap.size w0 w1 → (GrowB w (w.alloc (.cells #[.int .i64 f.1, .int .i64 f.2.1, .string ⟨f.2.2.toArray⟩] 103))) w1) := Lib.hid (fun _ _ h hb => growb_call h hb)
  have HST : Hid (∀ u' : RegS.In (GrowB w (w.alloc (.cells #[.int .i64 f.1, .int .i64 f.2.1, .string ⟨f.2.2.toArray⟩] 103))), _) := Lib.hid (fun u' => HST0.out u'.w u'.h.2)
  have HHI : Hid (∀ u' : RegS.In (GrowB w (w.alloc (.cells #[.int .i64 f.1, .int .i64 f.2.1, .string ⟨f.2.2.toArray⟩] 103))), _) := Lib.hid (fun u' => HHI0.out u'.w u'.h.2)
  have f0 : ∀ u' : RegS.In (GrowB w (w.alloc (.cells #[.int .i64 f.1, .int .i64 f.2.1, .string ⟨f.2.2.toArray⟩] 103))), u'.w.cell? ⟨w.heap.size, 0, none⟩ = some (.int .i64 f.1) := fun u' => growb_old u'.h (HX.out.cell 0 _ rfl)
  have f1 : ∀ u' : RegS.In (GrowB w (w.alloc (.cells #[.int .i64 f.1, .int .i64 f.2.1, .string ⟨f.2.2.toArray⟩] 103))), u'.w.cell? ⟨w.heap.size, 1, none⟩ = some (.int .i64 f.2.1) := fun u' => growb_old u'.h (HX.out.cell 1 _ rfl)
  have f2 : ∀ u' : RegS.In (GrowB w (w.alloc (.cells #[.int .i64 f.1, .int .i64 f.2.1, .string ⟨f.2.2.toArray⟩] 103))), u'.w.cell? ⟨w.heap.size, 2, none⟩ = some (.string ⟨f.2.2.toArray⟩) := fun u' => growb_old u'.h (HX.out.cell 2 _ rfl)
  have e0 : ∀ u' : RegS.In (GrowB w (w.alloc (.cells #[.int .i64 f.1, .int .i64 f.2.1, .string ⟨f.2.2.toArray⟩] 103))), u'.w.cell? ⟨g1, 0, none⟩ = some (.string ⟨k.toArray⟩) := fun u' => growb_old u'.h hcc.1
  have e1 : ∀ u' : RegS.In (GrowB w (w.alloc (.cells #[.int .i64 f.1, .int .i64 f.2.1, .string ⟨f.2.2.toArray⟩] 103))), u'.w.cell? ⟨g2, 0, none⟩ = some (.int .i64 c) := fun u' => growb_old u'.h hcc.2.1
  have e2 : ∀ u' : RegS.In (GrowB w (w.alloc (.cells #[.int .i64 f.1, .int .i64 f.2.1, .string ⟨f.2.2.toArray⟩] 103))), u'.w.cell? ⟨g2, 1, none⟩ = some (.slice ua l.length ucap) := fun u' => growb_old u'.h hcc.2.2.1
  have e3 : ∀ u' : RegS.In (GrowB w (w.alloc (.cells #[.int .i64 f.1, .int .i64 f.2.1, .string ⟨f.2.2.toArray⟩] 103))), u'.w.cell? ⟨g2, 2, none⟩ = some (.string ⟨b.toArray⟩) := fun u' => growb_old u'.h hcc.2.2.2
  clear hb0 hu hc ht he hm hl
  go_enter Tryz.func74, Tryz.ntmps74
  go_wp2
  refine RegS.region (GrowB w (w.alloc (.cells #[.int .i64 f.1, .int .i64 f.2.1, .string ⟨f.2.2.toArray⟩] 103))) (by kernel_rfl) (by kernel_rfl) HSD.out ?_
  haveI : Nonempty (RegS.In (GrowB w (w.alloc (.cells #[.int .i64 f.1, .int .i64 f.2.1, .string ⟨f.2.2.toArray⟩] 103)))) := ⟨⟨_, HSD.out⟩⟩
  repeat (first | go_big_quiet_step ((first | (go_at_call 76; with_reducible exact RegS.call (HST.out _) (fun e w' he => ⟨he.1, SK.out _ _ (RegS.In.h _) he.2⟩)) | (go_at_call 75; with_reducible exact RegS.call (HHI.out _) (fun e w' he => ⟨he.1, SK.out _ _ (RegS.In.h _) he.2⟩)))) | quiet_step ((first | (go_at_call 76; with_reducible exact RegS.call (HST.out _) (fun e w' he => ⟨he.1, SK.out _ _ (RegS.In.h _) he.2⟩)) | (go_at_call 75; with_reducible exact RegS.call (HHI.out _) (fun e w' he => ⟨he.1, SK.out _ _ (RegS.In.h _) he.2⟩)))))
  refine wpQuiet_nil ?_
  intro _ hw'
  obtain ⟨⟨wz, hS⟩, hw''⟩ := hw'
  subst hw''
  have HBB := Lib.hid hS
  clear hS
  go_wp2
  go_ret
  exact ⟨rfl, HBB.out.2⟩

set_option maxHeartbeats 2000000 in
theorem idx2 (v : Value) (B : Nat) (ps : List Pur.T) (g1 g2 : Nat) (k : List UInt8) (c : Int) (u : Value) (l : List Flds.Fld) (b : List UInt8) (B' : Nat) (w : World) (h : Pur.Holds w B v ps) (hu : Flds.Holds w B' u l) (hB : B ≤ w.heap.size) (hB' : B' ≤ w.heap.size) (hps : ps.length ≤ 1048576) (hl : Flds.total l ≤ 1048576) (ht : Fmt.Tens w) (he : Par.Errs w) (hmx : Sh.MxL w) (hc : Cap2 w g1 g2 k c u b) :
    Calls Tryz.prog 121 #[v, .func (.func 74) #[] #[.pointer (some ⟨g1, 0, none⟩), .pointer (some ⟨g2, 0, none⟩)]] w (IdxEnd (hits ps k l (Stp.stamp l)) w) := by
  obtain ⟨a, cap, rfl, ha⟩ := shape_p h
  have HA := Lib.hid ha
  have HU := Lib.hid hu
  have HCP := Lib.hid hc
  have HMX := Lib.hid hmx
  have HTN := Lib.hid ht
  have HER := Lib.hid he
  have HF : Hid (hits ps k l (Stp.stamp l) = ps.any (fun f => hit f k l (Stp.stamp l))) := Lib.hid rfl
  unfold IdxEnd
  generalize hits ps k l (Stp.stamp l) = z at HF ⊢
  clear ha h hc hu hmx ht he
  go_enter Tryz.func121, Tryz.ntmps121
  go_wp2
  go_loopw [8] (fun j wr => ∃ m : Nat, m ≤ ps.length ∧ j = .int .i64 (m : Int) ∧ Hid ((ps.take m).any (fun f => hit f k l (Stp.stamp l)) = false) ∧ Below w.heap.size w wr) (fun j _ => ps.length - (intOf j).toNat)
  case atStart => exact ⟨0, Nat.zero_le _, rfl, Lib.hid (by simp), Below.refl _ _⟩
  case round =>
    obtain ⟨m, hm, rfl, HN, hb⟩ := hrel
    have HB := Lib.hid hb
    by_cases hlt : m < ps.length
    · obtain ⟨b', off, rfl, hbl, _, hat⟩ := HA.out (by omega)
      obtain ⟨c0, c1, c2⟩ := Pur.at_cells (Pur.at_below hat hb (Nat.lt_of_lt_of_le hbl hB)) hlt
      have HM := Lib.hid (any_more (p := fun f => hit f k l (Stp.stamp l)) hlt HN.out)
      have HH := Lib.hid (any_hit (p := fun f => hit f k l (Stp.stamp l)) hlt)
      generalize ps.getD m Pur.nov = f at c0 c1 c2 HM HH
      have HK := Lib.hid (clos2 f g1 g2 k c u l b B' wr (Flds.holds_below HU.out (hb.mono hB')) (Nat.le_trans hB' hb.size) hl (Fmt.tens_below HTN.out hb) (Par.errs_below HER.out hb) (Sh.mxl_below HMX.out hb) (cap2_below HCP.out hb))
      unfold BoolEnd at HK

      have hki : (m : Int) < (ps.length : Int) := by omega
      clear hb hat
      generalize hq : hit f k l (Stp.stamp l) = r at HK HM HH
      clear hq
      go_wp2_with (fail)
      go_at_call 74
      refine HK.out.mono ?_
      rintro e w1 ⟨rfl, hb1⟩
      have HB1 := Lib.hid (Base.then_below HB.out hb1)
      clear hb1 c0 c1 c2
      cases r
      · have HR := Lib.hid (HM.out rfl)
        clear HM HH
        go_wp2
        go_roundw
        case rel => exact ⟨m + 1, by omega, by go_num, HR, HB1.out⟩
        case measure => simp [intOf]; omega
      · have HR := Lib.hid (HH.out rfl)
        clear HM HH
        go_wp2
        go_ret
        exact ⟨_, rfl, Or.inl ⟨by omega, HF.out.trans HR.out⟩, HB1.out⟩
    · have HR : Hid (ps.any (fun f => hit f k l (Stp.stamp l)) = false) := Lib.hid (by have h := HN.out; rwa [List.take_of_length_le (by omega)] at h)
      clear hb
      go_wp2
      go_ret
      exact ⟨_, rfl, Or.inr ⟨by decide, HF.out.trans HR.out⟩, HB.out⟩

theorem con2 (v : Value) (B : Nat) (ps : List Pur.T) (g1 g2 : Nat) (k : List UInt8) (c : Int) (u : Value) (l : List Flds.Fld) (b : List UInt8) (B' : Nat) (w : World) (h : Pur.Holds w B v ps) (hu : Flds.Holds w B' u l) (hB : B ≤ w.heap.size) (hB' : B' ≤ w.heap.size) (hps : ps.length ≤ 1048576) (hl : Flds.total l ≤ 1048576) (ht : Fmt.Tens w) (he : Par.Errs w) (hmx : Sh.MxL w) (hc : Cap2 w g1 g2 k c u b) :
    Calls Tryz.prog 73 #[v, .func (.func 74) #[] #[.pointer (some ⟨g1, 0, none⟩), .pointer (some ⟨g2, 0, none⟩)]] w (BoolEnd (hits ps k l (Stp.stamp l)) w) := by
  have HI := Lib.hid (idx2 v B ps g1 g2 k c u l b B' w h hu hB hB' hps hl ht he hmx hc)
  unfold IdxEnd at HI
  unfold BoolEnd
  generalize hits ps k l (Stp.stamp l) = r at HI ⊢
  obtain ⟨a, cap, rfl, _⟩ := shape_p h
  clear h hc hu hmx ht he
  go_enter Tryz.func73, Tryz.ntmps73
  go_wp2_with (fail)
  go_at_call 121
  refine HI.out.mono ?_
  rintro e w1 ⟨z, rfl, hz, hb⟩
  have HB := Lib.hid hb
  clear hb
  rcases hz with ⟨hz, rfl⟩ | ⟨hz, rfl⟩
  · go_wp2
    go_ret
    exact ⟨ret_b (by simp <;> omega), HB.out⟩
  · have hzn : ¬ 0 ≤ z := by omega
    go_wp2
    go_ret
    exact ⟨ret_b (by simp <;> omega), HB.out⟩



set_option maxHeartbeats 4000000 in
theorem impl_ha (v : Value) (B : Nat) (ps : List Pur.T) (m h t : List UInt8) (vr : Value) (lr : List Flds.Fld) (c : Int) (u : Value) (l : List Flds.Fld) (b : List UInt8) (w : World) (hp : Pur.Holds w B v ps) (hr : Flds.Holds w B vr lr) (hu : Flds.Holds w B u l) (hB : B ≤ w.heap.size) (hps : ps.length ≤ 1048576) (hlr : Flds.total lr ≤ 1048576) (hl : Flds.total l ≤ 1048576) (hm : m.length ≤ 1048576) (hh : h.length ≤ 1048576) (ht : t.length ≤ 1048576) (htn : Fmt.Tens w) (he : Par.Errs w) (hmx : Sh.MxL w) :
    Calls Tryz.prog 32 #[v, .agg #[.string ⟨m.toArray⟩, .string ⟨h.toArray⟩, .string ⟨t.toArray⟩, vr], .agg #[.int .i64 c, u, .string ⟨b.toArray⟩]] w (BoolEnd (hita ps m h t lr l) w) := by
  have hmf : ∀ (fn : Fn) (first cap : Array Value) (w : World), (Instr.makeFunc fn first cap).run Tryz.prog w = .ok (.func fn first cap) w := fun _ _ _ _ => rfl
  have hb0 : Below w.heap.size w ((w.alloc (.cells #[.string ⟨m.toArray⟩, .string ⟨h.toArray⟩, .string ⟨t.toArray⟩, vr] 62)).alloc (.cells #[.int .i64 c, u, .string ⟨b.toArray⟩] 30)) := ((Below.refl _ _).alloc (Nat.le_refl _) _).alloc (by simp) _
  have HB0 := Lib.hid hb0
  have HX2 : Hid (Kept.Box ((w.alloc (.cells #[.string ⟨m.toArray⟩, .string ⟨h.toArray⟩, .string ⟨t.toArray⟩, vr] 62)).alloc (.cells #[.int .i64 c, u, .string ⟨b.toArray⟩] 30)) (w.heap.size + 1) [.int .i64 c, u, .string ⟨b.toArray⟩]) := Lib.hid (by
    have h := Kept.Box.new (w := w.alloc (.cells #[.string ⟨m.toArray⟩, .string ⟨h.toArray⟩, .string ⟨t.toArray⟩, vr] 62)) (T := 30) (a := #[.int .i64 c, u, .string ⟨b.toArray⟩])
    rw [World.size_alloc] at h; exact h)
  have HK := Lib.hid (fun (W : World) (hb : Below w.heap.size w W) => Nt.impl_key m h t vr B lr W (Flds.holds_below hr (hb.mono hB)) (Nat.le_trans hB hb.size) hlr hm hh ht (Par.errs_below he hb) (Sh.mxl_below hmx hb))
  have HCN := Lib.hid (fun (k : List UInt8) (g1 g2 : Nat) (W : World) (hb : Below w.heap.size w W) (hc : Cap2 W g1 g2 k c u b) => con2 v B ps g1 g2 k c u l b B W (Pur.holds_below hp (hb.mono hB)) (Flds.holds_below hu (hb.mono hB)) (Nat.le_trans hB hb.size) (Nat.le_trans hB hb.size) hps hl (Fmt.tens_below htn hb) (Par.errs_below he hb) (Sh.mxl_below hmx hb) hc)
  unfold BoolEnd at HCN ⊢
  have HE : Hid (hita ps m h t lr l = hits ps (Nt.keyp m h t lr).1 l (Stp.stamp l)) := Lib.hid rfl
  unfold Nt.PairEnd at HK
  generalize hita ps m h t lr l = res at *
  generalize Nt.keyp m h t lr = kp at *
  obtain ⟨k, k2⟩ := kp
  simp only at HK HE
  obtain ⟨av, cv, rfl, ha⟩ := shape_p hp
  have HA := Lib.hid ha
  obtain ⟨ua, ucap, rfl, _⟩ := Flds.shape_lget hu
  clear hp hr hu hlr hm hh ht hb0 ha htn he hmx
  go_enter Tryz.func32, Tryz.ntmps32
  go_wp2_with (fail)
  go_at_call 72
  refine (HK.out _ HB0.out).mono ?_
  rintro e w1 ⟨rfl, b1⟩
  have HX2 := Lib.hid (HX2.out.below b1)
  have HB := Lib.hid (Base.then_below HB0.out b1)
  clear b1
  have HX2 := Lib.hid (HX2.out.alloc (.cells #[.string ⟨k.toArray⟩] 9))
  have HX1 : Hid (Kept.Box (w1.alloc (.cells #[.string ⟨k.toArray⟩] 9)) w1.heap.size [.string ⟨k.toArray⟩]) := Lib.hid Kept.Box.new
  have HB := Lib.hid (HB.out.alloc HB.out.size (.cells #[.string ⟨k.toArray⟩] 9))
  have HCAP : Hid (Cap2 (w1.alloc (.cells #[.string ⟨k.toArray⟩] 9)) w1.heap.size (w.heap.size + 1) k c (.slice ua l.length ucap) b) := Lib.hid ⟨HX1.out.cell 0 _ rfl, HX2.out.cell 0 _ rfl, HX2.out.cell 1 _ rfl, HX2.out.cell 2 _ rfl⟩
  have HCC := Lib.hid (HCN.out k _ _ _ HB.out HCAP.out)
  rw [← HE.out] at HCC
  clear HCN HE
  go_wp2_with (fail)
  go_at_call 73
  refine HCC.out.mono ?_
  rintro e w2 ⟨rfl, b2⟩
  have HB := Lib.hid (Base.then_below HB.out b2)
  clear b2
  go_wp2
  go_ret
  exact ⟨rfl, HB.out⟩


set_option maxHeartbeats 4000000 in
theorem spec_ha (v : Value) (B : Nat) (ps : List Pur.T) (m h t : List UInt8) (vr : Value) (lr : List Flds.Fld) (c : Int) (u : Value) (l : List Flds.Fld) (b : List UInt8) (w : World) (hp : Pur.Holds w B v ps) (hr : Flds.Holds w B vr lr) (hu : Flds.Holds w B u l) (hB : B ≤ w.heap.size) (hps : ps.length ≤ 1048576) (hlr : Flds.total lr ≤ 1048576) (hl : Flds.total l ≤ 1048576) (hm : m.length ≤ 1048576) (hh : h.length ≤ 1048576) (ht : t.length ≤ 1048576) :
    Calls Tryz.prog 30 #[v, .agg #[.string ⟨m.toArray⟩, .string ⟨h.toArray⟩, .string ⟨t.toArray⟩, vr], .agg #[.int .i64 c, u, .string ⟨b.toArray⟩]] w (BoolEnd (hita ps m h t lr l) w) := by
  have hmf : ∀ (fn : Fn) (first cap : Array Value) (w : World), (Instr.makeFunc fn first cap).run Tryz.prog w = .ok (.func fn first cap) w := fun _ _ _ _ => rfl
  have hb0 : Below w.heap.size w ((w.alloc (.cells #[.string ⟨m.toArray⟩, .string ⟨h.toArray⟩, .string ⟨t.toArray⟩, vr] 62)).alloc (.cells #[.int .i64 c, u, .string ⟨b.toArray⟩] 30)) := ((Below.refl _ _).alloc (Nat.le_refl _) _).alloc (by simp) _
  have HB0 := Lib.hid hb0
  have HX2 : Hid (Kept.Box ((w.alloc (.cells #[.string ⟨m.toArray⟩, .string ⟨h.toArray⟩, .string ⟨t.toArray⟩, vr] 62)).alloc (.cells #[.int .i64 c, u, .string ⟨b.toArray⟩] 30)) (w.heap.size + 1) [.int .i64 c, u, .string ⟨b.toArray⟩]) := Lib.hid (by
    have h := Kept.Box.new (w := w.alloc (.cells #[.string ⟨m.toArray⟩, .string ⟨h.toArray⟩, .string ⟨t.toArray⟩, vr] 62)) (T := 30) (a := #[.int .i64 c, u, .string ⟨b.toArray⟩])
    rw [World.size_alloc] at h; exact h)
  have HK := Lib.hid (fun (W : World) (hb : Below w.heap.size w W) => Nt.spec_key m h t vr B lr W (Flds.holds_below hr (hb.mono hB)) (Nat.le_trans hB hb.size) hlr hm hh ht)
  have HSTA := Lib.hid (fun (W : World) (hb : Below w.heap.size w W) => Stp.spec_stp c u B l b W (Flds.holds_below hu (hb.mono hB)) (Nat.le_trans hB hb.size) hl)
  have HHIA := Lib.hid (fun (f : Pur.T) (k : List UInt8) (W : World) (hb : Below w.heap.size w W) => spec_hits f k u B l (Stp.stamp l) W (Flds.holds_below hu (hb.mono hB)) (Nat.le_trans hB hb.size) hl)
  unfold Stp.NumEnd at HSTA
  unfold BoolEnd at HHIA ⊢
  have HE : Hid (hita ps m h t lr l = hits ps (Nt.keyp m h t lr).1 l (Stp.stamp l)) := Lib.hid rfl
  unfold Nt.PairEnd at HK
  generalize hita ps m h t lr l = res at *
  generalize Nt.keyp m h t lr = kp at *
  obtain ⟨k, k2⟩ := kp
  simp only at HK HE
  obtain ⟨av, cv, rfl, ha⟩ := shape_p hp
  have HA := Lib.hid ha
  obtain ⟨ua, ucap, rfl, _⟩ := Flds.shape_lget hu
  clear hp hr hu hlr hm hh ht hb0 ha
  go_enter Tryz.func30, Tryz.ntmps30
  go_wp2_with (fail)
  go_at_call 68
  refine (HK.out _ HB0.out).mono ?_
  rintro e w1 ⟨rfl, b1⟩
  have HX2 := Lib.hid (HX2.out.below b1)
  have HB := Lib.hid (Base.then_below HB0.out b1)
  clear b1
  have HF : Hid (hits ps k l (Stp.stamp l) = ps.any (fun f => hit f k l (Stp.stamp l))) := Lib.hid rfl
  generalize hits ps k l (Stp.stamp l) = z at *
  generalize Stp.stamp l = q at *
  go_wp2
  go_loopw [9] (fun j wr => ∃ n : Nat, n ≤ ps.length ∧ j = .int .i64 (n : Int) ∧ Hid ((ps.take n).any (fun f => hit f k l q) = false) ∧ Kept.Box wr (w.heap.size + 1) [.int .i64 c, .slice ua l.length ucap, .string ⟨b.toArray⟩] ∧ Below w.heap.size w wr) (fun j _ => ps.length - (intOf j).toNat)
  case atStart => exact ⟨0, Nat.zero_le _, rfl, Lib.hid (by simp), HX2.out, HB.out⟩
  case round =>
    clear HX2 HB
    obtain ⟨n, hn, rfl, HN, hx2, hb⟩ := hrel
    have HB := Lib.hid hb
    have HX2 := Lib.hid hx2
    by_cases hlt : n < ps.length
    · obtain ⟨b', off, rfl, hbl, _, hat⟩ := HA.out (by omega)
      obtain ⟨c0, c1, c2⟩ := Pur.at_cells (Pur.at_below hat hb (Nat.lt_of_lt_of_le hbl hB)) hlt
      have HM := Lib.hid (any_more (p := fun f => hit f k l q) hlt HN.out)
      have HH := Lib.hid (any_hit (p := fun f => hit f k l q) hlt)
      generalize ps.getD n Pur.nov = f at c0 c1 c2 HM HH
      have hki : (n : Int) < (ps.length : Int) := by omega
      have HSD := Lib.hid (growb_start HB.out)
      have SK : Hid (∀ w0 w1 : World, GrowB w wr w0 → Below w0.heap.size w0 w1 → GrowB w wr w1) := Lib.hid (fun _ _ h hb => growb_call h hb)
      have HST : Hid (∀ u' : RegS.In (GrowB w wr), _) := Lib.hid (fun u' => HSTA.out u'.w u'.h.2)
      have HHI : Hid (∀ u' : RegS.In (GrowB w wr), _) := Lib.hid (fun u' => HHIA.out f k u'.w u'.h.2)
      have f0 : ∀ u' : RegS.In (GrowB w wr), u'.w.cell? ⟨b', off + n * 3, none⟩ = some (.int .i64 f.1) := fun u' => growb_old u'.h c0
      have f1 : ∀ u' : RegS.In (GrowB w wr), u'.w.cell? ⟨b', off + n * 3 + 1, none⟩ = some (.int .i64 f.2.1) := fun u' => growb_old u'.h c1
      have f2 : ∀ u' : RegS.In (GrowB w wr), u'.w.cell? ⟨b', off + n * 3 + 2, none⟩ = some (.string ⟨f.2.2.toArray⟩) := fun u' => growb_old u'.h c2
      have e0 : ∀ u' : RegS.In (GrowB w wr), u'.w.cell? ⟨w.heap.size + 1, 0, none⟩ = some (.int .i64 c) := fun u' => growb_old u'.h (hx2.cell 0 _ rfl)
      have e1 : ∀ u' : RegS.In (GrowB w wr), u'.w.cell? ⟨w.heap.size + 1, 1, none⟩ = some (.slice ua l.length ucap) := fun u' => growb_old u'.h (hx2.cell 1 _ rfl)
      have e2 : ∀ u' : RegS.In (GrowB w wr), u'.w.cell? ⟨w.heap.size + 1, 2, none⟩ = some (.string ⟨b.toArray⟩) := fun u' => growb_old u'.h (hx2.cell 2 _ rfl)
      clear hb hat hx2
      generalize hit f k l q = r at HHI HM HH
      cases r with
      | true =>
        have HZ : Hid (res = true) := Lib.hid (by rw [HE.out, HF.out]; exact HH.out rfl)
        clear HM HH HF HN
        go_wp2
        refine RegS.region (GrowB w wr) (by kernel_rfl) (by kernel_rfl) HSD.out ?_
        haveI : Nonempty (RegS.In (GrowB w wr)) := ⟨⟨_, HSD.out⟩⟩
        repeat (first | go_big_quiet_step ((first | (go_at_call 70; with_reducible exact RegS.call (HST.out _) (fun e w' he => ⟨he.1, SK.out _ _ (RegS.In.h _) he.2⟩)) | (go_at_call 69; with_reducible exact RegS.call (HHI.out _) (fun e w' he => ⟨he.1, SK.out _ _ (RegS.In.h _) he.2⟩)))) | quiet_step ((first | (go_at_call 70; with_reducible exact RegS.call (HST.out _) (fun e w' he => ⟨he.1, SK.out _ _ (RegS.In.h _) he.2⟩)) | (go_at_call 69; with_reducible exact RegS.call (HHI.out _) (fun e w' he => ⟨he.1, SK.out _ _ (RegS.In.h _) he.2⟩)))))
        refine wpQuiet_nil ?_
        intro _ hw'
        obtain ⟨⟨wz, hS⟩, hw''⟩ := hw'
        subst hw''
        have HBB := Lib.hid hS
        clear hS
        go_wp2
        go_ret
        exact ⟨ret_b HZ.out.symm, HBB.out.2⟩
      | false =>
        have HZ := Lib.hid (HM.out rfl)
        clear HM HH
        go_wp2
        refine RegS.region (GrowB w wr) (by kernel_rfl) (by kernel_rfl) HSD.out ?_
        haveI : Nonempty (RegS.In (GrowB w wr)) := ⟨⟨_, HSD.out⟩⟩
        repeat (first | go_big_quiet_step ((first | (go_at_call 70; with_reducible exact RegS.call (HST.out _) (fun e w' he => ⟨he.1, SK.out _ _ (RegS.In.h _) he.2⟩)) | (go_at_call 69; with_reducible exact RegS.call (HHI.out _) (fun e w' he => ⟨he.1, SK.out _ _ (RegS.In.h _) he.2⟩)))) | quiet_step ((first | (go_at_call 70; with_reducible exact RegS.call (HST.out _) (fun e w' he => ⟨he.1, SK.out _ _ (RegS.In.h _) he.2⟩)) | (go_at_call 69; with_reducible exact RegS.call (HHI.out _) (fun e w' he => ⟨he.1, SK.out _ _ (RegS.In.h _) he.2⟩)))))
        refine wpQuiet_nil ?_
        intro _ hw'
        obtain ⟨⟨wz, hS⟩, hw''⟩ := hw'
        subst hw''
        have HBB := Lib.hid hS
        clear hS
        have HX2 := Lib.hid (HX2.out.below HBB.out.1)
        go_wp2
        go_roundw
        case rel => exact ⟨n + 1, by omega, by go_num, HZ, HX2.out, HBB.out.2⟩
        case measure => simp [intOf]; omega
    · have HZ : Hid (res = false) := Lib.hid (by rw [HE.out, HF.out]; have h := HN.out; rw [List.take_of_length_le (by omega)] at h; exact h)
      clear hb hx2
      go_wp2
      go_ret
      exact ⟨ret_b HZ.out.symm, HB.out⟩

end Go.Proofs.YtojmkdggkaocdaaGreatDoor.HtA
