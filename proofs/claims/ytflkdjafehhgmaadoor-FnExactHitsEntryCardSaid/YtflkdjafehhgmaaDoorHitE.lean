/-
  CONTRACTS of both sides' HitsEntry; nothing that was there before is changed.
-/
import Derived.Test.YtflkdjafehhgmaaDoorHit
import Derived.Deep.QuietTactic
namespace Go.Proofs.YtflkdjafehhgmaaDoor.Hit
open Go Go.RowKit
set_option linter.unusedVariables false
set_option maxRecDepth 1000000

/-- One of the purges hits the answer. -/
def hits (ps : List Pur.T) (key : List UInt8) (l : List Flds.Fld) (q : Int) : Bool := ps.any (fun f => hit f key l q)
theorem any_more {l : List Pur.T} {k : Nat} {p : Pur.T → Bool} (h : k < l.length) (h1 : (l.take k).any p = false) (h2 : p (l.getD k Pur.nov) = false) : (l.take (k + 1)).any p = false := by
  have e : l.getD k Pur.nov = l[k]'h := by simp [List.getD, h]
  rw [List.take_succ_eq_append_getElem h, List.any_append, h1, ← e]; simpa using h2
theorem any_hit {l : List Pur.T} {k : Nat} {p : Pur.T → Bool} (h : k < l.length) (h2 : p (l.getD k Pur.nov) = true) : l.any p = true := by
  have e : l.getD k Pur.nov = l[k]'h := by simp [List.getD, h]
  rw [List.any_eq_true]; exact ⟨_, List.getElem_mem h, by rw [← e]; exact h2⟩
theorem shape_p {w : World} {B : Nat} {v : Value} {l : List Pur.T} (h : Pur.Holds w B v l) : ∃ a cap, v = .slice a l.length cap ∧ (0 < l.length → ∃ b off, a = some ⟨b, off, none⟩ ∧ b < B ∧ l.length ≤ cap ∧ Pur.At w b off l) := by
  rcases h with ⟨rfl, a, cap, rfl⟩ | ⟨h0, b, off, cap, rfl, hb, hcap, hc⟩
  · exact ⟨a, cap, rfl, fun h => by simp at h⟩
  · exact ⟨_, cap, rfl, fun _ => ⟨b, off, rfl, hb, hcap, hc⟩⟩

set_option maxHeartbeats 8000000 in
theorem spec_he (v : Value) (B : Nat) (ps : List Pur.T) (k : List UInt8) (s : Value) (c : Int) (u : Value) (l : List Flds.Fld) (b : List UInt8) (p : Value) (n i g q : Int) (B' : Nat) (w : World) (h : Pur.Holds w B v ps) (hu : Flds.Holds w B' u l) (hB : B ≤ w.heap.size) (hB' : B' ≤ w.heap.size) (hps : ps.length ≤ 1048576) (hl : Flds.total l ≤ 1048576) :
    Calls Tryd.prog 6 #[v, .agg #[.string ⟨k.toArray⟩, s, .int .i64 c, u, .string ⟨b.toArray⟩, p, .int .i64 n, .int .i64 i, .int .i64 g, .int .i64 q]] w (BoolEnd (hits ps k l q) w) := by
  obtain ⟨a, cap, rfl, ha⟩ := shape_p h
  have HA := Lib.hid ha
  have HU := Lib.hid hu
  have hb0 : Below w.heap.size w (w.alloc (.cells #[.string ⟨k.toArray⟩, s, .int .i64 c, u, .string ⟨b.toArray⟩, p, .int .i64 n, .int .i64 i, .int .i64 g, .int .i64 q] 39)) := (Below.refl _ _).alloc (Nat.le_refl _) _
  have HB0 := Lib.hid hb0
  have HBX := Lib.hid (Kept.Box.new (w := w) (T := 39) (a := #[.string ⟨k.toArray⟩, s, .int .i64 c, u, .string ⟨b.toArray⟩, p, .int .i64 n, .int .i64 i, .int .i64 g, .int .i64 q]))
  have HF : Hid (hits ps k l q = ps.any (fun f => hit f k l q)) := Lib.hid rfl
  unfold BoolEnd
  generalize hits ps k l q = z at HF ⊢
  clear ha h hu hb0
  go_enter Tryd.func6, Tryd.ntmps6
  go_wp2
  go_loopw [5] (fun j wr => ∃ m : Nat, m ≤ ps.length ∧ j = .int .i64 (m : Int) ∧ Hid ((ps.take m).any (fun f => hit f k l q) = false) ∧ Below (w.alloc (.cells #[.string ⟨k.toArray⟩, s, .int .i64 c, u, .string ⟨b.toArray⟩, p, .int .i64 n, .int .i64 i, .int .i64 g, .int .i64 q] 39)).heap.size (w.alloc (.cells #[.string ⟨k.toArray⟩, s, .int .i64 c, u, .string ⟨b.toArray⟩, p, .int .i64 n, .int .i64 i, .int .i64 g, .int .i64 q] 39)) wr) (fun j _ => ps.length - (intOf j).toNat)
  case atStart => exact ⟨0, Nat.zero_le _, rfl, Lib.hid (by simp), Below.refl _ _⟩
  case round =>
    obtain ⟨m, hm, rfl, HN, hb⟩ := hrel
    have HB := Lib.hid hb
    have hbw := HB0.out.trans (hb.mono HB0.out.size)
    have HBW := Lib.hid hbw
    by_cases hlt : m < ps.length
    · obtain ⟨b', off, rfl, hbl, _, hat⟩ := HA.out (by omega)
      obtain ⟨c0, c1, c2⟩ := Pur.at_cells (Pur.at_below hat hbw (Nat.lt_of_lt_of_le hbl hB)) hlt
      have x0 := (HBX.out.below hb).cell 0 _ rfl
      have x3 := (HBX.out.below hb).cell 3 _ rfl
      have x7 := (HBX.out.below hb).cell 9 _ rfl
      have HM := Lib.hid (any_more (p := fun f => hit f k l q) hlt HN.out)
      have HH := Lib.hid (any_hit (p := fun f => hit f k l q) hlt)
      have HSD : Hid (GrowS w wr wr.drew) := Lib.hid ⟨Rec.below_drew (Below.refl _ _), Lib.hid (Rec.below_drew HBW.out)⟩
      have SG : Hid (∀ x, GrowS w wr x → Below (w.alloc (.cells #[.string ⟨k.toArray⟩, s, .int .i64 c, u, .string ⟨b.toArray⟩, p, .int .i64 n, .int .i64 i, .int .i64 g, .int .i64 q] 39)).heap.size (w.alloc (.cells #[.string ⟨k.toArray⟩, s, .int .i64 c, u, .string ⟨b.toArray⟩, p, .int .i64 n, .int .i64 i, .int .i64 g, .int .i64 q] 39)) x) := Lib.hid (fun x hx => Base.then_below HB.out hx.1)
      have SK : Hid (∀ w0 w1 : World, GrowS w wr w0 → Below w0.heap.size w0 w1 → GrowS w wr w1) := Lib.hid (fun _ _ h hb => ⟨h.1.trans (hb.mono h.1.size), Lib.hid (Base.then_below h.2.out hb)⟩)
      generalize ps.getD m Pur.nov = f at c0 c1 c2 HM HH
      have HC : Hid (∀ x, GrowS w wr x → Calls Tryd.prog 16 #[.agg #[.int .i64 f.1, .int .i64 f.2.1, .string ⟨f.2.2.toArray⟩], .string ⟨k.toArray⟩, u, .int .i64 q] x (BoolEnd (hit f k l q) x)) := Lib.hid (fun x hx => spec_hits f k u B' l q x (Flds.holds_below HU.out (hx.2.out.mono hB')) (Nat.le_trans hB' hx.2.out.size) hl)
      unfold BoolEnd at HC

      have f0 : ∀ x : RegS.In (GrowS w wr), x.w.cell? ⟨b', off + m * 3, none⟩ = some (.int .i64 f.1) := fun x => grow_old x.h c0
      have f1 : ∀ x : RegS.In (GrowS w wr), x.w.cell? ⟨b', off + m * 3 + 1, none⟩ = some (.int .i64 f.2.1) := fun x => grow_old x.h c1
      have f2 : ∀ x : RegS.In (GrowS w wr), x.w.cell? ⟨b', off + m * 3 + 2, none⟩ = some (.string ⟨f.2.2.toArray⟩) := fun x => grow_old x.h c2
      have e0 : ∀ x : RegS.In (GrowS w wr), x.w.cell? ⟨w.heap.size, 0, none⟩ = some (.string ⟨k.toArray⟩) := fun x => grow_old x.h x0
      have e3 : ∀ x : RegS.In (GrowS w wr), x.w.cell? ⟨w.heap.size, 3, none⟩ = some u := fun x => grow_old x.h x3
      have e9 : ∀ x : RegS.In (GrowS w wr), x.w.cell? ⟨w.heap.size, 9, none⟩ = some (.int .i64 q) := fun x => grow_old x.h x7
      have hki : (m : Int) < (ps.length : Int) := by omega
      clear hb hbw hat c0 c1 c2 x0 x3 x7
      generalize hq : hit f k l q = r at HC HM HH
      clear hq
      cases r with
      | true =>
        have HZ : Hid (z = true) := Lib.hid (by rw [HF.out]; exact HH.out rfl)
        clear HM HH HF HN
        go_wp2
        refine RegS.region (GrowS w wr) (by kernel_rfl) (by kernel_rfl) HSD.out ?_
        haveI : Nonempty (RegS.In (GrowS w wr)) := ⟨⟨_, HSD.out⟩⟩
        repeat (first | go_big_quiet_step ((go_at_call 16; with_reducible exact RegS.call (HC.out _ (RegS.In.h _)) (fun e w' he => ⟨he.1, SK.out _ _ (RegS.In.h _) he.2⟩))) | quiet_step ((go_at_call 16; with_reducible exact RegS.call (HC.out _ (RegS.In.h _)) (fun e w' he => ⟨he.1, SK.out _ _ (RegS.In.h _) he.2⟩))))
        refine wpQuiet_nil ?_
        intro _ hw'
        obtain ⟨⟨wz, hS⟩, hw''⟩ := hw'
        subst hw''
        have HBB := Lib.hid hS.2.out
        clear hS
        go_wp2
        go_ret
        exact ⟨ret_b HZ.out.symm, HBB.out⟩
      | false =>
        have HZ := Lib.hid (HM.out rfl)
        clear HM HH
        go_wp2
        refine RegS.region (GrowS w wr) (by kernel_rfl) (by kernel_rfl) HSD.out ?_
        haveI : Nonempty (RegS.In (GrowS w wr)) := ⟨⟨_, HSD.out⟩⟩
        repeat (first | go_big_quiet_step ((go_at_call 16; with_reducible exact RegS.call (HC.out _ (RegS.In.h _)) (fun e w' he => ⟨he.1, SK.out _ _ (RegS.In.h _) he.2⟩))) | quiet_step ((go_at_call 16; with_reducible exact RegS.call (HC.out _ (RegS.In.h _)) (fun e w' he => ⟨he.1, SK.out _ _ (RegS.In.h _) he.2⟩))))
        refine wpQuiet_nil ?_
        intro _ hw'
        obtain ⟨⟨wz, hS⟩, hw''⟩ := hw'
        subst hw''
        have HBB := Lib.hid (SG.out _ hS)
        clear hS
        go_wp2
        go_roundw
        case rel => exact ⟨m + 1, by omega, by go_num, HZ, HBB.out⟩
        case measure => simp [intOf]; omega
    · have HZ : Hid (z = false) := Lib.hid (by rw [HF.out]; have h := HN.out; rw [List.take_of_length_le (by omega)] at h; exact h)
      clear hb hbw
      go_wp2
      go_ret
      exact ⟨ret_b HZ.out.symm, HBW.out⟩

/-! The program's. -/
theorem impl_hme (f : Pur.T) (k : List UInt8) (s : Value) (c : Int) (u : Value) (l : List Flds.Fld) (b : List UInt8) (p : Value) (n i g q : Int) (B : Nat) (w : World) (hu : Flds.Holds w B u l) (hB : B ≤ w.heap.size) (hl : Flds.total l ≤ 1048576) (hm : Sh.MxL w) :
    Calls Tryd.prog 23 #[.agg #[.int .i64 f.1, .int .i64 f.2.1, .string ⟨f.2.2.toArray⟩], .agg #[.string ⟨k.toArray⟩, s, .int .i64 c, u, .string ⟨b.toArray⟩, p, .int .i64 n, .int .i64 i, .int .i64 g, .int .i64 q]] w (BoolEnd (hit f k l q) w) := by
  have hb0 : Below w.heap.size w ((w.alloc (.cells #[.int .i64 f.1, .int .i64 f.2.1, .string ⟨f.2.2.toArray⟩] 51)).alloc (.cells #[.string ⟨k.toArray⟩, s, .int .i64 c, u, .string ⟨b.toArray⟩, p, .int .i64 n, .int .i64 i, .int .i64 g, .int .i64 q] 39)) := ((Below.refl _ _).alloc (Nat.le_refl _) _).alloc (by simp) _
  have HB0 := Lib.hid hb0
  have HC := Lib.hid (impl_hits f k u B l q _ (Flds.holds_below hu (hb0.mono hB)) (Nat.le_trans hB hb0.size) hl (Sh.mxl_below hm hb0))
  unfold BoolEnd at HC ⊢
  generalize hit f k l q = z at HC ⊢
  clear hb0 hu
  go_enter Tryd.func23, Tryd.ntmps23
  go_wp2_with (fail)
  go_at_call 35
  refine HC.out.mono ?_
  rintro e w1 ⟨rfl, hb1⟩
  have HB1 := Lib.hid (HB0.out.trans (hb1.mono HB0.out.size))
  clear hb1
  go_wp2
  go_ret
  exact ⟨rfl, HB1.out⟩

/-- The entry that the closure has captured. -/
def Cap (w : World) (ge : Nat) (k : List UInt8) (s : Value) (c : Int) (u : Value) (b : List UInt8) (p : Value) (n i g q : Int) : Prop := w.cell? ⟨ge, 0, none⟩ = some (.string ⟨k.toArray⟩) ∧ w.cell? ⟨ge, 1, none⟩ = some (s) ∧ w.cell? ⟨ge, 2, none⟩ = some (.int .i64 c) ∧ w.cell? ⟨ge, 3, none⟩ = some (u) ∧ w.cell? ⟨ge, 4, none⟩ = some (.string ⟨b.toArray⟩) ∧ w.cell? ⟨ge, 5, none⟩ = some (p) ∧ w.cell? ⟨ge, 6, none⟩ = some (.int .i64 n) ∧ w.cell? ⟨ge, 7, none⟩ = some (.int .i64 i) ∧ w.cell? ⟨ge, 8, none⟩ = some (.int .i64 g) ∧ w.cell? ⟨ge, 9, none⟩ = some (.int .i64 q)
theorem cap_below {w w' : World} {ge : Nat} {k : List UInt8} {s : Value} {c : Int} {u : Value} {b : List UInt8} {p : Value} {n i g q : Int} (h : Cap w ge k s c u b p n i g q) (hb : Below w.heap.size w w') : Cap w' ge k s c u b p n i g q := by
  have hc := fun (j : Nat) (v : Value) (e : w.cell? ⟨ge, j, none⟩ = some v) => (hb.cell (p := ⟨ge, j, none⟩) (Rec.lt_of_cell e)).trans e
  obtain ⟨h0, h1, h2, h3, h4, h5, h6, h7, h8, h9⟩ := h
  exact ⟨hc _ _ h0, hc _ _ h1, hc _ _ h2, hc _ _ h3, hc _ _ h4, hc _ _ h5, hc _ _ h6, hc _ _ h7, hc _ _ h8, hc _ _ h9⟩

set_option maxHeartbeats 2000000 in
theorem clos (f : Pur.T) (ge : Nat) (k : List UInt8) (s : Value) (c : Int) (u : Value) (l : List Flds.Fld) (b : List UInt8) (p : Value) (n i g q : Int) (B : Nat) (w : World) (hu : Flds.Holds w B u l) (hB : B ≤ w.heap.size) (hl : Flds.total l ≤ 1048576) (hm : Sh.MxL w) (hc : Cap w ge k s c u b p n i g q) :
    Calls Tryd.prog 22 #[.agg #[.int .i64 f.1, .int .i64 f.2.1, .string ⟨f.2.2.toArray⟩], .pointer (some ⟨ge, 0, none⟩)] w (BoolEnd (hit f k l q) w) := by
  have hb0 : Below w.heap.size w (w.alloc (.cells #[.int .i64 f.1, .int .i64 f.2.1, .string ⟨f.2.2.toArray⟩] 51)) := (Below.refl _ _).alloc (Nat.le_refl _) _
  have HB0 := Lib.hid hb0
  obtain ⟨h0, h1, h2, h3, h4, h5, h6, h7, h8, h9⟩ := cap_below hc hb0
  have HC := Lib.hid (impl_hme f k s c u l b p n i g q B _ (Flds.holds_below hu (hb0.mono hB)) (Nat.le_trans hB hb0.size) hl (Sh.mxl_below hm hb0))
  unfold BoolEnd at HC ⊢
  obtain ⟨ua, ucap, rfl, _⟩ := Flds.shape_lget hu
  generalize hit f k l q = z at HC ⊢
  clear hb0 hu hc
  go_enter Tryd.func22, Tryd.ntmps22
  go_wp2_with (fail)
  go_at_call 23
  refine HC.out.mono ?_
  rintro e w1 ⟨rfl, hb1⟩
  have HB1 := Lib.hid (Base.then_below HB0.out hb1)
  clear hb1
  go_wp2
  go_ret
  exact ⟨rfl, HB1.out⟩

def IdxEnd (q : Bool) (w : World) (e : Ending) (w' : World) : Prop := ∃ z : Int, e = .returned (.int .i64 z) ∧ ((0 ≤ z ∧ q = true) ∨ (z < 0 ∧ q = false)) ∧ Below w.heap.size w w'

set_option maxHeartbeats 2000000 in
theorem idx (v : Value) (B : Nat) (ps : List Pur.T) (ge : Nat) (k : List UInt8) (s : Value) (c : Int) (u : Value) (l : List Flds.Fld) (b : List UInt8) (p : Value) (n i g q : Int) (B' : Nat) (w : World) (h : Pur.Holds w B v ps) (hu : Flds.Holds w B' u l) (hB : B ≤ w.heap.size) (hB' : B' ≤ w.heap.size) (hps : ps.length ≤ 1048576) (hl : Flds.total l ≤ 1048576) (hmx : Sh.MxL w) (hc : Cap w ge k s c u b p n i g q) :
    Calls Tryd.prog 34 #[v, .func (.func 22) #[] #[.pointer (some ⟨ge, 0, none⟩)]] w (IdxEnd (hits ps k l q) w) := by
  obtain ⟨a, cap, rfl, ha⟩ := shape_p h
  have HA := Lib.hid ha
  have HU := Lib.hid hu
  have HCP := Lib.hid hc
  have HMX := Lib.hid hmx
  have HF : Hid (hits ps k l q = ps.any (fun f => hit f k l q)) := Lib.hid rfl
  unfold IdxEnd
  generalize hits ps k l q = z at HF ⊢
  clear ha h hc hu hmx
  go_enter Tryd.func34, Tryd.ntmps34
  go_wp2
  go_loopw [8] (fun j wr => ∃ m : Nat, m ≤ ps.length ∧ j = .int .i64 (m : Int) ∧ Hid ((ps.take m).any (fun f => hit f k l q) = false) ∧ Below w.heap.size w wr) (fun j _ => ps.length - (intOf j).toNat)
  case atStart => exact ⟨0, Nat.zero_le _, rfl, Lib.hid (by simp), Below.refl _ _⟩
  case round =>
    obtain ⟨m, hm, rfl, HN, hb⟩ := hrel
    have HB := Lib.hid hb
    by_cases hlt : m < ps.length
    · obtain ⟨b', off, rfl, hbl, _, hat⟩ := HA.out (by omega)
      obtain ⟨c0, c1, c2⟩ := Pur.at_cells (Pur.at_below hat hb (Nat.lt_of_lt_of_le hbl hB)) hlt
      have HM := Lib.hid (any_more (p := fun f => hit f k l q) hlt HN.out)
      have HH := Lib.hid (any_hit (p := fun f => hit f k l q) hlt)
      generalize ps.getD m Pur.nov = f at c0 c1 c2 HM HH
      have HK := Lib.hid (clos f ge k s c u l b p n i g q B' wr (Flds.holds_below HU.out (hb.mono hB')) (Nat.le_trans hB' hb.size) hl (Sh.mxl_below HMX.out hb) (cap_below HCP.out hb))
      unfold BoolEnd at HK

      have hki : (m : Int) < (ps.length : Int) := by omega
      clear hb hat
      generalize hq : hit f k l q = r at HK HM HH
      clear hq
      go_wp2_with (fail)
      go_at_call 22
      refine HK.out.mono ?_
      rintro e w1 ⟨rfl, hb1⟩
      have HB1 := Lib.hid (Base.then_below HB.out hb1)
      clear hb1 c0 c1 c2
      cases r
      · have HR := Lib.hid (HM.out rfl)
        clear HM HH
        go_wp2
        go_roundw
        case rel => exact ⟨m + 1, by omega, by go_num, HR, HB1.out⟩
        case measure => simp [intOf]; omega
      · have HR := Lib.hid (HH.out rfl)
        clear HM HH
        go_wp2
        go_ret
        exact ⟨_, rfl, Or.inl ⟨by omega, HF.out.trans HR.out⟩, HB1.out⟩
    · have HR : Hid (ps.any (fun f => hit f k l q) = false) := Lib.hid (by have h := HN.out; rwa [List.take_of_length_le (by omega)] at h)
      clear hb
      go_wp2
      go_ret
      exact ⟨_, rfl, Or.inr ⟨by decide, HF.out.trans HR.out⟩, HB.out⟩

theorem con (v : Value) (B : Nat) (ps : List Pur.T) (ge : Nat) (k : List UInt8) (s : Value) (c : Int) (u : Value) (l : List Flds.Fld) (b : List UInt8) (p : Value) (n i g q : Int) (B' : Nat) (w : World) (h : Pur.Holds w B v ps) (hu : Flds.Holds w B' u l) (hB : B ≤ w.heap.size) (hB' : B' ≤ w.heap.size) (hps : ps.length ≤ 1048576) (hl : Flds.total l ≤ 1048576) (hmx : Sh.MxL w) (hc : Cap w ge k s c u b p n i g q) :
    Calls Tryd.prog 21 #[v, .func (.func 22) #[] #[.pointer (some ⟨ge, 0, none⟩)]] w (BoolEnd (hits ps k l q) w) := by
  have HI := Lib.hid (idx v B ps ge k s c u l b p n i g q B' w h hu hB hB' hps hl hmx hc)
  unfold IdxEnd at HI
  unfold BoolEnd
  generalize hits ps k l q = r at HI ⊢
  obtain ⟨a, cap, rfl, _⟩ := shape_p h
  clear h hc hu hmx
  go_enter Tryd.func21, Tryd.ntmps21
  go_wp2_with (fail)
  go_at_call 34
  refine HI.out.mono ?_
  rintro e w1 ⟨z, rfl, hz, hb⟩
  have HB := Lib.hid hb
  clear hb
  rcases hz with ⟨hz, rfl⟩ | ⟨hz, rfl⟩
  · go_wp2
    go_ret
    exact ⟨ret_b (by simp <;> omega), HB.out⟩
  · have hzn : ¬ 0 ≤ z := by omega
    go_wp2
    go_ret
    exact ⟨ret_b (by simp <;> omega), HB.out⟩

theorem impl_he (v : Value) (B : Nat) (ps : List Pur.T) (k : List UInt8) (s : Value) (c : Int) (u : Value) (l : List Flds.Fld) (b : List UInt8) (p : Value) (n i g q : Int) (B' : Nat) (w : World) (h : Pur.Holds w B v ps) (hu : Flds.Holds w B' u l) (hB : B ≤ w.heap.size) (hB' : B' ≤ w.heap.size) (hps : ps.length ≤ 1048576) (hl : Flds.total l ≤ 1048576) (hmx : Sh.MxL w) :
    Calls Tryd.prog 9 #[v, .agg #[.string ⟨k.toArray⟩, s, .int .i64 c, u, .string ⟨b.toArray⟩, p, .int .i64 n, .int .i64 i, .int .i64 g, .int .i64 q]] w (BoolEnd (hits ps k l q) w) := by
  have hmf : ∀ (fn : Fn) (first cap : Array Value) (w : World), (Instr.makeFunc fn first cap).run Tryd.prog w = .ok (.func fn first cap) w := fun _ _ _ _ => rfl
  have hb0 : Below w.heap.size w (w.alloc (.cells #[.string ⟨k.toArray⟩, s, .int .i64 c, u, .string ⟨b.toArray⟩, p, .int .i64 n, .int .i64 i, .int .i64 g, .int .i64 q] 39)) := (Below.refl _ _).alloc (Nat.le_refl _) _
  have HB0 := Lib.hid hb0
  have hbx := Kept.Box.new (w := w) (T := 39) (a := #[.string ⟨k.toArray⟩, s, .int .i64 c, u, .string ⟨b.toArray⟩, p, .int .i64 n, .int .i64 i, .int .i64 g, .int .i64 q])
  have HI := Lib.hid (con v B ps w.heap.size k s c u l b p n i g q B' _ (Pur.holds_below h (hb0.mono hB)) (Flds.holds_below hu (hb0.mono hB')) (Nat.le_trans hB hb0.size) (Nat.le_trans hB' hb0.size) hps hl (Sh.mxl_below hmx hb0) ⟨hbx.cell 0 _ rfl, hbx.cell 1 _ rfl, hbx.cell 2 _ rfl, hbx.cell 3 _ rfl, hbx.cell 4 _ rfl, hbx.cell 5 _ rfl, hbx.cell 6 _ rfl, hbx.cell 7 _ rfl, hbx.cell 8 _ rfl, hbx.cell 9 _ rfl⟩)
  unfold BoolEnd at HI ⊢
  generalize hits ps k l q = r at HI ⊢
  obtain ⟨a, cap, rfl, _⟩ := shape_p h
  clear h hu hmx hb0 hbx
  go_enter Tryd.func9, Tryd.ntmps9
  go_wp2_with (fail)
  go_at_call 21
  refine HI.out.mono ?_
  rintro e w1 ⟨rfl, hb⟩
  have HB := Lib.hid (HB0.out.trans (hb.mono HB0.out.size))
  clear hb
  go_wp2
  go_ret
  exact ⟨rfl, HB.out⟩
end Go.Proofs.YtflkdjafehhgmaaDoor.Hit
