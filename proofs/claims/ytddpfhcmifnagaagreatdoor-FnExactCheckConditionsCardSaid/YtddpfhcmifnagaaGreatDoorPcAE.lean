/-
  CONTRACTS AND PLAIN FACTS, several texts in one; each says in its own words what it proves.
-/
import Derived.Test.YtddpfhcmifnagaaGreatDoorPcAA
import Derived.Test.YtddpfhcmifnagaaGreatDoorPcAD
import Derived.Test.YtddpfhcmifnagaaGreatDoorPcZ
import Derived.Test.YtddpfhcmifnagaaGreatDoorPcD
import Derived.Laws.EntriesVeiled

/-
  CONTRACTS of how the program finds a tag in a list of tags (namesTagOf, its closure, slices.ContainsFunc and IndexFunc at tags); what both sides mean by conditions. Nothing that was there before is changed.
-/
namespace Go.Proofs.YtddpfhcmifnagaaGreatDoor.Cnd
open Go Go.RowKit
set_option linter.unusedVariables false
set_option maxRecDepth 1000000

abbrev G : Type := Bool × List UInt8
def imN : List UInt8 := [105, 102, 45, 109, 97, 116, 99, 104]
def iuN : List UInt8 := [105, 102, 45, 117, 110, 109, 111, 100, 105, 102, 105, 101, 100, 45, 115, 105, 110, 99, 101]
def inN : List UInt8 := [105, 102, 45, 110, 111, 110, 101, 45, 109, 97, 116, 99, 104]
def isN : List UInt8 := [105, 102, 45, 109, 111, 100, 105, 102, 105, 101, 100, 45, 115, 105, 110, 99, 101]
/-- A list of tags in a field has the tag of the answer, or is a star. -/
def fits (sm : G → G → Bool) (n : List UInt8) (l m : List Flds.Fld) : Bool := (Tgs.ptl (Flds.got n l)).2.2 && ((Tgs.ptl (Flds.got n l)).2.1 || ((Rgh.atag m).2 && (Tgs.ptl (Flds.got n l)).1.any (fun t => sm t (Rgh.atag m).1)))
def reads (me : List UInt8) : Bool := me == [71, 69, 84] || me == [72, 69, 65, 68]
def BoolEnd (b : Bool) (w : World) (e : Ending) (w' : World) : Prop := e = .returned (.bool b) ∧ Below w.heap.size w w'
theorem ret_b {a b : Bool} (h : a = b) : Ending.returned (.bool a) = .returned (.bool b) := by rw [h]
/-- K compares two tags by sm. -/
structure Same (K : FuncId) (sm : G → G → Bool) : Prop where
  calls : ∀ x y u v W, Calls Tryz.prog K #[.agg #[.bool x, .string ⟨y.toArray⟩], .agg #[.bool u, .string ⟨v.toArray⟩]] W (BoolEnd (sm (x, y) (u, v)) W)
  enters : ∀ (args : Array Value) (w : World), Sem.run Tryz.prog (callFunc K args) w = .ok (.enter K args) w
theorem same_strong : Same 41 Tgs.samestrong := ⟨fun x y u v W => Tgs.impl_strong x y u v W, fun _ _ => rfl⟩
theorem same_weak : Same 76 Tgs.sameweak := ⟨fun x y u v W => Tgs.impl_weak x y u v W, fun _ _ => rfl⟩
/-- What the closure has captured. -/
def Cap (w : World) (K : FuncId) (g7 g14 : Nat) (u : Bool) (v : List UInt8) : Prop := w.cell? ⟨g7, 0, none⟩ = some (.func (.func K) #[] #[]) ∧ w.cell? ⟨g14, 0, none⟩ = some (.bool u) ∧ w.cell? ⟨g14, 1, none⟩ = some (.string ⟨v.toArray⟩)
theorem cap_below {w w' : World} {K : FuncId} {g7 g14 : Nat} {u : Bool} {v : List UInt8} (h : Cap w K g7 g14 u v) (hb : Below w.heap.size w w') : Cap w' K g7 g14 u v :=
  ⟨(hb.cell (p := ⟨g7, 0, none⟩) (Rec.lt_of_cell h.1)).trans h.1, (hb.cell (p := ⟨g14, 0, none⟩) (Rec.lt_of_cell h.2.1)).trans h.2.1, (hb.cell (p := ⟨g14, 1, none⟩) (Rec.lt_of_cell h.2.2)).trans h.2.2⟩

set_option maxHeartbeats 2000000 in
theorem clos (K : FuncId) (sm : G → G → Bool) (hK : Same K sm) (x : Bool) (y : List UInt8) (u : Bool) (v : List UInt8) (g7 g14 : Nat) (w : World) (hc : Cap w K g7 g14 u v) :
    Calls Tryz.prog 72 #[.agg #[.bool x, .string ⟨y.toArray⟩], .pointer (some ⟨g7, 0, none⟩), .pointer (some ⟨g14, 0, none⟩)] w (BoolEnd (sm (x, y) (u, v)) w) := by
  have hb0 : Below w.heap.size w (w.alloc (.cells #[.bool x, .string ⟨y.toArray⟩] 62)) := (Below.refl _ _).alloc (Nat.le_refl _) _
  have HB0 := Lib.hid hb0
  obtain ⟨c7, c0, c1⟩ := cap_below hc hb0
  have HK := Lib.hid (hK.calls x y u v)
  have HE := Lib.hid hK.enters
  unfold BoolEnd at HK ⊢
  generalize sm (x, y) (u, v) = z at HK ⊢
  clear hb0 hc hK
  go_enter Tryz.func72, Tryz.ntmps72
  go_wp2_with (fail)
  rw [HE.out, Oper.upon_enter]
  refine (HK.out _).mono ?_
  rintro e w1 ⟨rfl, hb1⟩
  have HB1 := Lib.hid (Base.then_below HB0.out hb1)
  clear hb1
  go_wp2
  go_ret
  exact ⟨rfl, HB1.out⟩

def IdxEnd (q : Bool) (w : World) (e : Ending) (w' : World) : Prop := ∃ z : Int, e = .returned (.int .i64 z) ∧ ((0 ≤ z ∧ q = true) ∨ (z < 0 ∧ q = false)) ∧ Below w.heap.size w w'
theorem any_more {l : List G} {k : Nat} {p : G → Bool} (h : k < l.length) (h1 : (l.take k).any p = false) (h2 : p (l.getD k Tgs.nov) = false) : (l.take (k + 1)).any p = false := by
  have e : l.getD k Tgs.nov = l[k]'h := by simp [List.getD, h]
  rw [List.take_succ_eq_append_getElem h, List.any_append, h1, ← e]; simpa using h2
theorem any_hit {l : List G} {k : Nat} {p : G → Bool} (h : k < l.length) (h2 : p (l.getD k Tgs.nov) = true) : l.any p = true := by
  have e : l.getD k Tgs.nov = l[k]'h := by simp [List.getD, h]
  rw [List.any_eq_true]; exact ⟨_, List.getElem_mem h, by rw [← e]; exact h2⟩
theorem shape_t {w : World} {B : Nat} {v : Value} {l : List G} (h : Tgs.Holds w B v l) : ∃ a cap, v = .slice a l.length cap ∧ (0 < l.length → ∃ b off, a = some ⟨b, off, none⟩ ∧ b < B ∧ l.length ≤ cap ∧ Tgs.At w b off l) := by
  rcases h with ⟨rfl, a, cap, rfl⟩ | ⟨h0, b, off, cap, rfl, hb, hcap, hc⟩
  · exact ⟨a, cap, rfl, fun h => by simp at h⟩
  · exact ⟨_, cap, rfl, fun _ => ⟨b, off, rfl, hb, hcap, hc⟩⟩

set_option maxHeartbeats 2000000 in
theorem idx_tag (K : FuncId) (sm : G → G → Bool) (hK : Same K sm) (vl : Value) (B : Nat) (l : List G) (u : Bool) (v : List UInt8) (g7 g14 : Nat) (w : World) (h : Tgs.Holds w B vl l) (hB : B ≤ w.heap.size) (hl : l.length ≤ 1048576) (hc : Cap w K g7 g14 u v) :
    Calls Tryz.prog 100 #[vl, .func (.func 72) #[] #[.pointer (some ⟨g7, 0, none⟩), .pointer (some ⟨g14, 0, none⟩)]] w (IdxEnd (l.any (fun t => sm t (u, v))) w) := by
  obtain ⟨a, cap, rfl, ha⟩ := shape_t h
  have HA := Lib.hid ha
  have HC := Lib.hid hc
  clear ha h hc
  go_enter Tryz.func100, Tryz.ntmps100
  go_wp2
  go_loopw [8] (fun i wr => ∃ k : Nat, k ≤ l.length ∧ i = .int .i64 (k : Int) ∧ Hid ((l.take k).any (fun t => sm t (u, v)) = false) ∧ Below w.heap.size w wr) (fun i _ => l.length - (intOf i).toNat)
  case atStart => exact ⟨0, Nat.zero_le _, rfl, Lib.hid (by simp), Below.refl _ _⟩
  case round =>
    obtain ⟨k, hk, rfl, HN, hb⟩ := hrel
    by_cases hlt : k < l.length
    · obtain ⟨b, off, rfl, hbl, _, hat⟩ := HA.out (by omega)
      obtain ⟨c0, c1⟩ := Tgs.at_cells (Tgs.at_below hat hb (Nat.lt_of_lt_of_le hbl hB)) hlt
      have HB := Lib.hid hb
      have HM := Lib.hid (any_more (p := fun t => sm t (u, v)) hlt HN.out)
      have HH := Lib.hid (any_hit (p := fun t => sm t (u, v)) hlt)
      have HCB := Lib.hid (cap_below HC.out hb)
      generalize l.getD k Tgs.nov = f at c0 c1 HM HH
      obtain ⟨x, y⟩ := f
      clear hb hat
      simp only at c0 c1
      have HK := Lib.hid (clos K sm hK x y u v g7 g14 wr HCB.out)
      unfold BoolEnd at HK
      have hki : (k : Int) < (l.length : Int) := by omega
      generalize hq : sm (x, y) (u, v) = q at HK
      have HQ := Lib.hid hq
      clear hq
      go_wp2_with (fail)
      go_at_call 72
      refine HK.out.mono ?_
      rintro e w1 ⟨rfl, hb1⟩
      have HB1 := Lib.hid (Base.then_below HB.out hb1)
      clear hb1 c0 c1
      cases q
      · have HR := Lib.hid (HM.out HQ.out)
        clear HM HH
        go_wp2
        go_roundw
        case rel => exact ⟨k + 1, by omega, by go_num, HR, HB1.out⟩
        case measure => simp [intOf]; omega
      · have HR := Lib.hid (HH.out HQ.out)
        clear HM HH
        go_wp2
        go_ret
        exact ⟨_, rfl, Or.inl ⟨by omega, HR.out⟩, HB1.out⟩
    · have HR : Hid (l.any (fun t => sm t (u, v)) = false) := Lib.hid (by have h := HN.out; rwa [List.take_of_length_le (by omega)] at h)
      have HB := Lib.hid hb
      clear hb
      go_wp2
      go_ret
      exact ⟨_, rfl, Or.inr ⟨by decide, HR.out⟩, HB.out⟩

theorem con_tag (K : FuncId) (sm : G → G → Bool) (hK : Same K sm) (vl : Value) (B : Nat) (l : List G) (u : Bool) (v : List UInt8) (g7 g14 : Nat) (w : World) (h : Tgs.Holds w B vl l) (hB : B ≤ w.heap.size) (hl : l.length ≤ 1048576) (hc : Cap w K g7 g14 u v) :
    Calls Tryz.prog 71 #[vl, .func (.func 72) #[] #[.pointer (some ⟨g7, 0, none⟩), .pointer (some ⟨g14, 0, none⟩)]] w (BoolEnd (l.any (fun t => sm t (u, v))) w) := by
  have HI := Lib.hid (idx_tag K sm hK vl B l u v g7 g14 w h hB hl hc)
  unfold IdxEnd at HI
  unfold BoolEnd
  generalize l.any (fun t => sm t (u, v)) = q at HI ⊢
  obtain ⟨a, cap, rfl, _⟩ := shape_t h
  clear h hc
  go_enter Tryz.func71, Tryz.ntmps71
  go_wp2_with (fail)
  go_at_call 100
  refine HI.out.mono ?_
  rintro e w1 ⟨z, rfl, hz, hb⟩
  have HB := Lib.hid hb
  clear hb
  rcases hz with ⟨hz, rfl⟩ | ⟨hz, rfl⟩
  · go_wp2
    go_ret
    exact ⟨ret_b (by simp <;> omega), HB.out⟩
  · have hzn : ¬ 0 ≤ z := by omega
    go_wp2
    go_ret
    exact ⟨ret_b (by simp <;> omega), HB.out⟩

set_option maxHeartbeats 4000000 in
theorem impl_names (K : FuncId) (sm : G → G → Bool) (hK : Same K sm) (c : Int) (v : Value) (m : List Flds.Fld) (b : List UInt8) (me ho t : List UInt8) (u : Value) (l : List Flds.Fld) (n : List UInt8) (B : Nat) (w : World) (h : Flds.Holds w B v m) (h2 : Flds.Holds w B u l) (hB : B ≤ w.heap.size) (hm : Flds.total m ≤ 1048576) (hl : Flds.total l ≤ 1048576) (hn : 1 ≤ n.length) :
    Calls Tryz.prog 40 #[.agg #[.int .i64 c, v, .string ⟨b.toArray⟩], .agg #[.string ⟨me.toArray⟩, .string ⟨ho.toArray⟩, .string ⟨t.toArray⟩, u], .string ⟨n.toArray⟩, .func (.func K) #[] #[]] w (BoolEnd (fits sm n l m) w) := by
  have hb0 : Below w.heap.size w (((w.alloc (.cells #[.int .i64 c, v, .string ⟨b.toArray⟩] 35)).alloc (.cells #[.string ⟨me.toArray⟩, .string ⟨ho.toArray⟩, .string ⟨t.toArray⟩, u] 32)).alloc (.cells #[.func (.func K) #[] #[]] 73)) := ((((Below.refl _ _).alloc (Nat.le_refl _) _).alloc (by simp) _).alloc (by simp; omega) _)
  have HB0 := Lib.hid hb0
  have HKP : Hid (∀ W, Below (((w.alloc (.cells #[.int .i64 c, v, .string ⟨b.toArray⟩] 35)).alloc (.cells #[.string ⟨me.toArray⟩, .string ⟨ho.toArray⟩, .string ⟨t.toArray⟩, u] 32)).alloc (.cells #[.func (.func K) #[] #[]] 73)).heap.size (((w.alloc (.cells #[.int .i64 c, v, .string ⟨b.toArray⟩] 35)).alloc (.cells #[.string ⟨me.toArray⟩, .string ⟨ho.toArray⟩, .string ⟨t.toArray⟩, u] 32)).alloc (.cells #[.func (.func K) #[] #[]] 73)) W →
      (W.cell? ⟨w.heap.size, 0, none⟩ = some (.int .i64 c) ∧ W.cell? ⟨w.heap.size, 1, none⟩ = some v ∧ W.cell? ⟨w.heap.size, 2, none⟩ = some (.string ⟨b.toArray⟩)) ∧ W.cell? ⟨w.heap.size + 1 + 1, 0, none⟩ = some (.func (.func K) #[] #[]) ∧ Below w.heap.size w W) := Lib.hid (fun W hb => by
    have h3 := Kept.three hb
    have h1 := Kept.one (Kept.below_in (Kept.below_in hb))
    exact ⟨⟨h1.1 0 _ rfl, h1.1 1 _ rfl, h1.1 2 _ rfl⟩, h3.1 0 _ rfl, hb0.trans (hb.mono hb0.size)⟩)
  have hg := Rgh.got_short hn l
  have HG := Lib.hid (Flds.impl_get u B l n _ (Flds.holds_below h2 (hb0.mono hB)) (Nat.le_trans hB hb0.size) hl)
  have HP := Lib.hid (fun W => Tgs.impl_lst (Flds.got n l) W (by omega))
  have HT := Lib.hid (fun W (hb : Below w.heap.size w W) => Rgh.impl_atag c v B m b W (Flds.holds_below h (hb.mono hB)) (Nat.le_trans hB hb.size) hm)
  have HLN := Lib.hid (Tgs.ptl_len (Flds.got n l))
  have HCN := Lib.hid (fun vl B' L u' v' g7 g14 W (a : Tgs.Holds W B' vl L) (d : B' ≤ W.heap.size) (e : L.length ≤ 8) f => con_tag K sm hK vl B' L u' v' g7 g14 W a d (by omega) f)
  have HO : Hid (fits sm n l m = ((Tgs.ptl (Flds.got n l)).2.2 && ((Tgs.ptl (Flds.got n l)).2.1 || ((Rgh.atag m).2 && (Tgs.ptl (Flds.got n l)).1.any (fun t => sm t (Rgh.atag m).1))))) := Lib.hid rfl
  unfold Flds.GetEnd at HG
  unfold Tgs.LstEnd at HP
  unfold Rgh.TagEnd at HT
  unfold BoolEnd at HCN ⊢
  have hj : Tx.join (Flds.vals n l) = Flds.got n l := rfl
  rw [hj] at HG
  generalize fits sm n l m = z at HO ⊢
  generalize Flds.got n l = s at HG HP HLN HO
  generalize decide (0 < (Flds.vals n l).length) = hq at HG
  generalize Tgs.ptl s = p at HP HLN HO
  generalize Rgh.atag m = tg at HT HO
  obtain ⟨L, anyT, ok⟩ := p
  obtain ⟨⟨ux, vx⟩, hs⟩ := tg
  simp only at HP HLN HO HT
  clear h h2 hl hm hg hj hb0 hn
  go_enter Tryz.func40, Tryz.ntmps40
  go_wp2_with (fail)
  go_at_call 68
  refine HG.out.mono ?_
  rintro e w1 ⟨rfl, hb1⟩
  have HR1 := Lib.hid hb1
  clear hb1
  go_wp2_with (fail)
  go_at_call 69
  refine (HP.out _).mono ?_
  rintro e w2 ⟨vL, rfl, oL, hb2⟩
  obtain ⟨aL, cL, rfl, _⟩ := Rec.shape_at oL
  have HR2 := Lib.hid (Base.then_below HR1.out hb2)
  have HOL := Lib.hid oL
  clear hb2 oL
  obtain ⟨⟨x0, x1, x2⟩, _, hbw⟩ := HKP.out _ HR2.out
  have HBW := Lib.hid hbw
  clear hbw
  go_wp2_with (fail)
  go_at_call 70
  refine (HT.out _ HBW.out).mono ?_
  rintro e w3 ⟨rfl, hb3⟩
  have HR3 := Lib.hid (Base.then_below HR2.out hb3)
  have HOL3 := Lib.hid (Tgs.row_below HOL.out hb3)
  clear hb3 x0 x1 x2
  obtain ⟨_, k7, hbw3⟩ := HKP.out _ HR3.out
  have HBW3 := Lib.hid hbw3
  have hb4 : Below w3.heap.size w3 (w3.alloc (.cells #[.bool ux, .string ⟨vx.toArray⟩] 62)) := (Below.refl _ _).alloc (Nat.le_refl _) _
  have HB4 := Lib.hid (Base.then_below HBW3.out hb4)
  have HCP : Hid (Cap (w3.alloc (.cells #[.bool ux, .string ⟨vx.toArray⟩] 62)) K (w.heap.size + 1 + 1) w3.heap.size ux vx) := Lib.hid ⟨(hb4.cell (p := ⟨w.heap.size + 1 + 1, 0, none⟩) (Rec.lt_of_cell k7)).trans k7, by rw [World.cell?_alloc_new]; rfl, by rw [World.cell?_alloc_new]; rfl⟩
  have HL4 := Lib.hid (Tgs.holds_below (Tgs.own_holds HOL3.out) hb4)
  have HC4 := Lib.hid (HCN.out _ _ L ux vx _ _ _ HL4.out hb4.size HLN.out HCP.out)
  clear hbw3 k7 hb4 HL4
  generalize L.any (fun t => sm t (ux, vx)) = q at HC4 HO
  cases ok
  · go_wp2
    go_ret
    exact ⟨ret_b (by rw [HO.out]; rfl), HB4.out⟩
  cases anyT
  · cases hs
    · go_wp2
      go_ret
      exact ⟨ret_b (by rw [HO.out]; rfl), HB4.out⟩
    · have HF : Hid (z = q) := Lib.hid (by rw [HO.out]; simp)
      go_wp2_with (fail)
      go_at_call 71
      refine HC4.out.mono ?_
      rintro e w5 ⟨rfl, hb5⟩
      have HB5 := Lib.hid (Base.then_below HB4.out hb5)
      clear hb5
      go_wp2
      go_ret
      exact ⟨ret_b HF.out.symm, HB5.out⟩
  · go_wp2
    go_ret
    exact ⟨ret_b (by rw [HO.out]; rfl), HB4.out⟩
end Go.Proofs.YtddpfhcmifnagaaGreatDoor.Cnd
