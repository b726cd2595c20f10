/-
  CONTRACTS AND PLAIN FACTS, several texts in one; each says in its own words what it proves.
-/
import Derived.Test.YtojmkdggkaocdaaGreatDoorPvT
import Derived.Test.YtojmkdggkaocdaaGreatDoorPvU
import Derived.Test.YtojmkdggkaocdaaGreatDoorPvB
import Derived.Test.YtojmkdggkaocdaaGreatDoorPvD
import Derived.LoopTactic
import Derived.Outline

/-
  CONTRACTS of ChooseName, the model's and the program's: the first of the names that are liked best; nothing that was there before is changed.
-/
namespace Go.Proofs.YtojmkdggkaocdaaGreatDoor.Qua
open Go Go.RowKit
set_option linter.unusedVariables false
set_option maxRecDepth 1000000
set_option maxRecDepth 1000000

/-- The place of the best of the first k names. -/
def bix (f : List UInt8 → Int) (zs : List (List UInt8)) : Nat → Nat
  | 0 => 0
  | k + 1 => if f (zs.getD (bix f zs k) []) < f (zs.getD k []) then k else bix f zs k
theorem bix_lt (f : List UInt8 → Int) (zs : List (List UInt8)) : ∀ k, bix f zs k ≤ k - 1
  | 0 => Nat.le_refl _
  | k + 1 => by
    have := bix_lt f zs k
    unfold bix; split <;> omega
theorem bix_up {f : List UInt8 → Int} {zs : List (List UInt8)} {k : Nat} (h : f (zs.getD (bix f zs k) []) < f (zs.getD k [])) : bix f zs (k + 1) = k := by rw [bix, if_pos h]
theorem bix_keep {f : List UInt8 → Int} {zs : List (List UInt8)} {k : Nat} (h : ¬ f (zs.getD (bix f zs k) []) < f (zs.getD k [])) : bix f zs (k + 1) = bix f zs k := by rw [bix, if_neg h]
def bst (f : List UInt8 → Int) (zs : List (List UInt8)) (k : Nat) : List UInt8 := if k = 0 then [] else zs.getD (bix f zs k) []
def mst (f : List UInt8 → Int) (zs : List (List UInt8)) (k : Nat) : Int := if k = 0 then 0 else f (zs.getD (bix f zs k) [])
theorem step_up {f : List UInt8 → Int} {zs : List (List UInt8)} {k : Nat} (h : k = 0 ∨ mst f zs k < f (zs.getD k [])) : bst f zs (k + 1) = zs.getD k [] ∧ mst f zs (k + 1) = f (zs.getD k []) := by
  have e : zs.getD (bix f zs (k + 1)) [] = zs.getD k [] := by
    by_cases hk : k = 0
    · subst hk
      rw [show bix f zs (0 + 1) = 0 by rw [bix_keep]; rfl; show ¬ f (zs.getD 0 []) < f (zs.getD 0 []); omega]
    · rw [bix_up]; rcases h with h | h
      · exact absurd h hk
      · unfold mst at h; rw [if_neg hk] at h; exact h
  unfold bst mst
  rw [if_neg (by omega), if_neg (by omega), e]; exact ⟨rfl, rfl⟩
theorem step_keep {f : List UInt8 → Int} {zs : List (List UInt8)} {k : Nat} (hk : ¬ k = 0) (h : ¬ mst f zs k < f (zs.getD k [])) : bst f zs (k + 1) = bst f zs k ∧ mst f zs (k + 1) = mst f zs k := by
  have e : bix f zs (k + 1) = bix f zs k := by rw [bix_keep]; unfold mst at h; rw [if_neg hk] at h; exact h
  unfold bst mst
  rw [if_neg (show ¬ k + 1 = 0 by omega), if_neg (show ¬ k + 1 = 0 by omega), if_neg hk, if_neg hk, e]; exact ⟨rfl, rfl⟩
/-- The name that is chosen. -/
def cho (zs : List (List UInt8)) (s : List UInt8) : List UInt8 := bst (fun n => qof n (pqs s)) zs zs.length
def TxtEnd (r : List UInt8) (w : World) (e : Ending) (w' : World) : Prop := e = .returned (.string ⟨r.toArray⟩) ∧ Below w.heap.size w w'
theorem ret_t {a b : List UInt8} (h : a = b) : Ending.returned (.string ⟨a.toArray⟩) = .returned (.string ⟨b.toArray⟩) := by rw [h]
theorem shape_s {w : World} {B : Nat} {v : Value} {l : List (List UInt8)} (h : Strs.Holds w B v l) : ∃ a cap, v = .slice a l.length cap ∧ (0 < l.length → ∃ b off, a = some ⟨b, off, none⟩ ∧ b < B ∧ l.length ≤ cap ∧ Strs.At w b off l) := by
  rcases h with ⟨rfl, a, cap, rfl⟩ | ⟨h0, b, off, cap, rfl, hb, hcap, hc⟩
  · exact ⟨a, cap, rfl, fun h => by simp at h⟩
  · exact ⟨_, cap, rfl, fun _ => ⟨b, off, rfl, hb, hcap, hc⟩⟩

/-! the program -/
theorem clo (g : Nat) (v : Value) (B : Nat) (l : List T) (n : List UInt8) (w : World) (hc : w.cell? ⟨g, 0, none⟩ = some v) (h : Holds w B v l) (hB : B ≤ w.heap.size) (hl : l.length ≤ 4194304) :
    Calls Tryz.prog 110 #[.string ⟨n.toArray⟩, .pointer (some ⟨g, 0, none⟩)] w (QofEnd n l w) := by
  have HQ := Lib.hid (impl_qof v B l n w h hB hl)
  unfold QofEnd at HQ ⊢
  generalize qof n l = r at *
  obtain ⟨a, cap, rfl, _⟩ := shape h
  clear h
  go_enter Tryz.func110, Tryz.ntmps110
  go_wp2_with (fail)
  go_at_call 111
  refine HQ.out.mono ?_
  rintro e w1 ⟨rfl, hb⟩
  have HB := Lib.hid hb
  clear hb
  go_wp2
  go_ret
  exact ⟨rfl, HB.out⟩

def Enters (K : FuncId) : Prop := ∀ (args : Array Value) (w : World), Sem.run Tryz.prog (callFunc K args) w = .ok (.enter K args) w
set_option maxHeartbeats 4000000 in
theorem impl_best (K : FuncId) (q : Value) (vz : Value) (B : Nat) (zs : List (List UInt8)) (l : List T) (w : World) (hE : Enters K) (hC : ∀ (n : List UInt8) (W : World), Below w.heap.size w W → Calls Tryz.prog K #[.string ⟨n.toArray⟩, q] W (QofEnd n l W)) (hz : Strs.Holds w B vz zs) (hB : B ≤ w.heap.size) (hzl : zs.length ≤ 1048576) :
    Calls Tryz.prog 109 #[vz, .func (.func K) #[] #[q]] w (TxtEnd (bst (fun n => qof n l) zs zs.length) w) := by
  obtain ⟨a, cap, rfl, ha⟩ := shape_s hz
  have HA := Lib.hid ha
  have HEN := Lib.hid hE
  have HCL := Lib.hid hC
  unfold QofEnd at HCL
  have hff : ∀ n, qof n l = (fun n => qof n l) n := fun _ => rfl
  unfold TxtEnd
  generalize hf : (fun n => qof n l) = f at *
  have HFF := Lib.hid hff
  clear ha hz hC hE hf hff
  go_enter Tryz.func109, Tryz.ntmps109
  go_wp2
  go_loopw [5, 6, 12] (fun s m i wr => ∃ k : Nat, k ≤ zs.length ∧ i = .int .i64 (k : Int) ∧ s = .string ⟨(bst f zs k).toArray⟩ ∧ m = .int .i64 (mst f zs k) ∧ Below w.heap.size w wr) (fun _ _ i _ => zs.length - (intOf i).toNat)
  case atStart => exact ⟨0, Nat.zero_le _, rfl, rfl, rfl, Below.refl _ _⟩
  case round =>
    obtain ⟨k, hk, rfl, rfl, rfl, hb⟩ := hrel
    have HB := Lib.hid hb
    by_cases hlt : k < zs.length
    · obtain ⟨b, off, rfl, hbw, hcap, hc⟩ := HA.out (by omega)
      have c0 := Strs.at_below hc hb (Nat.lt_of_lt_of_le hbw hB) k hlt
      unfold Strs.sv at c0
      have HUP := Lib.hid (fun h => step_up (f := f) (zs := zs) (k := k) h)
      have HKP := Lib.hid (fun h1 h2 => step_keep (f := f) (zs := zs) (k := k) h1 h2)
      clear hb hc
      generalize zs.getD k [] = x at c0 HUP HKP
      have HX := Lib.hid (HCL.out x wr HB.out)
      rw [HFF.out x] at HX
      generalize f x = y at HX HUP HKP
      generalize bst f zs k = bk at *
      generalize mst f zs k = mk at *
      have hki : (k : Int) < (zs.length : Int) := by omega
      by_cases h0 : k = 0
      · have HE := Lib.hid (HUP.out (Or.inl h0))
        have h0' : (k : Int) = 0 := by omega
        have h0b : ((k : Int) == 0) = true := by rw [h0']; rfl
        have c0' : wr.cell? ⟨b, off, none⟩ = some (.string ⟨x.toArray⟩) := by have h9 := c0; rw [h0] at h9; exact h9
        have HK1 : Hid (((k + 1 : Nat) : Int) = 1) := Lib.hid (by omega)
        clear HUP HKP h0
        go_wp2_with (fail)
        rw [HEN.out, Oper.upon_enter]
        refine HX.out.mono ?_
        rintro e w1 ⟨rfl, hb1⟩
        have HB := Lib.hid (Base.then_below HB.out hb1)
        clear hb1
        go_wp2
        go_roundw
        case rel => exact ⟨k + 1, by omega, by first | go_num | (rw [HK1.out]; done) | (rw [HK1.out]; rfl) | (rw [HK1.out]; go_num), by rw [HE.out.1], by rw [HE.out.2], HB.out⟩
        case measure => simp [intOf]; omega
      · have h0' : ¬ (k : Int) = 0 := by omega
        have h0b : ((k : Int) == 0) = false := by rw [beq_eq_false_iff_ne]; exact h0'
        by_cases hm : mk < y
        · have HE := Lib.hid (HUP.out (Or.inr hm))
          clear HUP HKP h0
          go_wp2_with (fail)
          rw [HEN.out, Oper.upon_enter]
          refine HX.out.mono ?_
          rintro e w1 ⟨rfl, hb1⟩
          have HB := Lib.hid (Base.then_below HB.out hb1)
          clear hb1
          go_wp2
          go_roundw
          case rel => exact ⟨k + 1, by omega, by go_num, by rw [HE.out.1], by rw [HE.out.2], HB.out⟩
          case measure => simp [intOf]; omega
        · have HE := Lib.hid (HKP.out h0 hm)
          clear HUP HKP h0
          go_wp2_with (fail)
          rw [HEN.out, Oper.upon_enter]
          refine HX.out.mono ?_
          rintro e w1 ⟨rfl, hb1⟩
          have HB := Lib.hid (Base.then_below HB.out hb1)
          clear hb1
          go_wp2
          go_roundw
          case rel => exact ⟨k + 1, by omega, by go_num, by rw [HE.out.1], by rw [HE.out.2], HB.out⟩
          case measure => simp [intOf]; omega
    · obtain rfl : k = zs.length := by omega
      clear hb
      go_wp2
      go_ret
      exact ⟨rfl, HB.out⟩

set_option maxHeartbeats 4000000 in
theorem impl_cho (vz : Value) (B : Nat) (zs : List (List UInt8)) (s : List UInt8) (w : World) (hz : Strs.Holds w B vz zs) (hB : B ≤ w.heap.size) (hzl : zs.length ≤ 1048576) (hs : s.length ≤ 1048576) (he : Par.Errs w) (hm : Sh.MxL w) :
    Calls Tryz.prog 63 #[vz, .string ⟨s.toArray⟩] w (TxtEnd (cho zs s) w) := by
  have HP := Lib.hid (impl_pqs s w hs he hm)
  have hql : (pqs s).length ≤ 4194304 := by have h1 := quals_len (Tx.split s); have h2 := Tx.split_count s; unfold pqs; omega
  have HN := Lib.hid (fun (g : Nat) (v : Value) (B2 : Nat) (W : World) (hb : Below w.heap.size w W) (hc : W.cell? ⟨g, 0, none⟩ = some v) (h : Holds W B2 v (pqs s)) (hB2 : B2 ≤ W.heap.size) => impl_best 110 (.pointer (some ⟨g, 0, none⟩)) vz B zs (pqs s) W (fun args w => rfl) (fun n W2 hb2 => clo g v B2 (pqs s) n W2 ((hb2.cell (p := ⟨g, 0, none⟩) (Rec.lt_of_cell hc)).trans hc) (holds_below h (hb2.mono hB2)) (Nat.le_trans hB2 hb2.size) hql) (Strs.holds_below hz (hb.mono hB)) (Nat.le_trans hB hb.size) hzl)
  have HE : Hid (bst (fun n => qof n (pqs s)) zs zs.length = cho zs s) := Lib.hid rfl
  rw [HE.out] at HN
  unfold Parsed at HP
  unfold TxtEnd at HN ⊢
  generalize cho zs s = r at *
  obtain ⟨az, cz, rfl, _⟩ := shape_s hz
  clear HE hz he hm
  go_enter Tryz.func63, Tryz.ntmps63
  go_wp2_with (fail)
  go_at_call 108
  refine HP.out.mono ?_
  rintro e w1 ⟨v, rfl, ho, hb1⟩
  obtain ⟨a, cap, rfl, _⟩ := Rec.shape_at ho
  have HO := Lib.hid ho
  have HB := Lib.hid hb1
  clear ho hb1
  have HA := Lib.hid ((Below.refl w1.heap.size w1).alloc (Nat.le_refl _) (.cells #[.slice a (pqs s).length cap] 126))
  have HB2 := Lib.hid (Base.then_below HB.out HA.out)
  have HH := Lib.hid (own_holds (row_below HO.out HA.out))
  have HCC : Hid ((w1.alloc (.cells #[.slice a (pqs s).length cap] 126)).cell? ⟨w1.heap.size, 0, none⟩ = some (.slice a (pqs s).length cap)) := Lib.hid (by rw [World.cell?_alloc_new]; rfl)
  go_wp2_with (fail)
  go_at_call 109
  refine (HN.out _ _ _ _ HB2.out HCC.out HH.out (Nat.le_refl _)).mono ?_
  rintro e w2 ⟨rfl, hb2⟩
  have HB3 := Lib.hid (Base.then_below HB2.out hb2)
  clear hb2
  go_wp2
  go_ret
  exact ⟨rfl, HB3.out⟩

/-! the model -/
/-- The class of worlds behind what only makes memory. -/
def GrowS (w wr w' : World) : Prop := Below wr.heap.size wr w' ∧ Below w.heap.size w w'
theorem grow_start {w wr : World} (hb : Below w.heap.size w wr) : GrowS w wr wr.drew := ⟨Rec.below_drew (Below.refl _ _), Rec.below_drew hb⟩
theorem grow_call {w wr w0 w1 : World} (h : GrowS w wr w0) (hb : Below w0.heap.size w0 w1) : GrowS w wr w1 := ⟨h.1.trans (hb.mono h.1.size), Base.then_below h.2 hb⟩
theorem grow_old {w wr w' : World} (h : GrowS w wr w') {b o : Nat} {u : Value} (hc : wr.cell? ⟨b, o, none⟩ = some u) : w'.cell? ⟨b, o, none⟩ = some u := by
  rw [h.1.cell (p := ⟨b, o, none⟩) (Rec.lt_of_cell hc)]; exact hc

set_option maxHeartbeats 2000000 in
theorem spec_word (vz : Value) (B : Nat) (zs : List (List UInt8)) (k : Nat) (w : World) (hz : Strs.Holds w B vz zs) (hzl : zs.length ≤ 1048576) :
    Calls Tryz.prog 99 #[vz, .int .i64 (k : Int)] w fun e w' => e = .returned (.string ⟨(zs.getD k []).toArray⟩) ∧ w = w' := by
  obtain ⟨a, cap, rfl, ha⟩ := shape_s hz
  have hk0 : ¬ (k : Int) < 0 := by omega
  by_cases hlt : k < zs.length
  · obtain ⟨b, off, rfl, hbw, hcap, hc⟩ := ha (by omega)
    have c0 := hc k hlt
    unfold Strs.sv at c0
    have hki : ¬ (zs.length : Int) ≤ (k : Int) := by omega
    have hki2 : (k : Int) < (zs.length : Int) := by omega
    generalize zs.getD k [] = x at *
    clear hz ha hc
    go_enter Tryz.func99, Tryz.ntmps99
    go_wp2
    go_ret
    exact ⟨rfl, rfl⟩
  · have hx : Hid (zs.getD k [] = []) := Lib.hid (by simp [List.getD, List.getElem?_eq_none (show zs.length ≤ k by omega)])
    have hki : (zs.length : Int) ≤ (k : Int) := by omega
    clear hz ha
    go_enter Tryz.func99, Tryz.ntmps99
    go_wp2
    go_ret
    first | exact ⟨ret_t hx.out.symm, rfl⟩ | exact ⟨rfl, rfl⟩

set_option maxHeartbeats 4000000 in
theorem spec_cho (vz : Value) (B : Nat) (zs : List (List UInt8)) (s : List UInt8) (w : World) (hz : Strs.Holds w B vz zs) (hB : B ≤ w.heap.size) (hzl : zs.length ≤ 1048576) (hs : s.length ≤ 1048576) :
    Calls Tryz.prog 57 #[vz, .string ⟨s.toArray⟩] w (TxtEnd (cho zs s) w) := by
  have HP := Lib.hid (spec_pqs s w hs)
  have hql : (pqs s).length ≤ 4194304 := by have h1 := quals_len (Tx.split s); have h2 := Tx.split_count s; unfold pqs; omega
  have HWD := Lib.hid (fun (k : Nat) (W : World) (hb : Below w.heap.size w W) => spec_word vz B zs k W (Strs.holds_below hz (hb.mono hB)) hzl)
  have HE : Hid (bst (fun n => qof n (pqs s)) zs zs.length = cho zs s) := Lib.hid rfl
  unfold Parsed at HP
  unfold TxtEnd
  generalize cho zs s = r at *
  generalize pqs s = l at *
  obtain ⟨az, cz, rfl, ha⟩ := shape_s hz
  have HA := Lib.hid ha
  clear hz ha
  have hff : ∀ n, qof n l = (fun n => qof n l) n := fun _ => rfl
  have HQO := Lib.hid (fun (v : Value) (B2 : Nat) (n : List UInt8) (W : World) (h : Holds W B2 v l) (hB2 : B2 ≤ W.heap.size) => spec_qof v B2 l n W h hB2 hql)
  unfold QofEnd at HQO
  generalize hf : (fun n => qof n l) = f at *
  have HFF := Lib.hid hff
  clear hff hf
  go_enter Tryz.func57, Tryz.ntmps57
  go_wp2_with (fail)
  go_at_call 97
  refine HP.out.mono ?_
  rintro e w1 ⟨v, rfl, ho, hb1⟩
  obtain ⟨a, cap, rfl, _⟩ := Rec.shape_at ho
  have HO := Lib.hid (own_holds ho)
  have HB := Lib.hid hb1
  clear ho hb1
  go_wp2
  go_loopw [6, 7] (fun bb i wr => ∃ k : Nat, k ≤ zs.length ∧ i = .int .i64 (k : Int) ∧ bb = .int .i64 (bix f zs k : Int) ∧ Below w1.heap.size w1 wr ∧ Below w.heap.size w wr) (fun _ i _ => zs.length - (intOf i).toNat)
  case atStart => exact ⟨0, Nat.zero_le _, rfl, rfl, Below.refl _ _, HB.out⟩
  case round =>
    clear HB
    obtain ⟨k, hk, rfl, rfl, hb1, hb⟩ := hrel
    have HB := Lib.hid hb
    have HB1 := Lib.hid hb1
    by_cases hlt : k < zs.length
    · obtain ⟨b, off, rfl, hbw, hcap, hc⟩ := HA.out (by omega)
      have hbl := bix_lt f zs k
      have c0 := Strs.at_below hc hb (Nat.lt_of_lt_of_le hbw hB) k hlt
      have c1 := Strs.at_below hc hb (Nat.lt_of_lt_of_le hbw hB) (bix f zs k) (by omega)
      unfold Strs.sv at c0 c1
      have HUP := Lib.hid (fun h => bix_up (f := f) (zs := zs) (k := k) h)
      have HKP := Lib.hid (fun h => bix_keep (f := f) (zs := zs) (k := k) h)
      have hbi : ((bix f zs k : Nat) : Int) < (zs.length : Int) := by omega
      have hbi0 : (0 : Int) ≤ ((bix f zs k : Nat) : Int) := by omega
      clear hb hb1 hc hbl
      generalize zs.getD (bix f zs k) [] = y at c1 HUP HKP
      generalize zs.getD k [] = x at c0 HUP HKP
      generalize bix f zs k = bk at *
      have HSD := Lib.hid (grow_start HB.out)
      have SK : Hid (∀ w0 w1 : World, GrowS w wr w0 → Below w0.heap.size w0 w1 → GrowS w wr w1) := Lib.hid (fun _ _ h hb => grow_call h hb)
      have f0 : ∀ u : RegS.In (GrowS w wr), u.w.cell? ⟨b, off + k, none⟩ = some (.string ⟨x.toArray⟩) := fun u => grow_old u.h c0
      have f1 : ∀ u : RegS.In (GrowS w wr), u.w.cell? ⟨b, off + bk, none⟩ = some (.string ⟨y.toArray⟩) := fun u => grow_old u.h c1
      have HX : Hid (∀ u : RegS.In (GrowS w wr), Calls Tryz.prog 98 #[.slice a l.length cap, .string ⟨x.toArray⟩] u.w fun e w' => e = .returned (.int .i64 (f x)) ∧ Below u.w.heap.size u.w w') := Lib.hid (fun u => by
        rw [← HFF.out x]; exact HQO.out _ _ x u.w (holds_below HO.out (HB1.out.trans (u.h.1.mono HB1.out.size))) (Nat.le_trans HB1.out.size u.h.1.size))
      have HY : Hid (∀ u : RegS.In (GrowS w wr), Calls Tryz.prog 98 #[.slice a l.length cap, .string ⟨y.toArray⟩] u.w fun e w' => e = .returned (.int .i64 (f y)) ∧ Below u.w.heap.size u.w w') := Lib.hid (fun u => by
        rw [← HFF.out y]; exact HQO.out _ _ y u.w (holds_below HO.out (HB1.out.trans (u.h.1.mono HB1.out.size))) (Nat.le_trans HB1.out.size u.h.1.size))
      clear c0 c1 HQO
      generalize f x = fx at HX HUP HKP
      generalize f y = fy at HY HUP HKP
      have hki : (k : Int) < (zs.length : Int) := by omega
      by_cases hm : fy < fx
      · have HEE := Lib.hid (HUP.out hm)
        clear HUP HKP
        go_wp2
        refine RegS.region (GrowS w wr) (by kernel_rfl) (by kernel_rfl) HSD.out ?_
        haveI : Nonempty (RegS.In (GrowS w wr)) := ⟨⟨_, HSD.out⟩⟩
        repeat (first | go_big_quiet_step ((go_at_call 98; first | (with_reducible exact RegS.call (HX.out _) (fun e w' he => ⟨he.1, SK.out _ _ (RegS.In.h _) he.2⟩)) | (with_reducible exact RegS.call (HY.out _) (fun e w' he => ⟨he.1, SK.out _ _ (RegS.In.h _) he.2⟩)))) | quiet_step ((go_at_call 98; first | (with_reducible exact RegS.call (HX.out _) (fun e w' he => ⟨he.1, SK.out _ _ (RegS.In.h _) he.2⟩)) | (with_reducible exact RegS.call (HY.out _) (fun e w' he => ⟨he.1, SK.out _ _ (RegS.In.h _) he.2⟩)))))
        refine wpQuiet_nil ?_
        intro _ hw'
        obtain ⟨⟨wz, hS⟩, hw''⟩ := hw'
        subst hw''
        have HBB := Lib.hid hS
        clear hS
        go_wp2
        go_roundw
        case rel => exact ⟨k + 1, by omega, by go_num, by rw [HEE.out], HB1.out.trans (HBB.out.1.mono HB1.out.size), HBB.out.2⟩
        case measure => simp [intOf]; omega
      · have HEE := Lib.hid (HKP.out hm)
        clear HUP HKP
        go_wp2
        refine RegS.region (GrowS w wr) (by kernel_rfl) (by kernel_rfl) HSD.out ?_
        haveI : Nonempty (RegS.In (GrowS w wr)) := ⟨⟨_, HSD.out⟩⟩
        repeat (first | go_big_quiet_step ((go_at_call 98; first | (with_reducible exact RegS.call (HX.out _) (fun e w' he => ⟨he.1, SK.out _ _ (RegS.In.h _) he.2⟩)) | (with_reducible exact RegS.call (HY.out _) (fun e w' he => ⟨he.1, SK.out _ _ (RegS.In.h _) he.2⟩)))) | quiet_step ((go_at_call 98; first | (with_reducible exact RegS.call (HX.out _) (fun e w' he => ⟨he.1, SK.out _ _ (RegS.In.h _) he.2⟩)) | (with_reducible exact RegS.call (HY.out _) (fun e w' he => ⟨he.1, SK.out _ _ (RegS.In.h _) he.2⟩)))))
        refine wpQuiet_nil ?_
        intro _ hw'
        obtain ⟨⟨wz, hS⟩, hw''⟩ := hw'
        subst hw''
        have HBB := Lib.hid hS
        clear hS
        go_wp2
        go_roundw
        case rel => exact ⟨k + 1, by omega, by go_num, by rw [HEE.out], HB1.out.trans (HBB.out.1.mono HB1.out.size), HBB.out.2⟩
        case measure => simp [intOf]; omega
    · obtain rfl : k = zs.length := by omega
      have HF : Hid (zs.getD (bix f zs zs.length) [] = r) := Lib.hid (by
        rw [← HE.out]; unfold bst
        by_cases h0 : zs.length = 0
        · rw [if_pos h0, List.eq_nil_of_length_eq_zero h0]; rfl
        · rw [if_neg h0])
      clear hb hb1
      have HW2 := Lib.hid (HWD.out (bix f zs zs.length) wr HB.out)
      rw [HF.out] at HW2
      generalize bix f zs zs.length = bk at *
      clear HWD HQO
      go_wp2_with (fail)
      go_at_call 99
      refine HW2.out.mono ?_
      rintro e w2 ⟨rfl, rfl⟩
      go_wp2
      go_ret
      exact ⟨rfl, HB.out⟩
end Go.Proofs.YtojmkdggkaocdaaGreatDoor.Qua

/-
  CONTRACT of the program's filterFields, at any closure with one captured variable that only reads: it returns, in new memory, the fields that the closure keeps; nothing that was there before is changed.
-/
namespace Go.Proofs.YtojmkdggkaocdaaGreatDoor.Flds
open Go Go.RowKit
set_option linter.unusedVariables false
set_option maxRecDepth 1000000

theorem filt_more {p : Fld → Bool} {l : List Fld} {k : Nat} (h : k < l.length) : (l.take (k + 1)).filter p = if p (l.getD k nofld) = true then (l.take k).filter p ++ [l.getD k nofld] else (l.take k).filter p := by
  rw [List.take_succ_eq_append_getElem h, List.filter_append]
  have e : l.getD k nofld = l[k] := by simp [List.getD, h]
  rw [e]
  by_cases hp : p l[k] = true
  · simp [hp]
  · simp [hp]
theorem filt_le (p : Fld → Bool) (l : List Fld) (k : Nat) : ((l.take k).filter p).length ≤ l.length := by
  have h1 := List.length_filter_le p (l.take k); have h2 := List.length_take_le' k l; omega

def FilterEnd (l : List Fld) (w : World) (e : Ending) (w' : World) : Prop := ∃ v, e = .returned v ∧ Own w' w.heap.size v l ∧ Below w.heap.size w w'
/-- K is a function with a body. -/
def Enters (K : FuncId) : Prop := ∀ (args : Array Value) (w : World), Sem.run Tryz.prog (callFunc K args) w = .ok (.enter K args) w
/-- What a closure that keeps by 'p' does, at every world that has only grown. -/
def Keeps (K : FuncId) (q : Value) (p : Fld → Bool) (w : World) : Prop := ∀ (x y : List UInt8) (wx : World), Below w.heap.size w wx → Calls Tryz.prog K #[.agg #[.string ⟨x.toArray⟩, .string ⟨y.toArray⟩], q] wx fun e w' => e = .returned (.bool (p (x, y))) ∧ Below wx.heap.size wx w'

theorem filter_nil (K : FuncId) (q : Value) (a : Option Addr) (cap : Nat) (w : World) :
    Calls Tryz.prog 105 #[.slice a 0 cap, .func (.func K) #[] #[q]] w (FilterEnd [] w) := by
  go_enter Tryz.func105, Tryz.ntmps105
  go_wp2
  go_loop [5, 11] (fun v i => i = .int .i64 0 ∧ v = .slice (some ⟨w.heap.size, 0, none⟩) 0 0) (fun _ i => 0)
  case atStart => exact ⟨rfl, rfl⟩
  case round =>
    obtain ⟨rfl, rfl⟩ := hrel
    go_wp2
    go_ret
    exact ⟨_, rfl, own_lit_nil w, (Below.refl _ _).alloc (Nat.le_refl _) _⟩

theorem alloc_two (w : World) (x y : Value) (T : TypeId) : (w.alloc (.cells #[x, y] T)).cell? ⟨w.heap.size, 0, none⟩ = some x ∧ (w.alloc (.cells #[x, y] T)).cell? ⟨w.heap.size, 1, none⟩ = some y := ⟨by rw [World.cell?_alloc_new]; rfl, by rw [World.cell?_alloc_new]; rfl⟩

set_option maxHeartbeats 1000000 in
theorem filter_some (K : FuncId) (q : Value) (p : Fld → Bool) (b off cap : Nat) (l : List Fld) (w : World) (hE : Enters K) (hK : Keeps K q p w) (hc : At w b off l) (h0 : 0 < l.length) (hl : l.length ≤ 1048576) :
    Calls Tryz.prog 105 #[.slice (some ⟨b, off, none⟩) l.length cap, .func (.func K) #[] #[q]] w (FilterEnd (l.filter p) w) := by
  obtain ⟨i0, hi, hz0, hz1, hz2⟩ := info_parts info_fld
  have hbl := at_lt hc h0
  have HC := Lib.hid hc
  have HK := Lib.hid hK
  have HO := Lib.hid (own_lit_nil w)
  have HE := Lib.hid hE
  clear hc hK hE
  go_enter Tryz.func105, Tryz.ntmps105
  go_wp2
  go_loopw [5, 11] (fun v i wr => ∃ k : Nat, k ≤ l.length ∧ i = .int .i64 (k : Int) ∧ Own wr w.heap.size v ((l.take k).filter p) ∧ Below w.heap.size w wr) (fun _ i _ => l.length - (intOf i).toNat)
  case atStart => exact ⟨0, Nat.zero_le _, rfl, by rw [List.take_zero]; exact HO.out, (Below.refl _ _).alloc (Nat.le_refl _) _⟩
  case round =>
    clear HO
    obtain ⟨k, hk, rfl, hown, hb⟩ := hrel
    by_cases hlt : k < l.length
    · obtain ⟨c1, c2⟩ := at_below HC.out hb hbl k hlt
      have HM := Lib.hid (filt_more (p := p) hlt)
      generalize hx : l.getD k nofld = f at c1 c2 HM
      clear hx
      obtain ⟨x, y⟩ := f
      unfold sv at c1 c2
      have HB := Lib.hid hb
      have HO := Lib.hid hown
      clear hb hown
      have hws := HB.out.size
      have hwa := alloc_two wr (.string ⟨x.toArray⟩) (.string ⟨y.toArray⟩) 119
      have HKx := Lib.hid (HK.out x y (wr.alloc (.cells #[.string ⟨x.toArray⟩, .string ⟨y.toArray⟩] 119)) (HB.out.alloc HB.out.size _))
      by_cases hp : p (x, y) = true
      · rw [hp] at HKx
        rw [if_pos hp] at HM
        clear hp
        have hL := fcs_len ((l.take k).filter p)
        have HL := Lib.hid (filt_le p l k)
        go_wp2_with (fail)
        rw [HE.out, Oper.upon_enter]
        refine HKx.out.mono ?_
        rintro e w1 ⟨rfl, hb1⟩
        have hg1 := hb1.size
        rw [World.size_alloc] at hg1
        have d1 : w1.cell? ⟨wr.heap.size, 0, none⟩ = some (.string ⟨x.toArray⟩) := (hb1.cell (p := ⟨wr.heap.size, 0, none⟩) (by rw [World.size_alloc]; exact Nat.lt_succ_self _)).trans hwa.1
        have d2 : w1.cell? ⟨wr.heap.size, 1, none⟩ = some (.string ⟨y.toArray⟩) := (hb1.cell (p := ⟨wr.heap.size, 1, none⟩) (by rw [World.size_alloc]; exact Nat.lt_succ_self _)).trans hwa.2
        have hbb : Below wr.heap.size wr w1 := ((Below.refl wr.heap.size wr).alloc (Nat.le_refl _) _).trans (hb1.mono (by rw [World.size_alloc]; omega))
        have hown := own_below HO.out hbb
        have hb := HB.out.trans (hbb.mono HB.out.size)
        clear hb1 hbb
        go_wp2_with (at_builtin; refine wpList_append_own _ rfl (.tmp 18) (.tmp 20) 28 rfl w.heap.size 119 i0 (.agg #[.string ⟨#[]⟩, .string ⟨#[]⟩]) 2 32 Tryz.underlying28 hi hz0 hz1 hz2 rfl (by decide) _ _ _ rfl (hown.alloc _) ⟨w1.heap.size, 0, none⟩ 1 1 [.string ⟨x.toArray⟩, .string ⟨y.toArray⟩] rfl rfl (news_two _ _ _ _) (two_one (x, y)) (by have := HL.out; unfold maxLen; omega) (by have := HL.out; omega) (by have := hb.size; simp; omega) ?_; intro v1 w2 hown1 hg2 _)
        have R := Lib.hid (push_own (f := (x, y)) hown hb (Nat.le_refl _) hown1 hg2)
        clear hown hown1 hg2 hb
        go_wp2
        go_roundw
        case rel => exact ⟨k + 1, by omega, by go_num, by rw [HM.out]; exact R.out.1, R.out.2⟩
        case measure => simp [intOf]; omega
      · have hp' : p (x, y) = false := by simpa using hp
        rw [hp'] at HKx
        rw [if_neg hp] at HM
        clear hp hp'
        go_wp2_with (fail)
        rw [HE.out, Oper.upon_enter]
        refine HKx.out.mono ?_
        rintro e w1 ⟨rfl, hb1⟩
        have hbb : Below wr.heap.size wr w1 := ((Below.refl wr.heap.size wr).alloc (Nat.le_refl _) _).trans (hb1.mono (by rw [World.size_alloc]; omega))
        have HR := Lib.hid (And.intro (own_below HO.out hbb) (HB.out.trans (hbb.mono HB.out.size)))
        clear hb1 hbb
        go_wp2
        go_roundw
        case rel => exact ⟨k + 1, by omega, by go_num, by rw [HM.out]; exact HR.out.1, HR.out.2⟩
        case measure => simp [intOf]; omega
    · have HF : Hid ((l.take k).filter p = l.filter p) := Lib.hid (by rw [List.take_of_length_le (by omega)])
      have HO := Lib.hid (And.intro hown hb)
      clear hown hb
      go_wp2
      go_ret
      exact ⟨_, rfl, by rw [← HF.out]; exact HO.out.1, HO.out.2⟩

theorem filter_any (K : FuncId) (q : Value) (p : Fld → Bool) (v : Value) (B : Nat) (l : List Fld) (w : World) (hE : Enters K) (hK : Keeps K q p w) (h : Holds w B v l) (hl : l.length ≤ 1048576) :
    Calls Tryz.prog 105 #[v, .func (.func K) #[] #[q]] w (FilterEnd (l.filter p) w) := by
  rcases h with ⟨rfl, a, cap, rfl⟩ | ⟨h0, b, off, cap, rfl, _, _, hc⟩
  · exact filter_nil K q a cap w
  · exact filter_some K q p b off cap l w hE hK hc h0 hl

/-! The closures of GetField and DropField: one captured text. -/
theorem enters_get : Enters 106 := fun args w => rfl
end Go.Proofs.YtojmkdggkaocdaaGreatDoor.Flds
