/-
  CONTRACTS AND PLAIN FACTS, several texts in one; each says in its own words what it proves.
-/
import Derived.Test.YtegaakgmfphcaaaGreatDoorSelM
import Derived.Test.YtegaakgmfphcaaaGreatDoorSelA
set_option linter.unusedSimpArgs false
set_option linter.unusedVariables false

/-
  CONTRACTS of ChooseName, the model's and the program's: the first of the names that are liked best; nothing that was there before is changed.
-/
namespace Go.Proofs.YtegaakgmfphcaaaGreatDoor.Qua
open Go Go.RowKit
set_option linter.unusedVariables false
set_option maxRecDepth 1000000
set_option maxRecDepth 1000000

/-- The place of the best of the first k names. -/
def bix (f : List UInt8 → Int) (zs : List (List UInt8)) : Nat → Nat
  | 0 => 0
  | k + 1 => if f (zs.getD (bix f zs k) []) < f (zs.getD k []) then k else bix f zs k
theorem bix_lt (f : List UInt8 → Int) (zs : List (List UInt8)) : ∀ k, bix f zs k ≤ k - 1
  | 0 => Nat.le_refl _
  | k + 1 => by
    have := bix_lt f zs k
    unfold bix; split <;> omega
theorem bix_up {f : List UInt8 → Int} {zs : List (List UInt8)} {k : Nat} (h : f (zs.getD (bix f zs k) []) < f (zs.getD k [])) : bix f zs (k + 1) = k := by rw [bix, if_pos h]
theorem bix_keep {f : List UInt8 → Int} {zs : List (List UInt8)} {k : Nat} (h : ¬ f (zs.getD (bix f zs k) []) < f (zs.getD k [])) : bix f zs (k + 1) = bix f zs k := by rw [bix, if_neg h]
def bst (f : List UInt8 → Int) (zs : List (List UInt8)) (k : Nat) : List UInt8 := if k = 0 then [] else zs.getD (bix f zs k) []
def mst (f : List UInt8 → Int) (zs : List (List UInt8)) (k : Nat) : Int := if k = 0 then 0 else f (zs.getD (bix f zs k) [])
theorem step_up {f : List UInt8 → Int} {zs : List (List UInt8)} {k : Nat} (h : k = 0 ∨ mst f zs k < f (zs.getD k [])) : bst f zs (k + 1) = zs.getD k [] ∧ mst f zs (k + 1) = f (zs.getD k []) := by
  have e : zs.getD (bix f zs (k + 1)) [] = zs.getD k [] := by
    by_cases hk : k = 0
    · subst hk
      rw [show bix f zs (0 + 1) = 0 by rw [bix_keep]; rfl; show ¬ f (zs.getD 0 []) < f (zs.getD 0 []); omega]
    · rw [bix_up]; rcases h with h | h
      · exact absurd h hk
      · unfold mst at h; rw [if_neg hk] at h; exact h
  unfold bst mst
  rw [if_neg (by omega), if_neg (by omega), e]; exact ⟨rfl, rfl⟩
theorem step_keep {f : List UInt8 → Int} {zs : List (List UInt8)} {k : Nat} (hk : ¬ k = 0) (h : ¬ mst f zs k < f (zs.getD k [])) : bst f zs (k + 1) = bst f zs k ∧ mst f zs (k + 1) = mst f zs k := by
  have e : bix f zs (k + 1) = bix f zs k := by rw [bix_keep]; unfold mst at h; rw [if_neg hk] at h; exact h
  unfold bst mst
  rw [if_neg (show ¬ k + 1 = 0 by omega), if_neg (show ¬ k + 1 = 0 by omega), if_neg hk, if_neg hk, e]; exact ⟨rfl, rfl⟩
/-- The name that is chosen. -/
def cho (zs : List (List UInt8)) (s : List UInt8) : List UInt8 := bst (fun n => qof n (pqs s)) zs zs.length
def TxtEnd (r : List UInt8) (w : World) (e : Ending) (w' : World) : Prop := e = .returned (.string ⟨r.toArray⟩) ∧ Below w.heap.size w w'
theorem ret_t {a b : List UInt8} (h : a = b) : Ending.returned (.string ⟨a.toArray⟩) = .returned (.string ⟨b.toArray⟩) := by rw [h]
theorem shape_s {w : World} {B : Nat} {v : Value} {l : List (List UInt8)} (h : Strs.Holds w B v l) : ∃ a cap, v = .slice a l.length cap ∧ (0 < l.length → ∃ b off, a = some ⟨b, off, none⟩ ∧ b < B ∧ l.length ≤ cap ∧ Strs.At w b off l) := by
  rcases h with ⟨rfl, a, cap, rfl⟩ | ⟨h0, b, off, cap, rfl, hb, hcap, hc⟩
  · exact ⟨a, cap, rfl, fun h => by simp at h⟩
  · exact ⟨_, cap, rfl, fun _ => ⟨b, off, rfl, hb, hcap, hc⟩⟩

/-! the program -/
theorem clo (g : Nat) (v : Value) (B : Nat) (l : List T) (n : List UInt8) (w : World) (hc : w.cell? ⟨g, 0, none⟩ = some v) (h : Holds w B v l) (hB : B ≤ w.heap.size) (hl : l.length ≤ 4194304) :
    Calls Tryz.prog 34 #[.string ⟨n.toArray⟩, .pointer (some ⟨g, 0, none⟩)] w (QofEnd n l w) := by
  have HQ := Lib.hid (impl_qof v B l n w h hB hl)
  unfold QofEnd at HQ ⊢
  generalize qof n l = r at *
  obtain ⟨a, cap, rfl, _⟩ := shape h
  clear h
  go_enter Tryz.func34, Tryz.ntmps34
  go_wp2_with (fail)
  go_at_call 35
  refine HQ.out.mono ?_
  rintro e w1 ⟨rfl, hb⟩
  have HB := Lib.hid hb
  clear hb
  go_wp2
  go_ret
  exact ⟨rfl, HB.out⟩

def Enters (K : FuncId) : Prop := ∀ (args : Array Value) (w : World), Sem.run Tryz.prog (callFunc K args) w = .ok (.enter K args) w
set_option maxHeartbeats 4000000 in
theorem impl_best (K : FuncId) (q : Value) (vz : Value) (B : Nat) (zs : List (List UInt8)) (l : List T) (w : World) (hE : Enters K) (hC : ∀ (n : List UInt8) (W : World), Below w.heap.size w W → Calls Tryz.prog K #[.string ⟨n.toArray⟩, q] W (QofEnd n l W)) (hz : Strs.Holds w B vz zs) (hB : B ≤ w.heap.size) (hzl : zs.length ≤ 1048576) :
    Calls Tryz.prog 33 #[vz, .func (.func K) #[] #[q]] w (TxtEnd (bst (fun n => qof n l) zs zs.length) w) := by
  obtain ⟨a, cap, rfl, ha⟩ := shape_s hz
  have HA := Lib.hid ha
  have HEN := Lib.hid hE
  have HCL := Lib.hid hC
  unfold QofEnd at HCL
  have hff : ∀ n, qof n l = (fun n => qof n l) n := fun _ => rfl
  unfold TxtEnd
  generalize hf : (fun n => qof n l) = f at *
  have HFF := Lib.hid hff
  clear ha hz hC hE hf hff
  go_enter Tryz.func33, Tryz.ntmps33
  go_wp2
  go_loopw [5, 6, 12] (fun s m i wr => ∃ k : Nat, k ≤ zs.length ∧ i = .int .i64 (k : Int) ∧ s = .string ⟨(bst f zs k).toArray⟩ ∧ m = .int .i64 (mst f zs k) ∧ Below w.heap.size w wr) (fun _ _ i _ => zs.length - (intOf i).toNat)
  case atStart => exact ⟨0, Nat.zero_le _, rfl, rfl, rfl, Below.refl _ _⟩
  case round =>
    obtain ⟨k, hk, rfl, rfl, rfl, hb⟩ := hrel
    have HB := Lib.hid hb
    by_cases hlt : k < zs.length
    · obtain ⟨b, off, rfl, hbw, hcap, hc⟩ := HA.out (by omega)
      have c0 := Strs.at_below hc hb (Nat.lt_of_lt_of_le hbw hB) k hlt
      unfold Strs.sv at c0
      have HUP := Lib.hid (fun h => step_up (f := f) (zs := zs) (k := k) h)
      have HKP := Lib.hid (fun h1 h2 => step_keep (f := f) (zs := zs) (k := k) h1 h2)
      clear hb hc
      generalize zs.getD k [] = x at c0 HUP HKP
      have HX := Lib.hid (HCL.out x wr HB.out)
      rw [HFF.out x] at HX
      generalize f x = y at HX HUP HKP
      generalize bst f zs k = bk at *
      generalize mst f zs k = mk at *
      have hki : (k : Int) < (zs.length : Int) := by omega
      by_cases h0 : k = 0
      · have HE := Lib.hid (HUP.out (Or.inl h0))
        have h0' : (k : Int) = 0 := by omega
        have h0b : ((k : Int) == 0) = true := by rw [h0']; rfl
        have c0' : wr.cell? ⟨b, off, none⟩ = some (.string ⟨x.toArray⟩) := by have h9 := c0; rw [h0] at h9; exact h9
        have HK1 : Hid (((k + 1 : Nat) : Int) = 1) := Lib.hid (by omega)
        clear HUP HKP h0
        go_wp2_with (fail)
        rw [HEN.out, Oper.upon_enter]
        refine HX.out.mono ?_
        rintro e w1 ⟨rfl, hb1⟩
        have HB := Lib.hid (Base.then_below HB.out hb1)
        clear hb1
        go_wp2
        go_roundw
        case rel => exact ⟨k + 1, by omega, by first | go_num | (rw [HK1.out]; done) | (rw [HK1.out]; rfl) | (rw [HK1.out]; go_num), by rw [HE.out.1], by rw [HE.out.2], HB.out⟩
        case measure => simp [intOf]; omega
      · have h0' : ¬ (k : Int) = 0 := by omega
        have h0b : ((k : Int) == 0) = false := by rw [beq_eq_false_iff_ne]; exact h0'
        by_cases hm : mk < y
        · have HE := Lib.hid (HUP.out (Or.inr hm))
          clear HUP HKP h0
          go_wp2_with (fail)
          rw [HEN.out, Oper.upon_enter]
          refine HX.out.mono ?_
          rintro e w1 ⟨rfl, hb1⟩
          have HB := Lib.hid (Base.then_below HB.out hb1)
          clear hb1
          go_wp2
          go_roundw
          case rel => exact ⟨k + 1, by omega, by go_num, by rw [HE.out.1], by rw [HE.out.2], HB.out⟩
          case measure => simp [intOf]; omega
        · have HE := Lib.hid (HKP.out h0 hm)
          clear HUP HKP h0
          go_wp2_with (fail)
          rw [HEN.out, Oper.upon_enter]
          refine HX.out.mono ?_
          rintro e w1 ⟨rfl, hb1⟩
          have HB := Lib.hid (Base.then_below HB.out hb1)
          clear hb1
          go_wp2
          go_roundw
          case rel => exact ⟨k + 1, by omega, by go_num, by rw [HE.out.1], by rw [HE.out.2], HB.out⟩
          case measure => simp [intOf]; omega
    · obtain rfl : k = zs.length := by omega
      clear hb
      go_wp2
      go_ret
      exact ⟨rfl, HB.out⟩

set_option maxHeartbeats 4000000 in
theorem impl_cho (vz : Value) (B : Nat) (zs : List (List UInt8)) (s : List UInt8) (w : World) (hz : Strs.Holds w B vz zs) (hB : B ≤ w.heap.size) (hzl : zs.length ≤ 1048576) (hs : s.length ≤ 1048576) (he : Par.Errs w) (hm : Sh.MxL w) :
    Calls Tryz.prog 12 #[vz, .string ⟨s.toArray⟩] w (TxtEnd (cho zs s) w) := by
  have HP := Lib.hid (impl_pqs s w hs he hm)
  have hql : (pqs s).length ≤ 4194304 := by have h1 := quals_len (Tx.split s); have h2 := Tx.split_count s; unfold pqs; omega
  have HN := Lib.hid (fun (g : Nat) (v : Value) (B2 : Nat) (W : World) (hb : Below w.heap.size w W) (hc : W.cell? ⟨g, 0, none⟩ = some v) (h : Holds W B2 v (pqs s)) (hB2 : B2 ≤ W.heap.size) => impl_best 34 (.pointer (some ⟨g, 0, none⟩)) vz B zs (pqs s) W (fun args w => rfl) (fun n W2 hb2 => clo g v B2 (pqs s) n W2 ((hb2.cell (p := ⟨g, 0, none⟩) (Rec.lt_of_cell hc)).trans hc) (holds_below h (hb2.mono hB2)) (Nat.le_trans hB2 hb2.size) hql) (Strs.holds_below hz (hb.mono hB)) (Nat.le_trans hB hb.size) hzl)
  have HE : Hid (bst (fun n => qof n (pqs s)) zs zs.length = cho zs s) := Lib.hid rfl
  rw [HE.out] at HN
  unfold Parsed at HP
  unfold TxtEnd at HN ⊢
  generalize cho zs s = r at *
  obtain ⟨az, cz, rfl, _⟩ := shape_s hz
  clear HE hz he hm
  go_enter Tryz.func12, Tryz.ntmps12
  go_wp2_with (fail)
  go_at_call 32
  refine HP.out.mono ?_
  rintro e w1 ⟨v, rfl, ho, hb1⟩
  obtain ⟨a, cap, rfl, _⟩ := Rec.shape_at ho
  have HO := Lib.hid ho
  have HB := Lib.hid hb1
  clear ho hb1
  have HA := Lib.hid ((Below.refl w1.heap.size w1).alloc (Nat.le_refl _) (.cells #[.slice a (pqs s).length cap] 60))
  have HB2 := Lib.hid (Base.then_below HB.out HA.out)
  have HH := Lib.hid (own_holds (row_below HO.out HA.out))
  have HCC : Hid ((w1.alloc (.cells #[.slice a (pqs s).length cap] 60)).cell? ⟨w1.heap.size, 0, none⟩ = some (.slice a (pqs s).length cap)) := Lib.hid (by rw [World.cell?_alloc_new]; rfl)
  go_wp2_with (fail)
  go_at_call 33
  refine (HN.out _ _ _ _ HB2.out HCC.out HH.out (Nat.le_refl _)).mono ?_
  rintro e w2 ⟨rfl, hb2⟩
  have HB3 := Lib.hid (Base.then_below HB2.out hb2)
  clear hb2
  go_wp2
  go_ret
  exact ⟨rfl, HB3.out⟩

/-! the model -/
/-- The class of worlds behind what only makes memory. -/
def GrowS (w wr w' : World) : Prop := Below wr.heap.size wr w' ∧ Below w.heap.size w w'
theorem grow_start {w wr : World} (hb : Below w.heap.size w wr) : GrowS w wr wr.drew := ⟨Rec.below_drew (Below.refl _ _), Rec.below_drew hb⟩
theorem grow_call {w wr w0 w1 : World} (h : GrowS w wr w0) (hb : Below w0.heap.size w0 w1) : GrowS w wr w1 := ⟨h.1.trans (hb.mono h.1.size), Base.then_below h.2 hb⟩
theorem grow_old {w wr w' : World} (h : GrowS w wr w') {b o : Nat} {u : Value} (hc : wr.cell? ⟨b, o, none⟩ = some u) : w'.cell? ⟨b, o, none⟩ = some u := by
  rw [h.1.cell (p := ⟨b, o, none⟩) (Rec.lt_of_cell hc)]; exact hc

end Go.Proofs.YtegaakgmfphcaaaGreatDoor.Qua
