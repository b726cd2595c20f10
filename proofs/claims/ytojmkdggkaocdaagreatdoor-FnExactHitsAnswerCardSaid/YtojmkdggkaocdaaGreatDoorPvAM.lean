/-
  CONTRACTS AND PLAIN FACTS, several texts in one; each says in its own words what it proves.
-/
import Derived.Test.YtojmkdggkaocdaaGreatDoorPvW
import Derived.Test.YtojmkdggkaocdaaGreatDoorPvAL
import Derived.Test.YtojmkdggkaocdaaGreatDoorPvL
import Derived.Test.YtojmkdggkaocdaaGreatDoorPvA
import Derived.LoopTactic
import Derived.Outline

/-
  CONTRACTS of MergeFields, the model's and the program's: in new memory, the fields whose name the newer ones do not have, followed by the newer ones; nothing that was there before is changed.
-/
namespace Go.Proofs.YtojmkdggkaocdaaGreatDoor.Flds
open Go Go.RowKit
set_option linter.unusedVariables false
set_option maxRecDepth 1000000

def has (nw : List Fld) (n : List UInt8) : Bool := nw.any (fun f => f.1 == n)
theorem has_vals (nw : List Fld) (n : List UInt8) : decide (0 < (vals n nw).length) = has nw n := by
  unfold vals has
  rw [List.length_map]
  induction nw with
  | nil => rfl
  | cons a r ih =>
    by_cases h : (a.1 == n) = true
    · rw [List.filter_cons_of_pos (by exact h), List.any_cons, h]; simp
    · rw [List.filter_cons_of_neg (by exact h), List.any_cons, ih]; simp [h]
def keepm (nw l : List Fld) : List Fld := l.filter (fun f => !has nw f.1)
def merged (l nw : List Fld) : List Fld := keepm nw l ++ nw
theorem keepm_le (nw l : List Fld) : (keepm nw l).length ≤ l.length := List.length_filter_le _ _
theorem keepm_more {nw l : List Fld} {k : Nat} (h : k < l.length) : keepm nw (l.take (k + 1)) = if has nw (l.getD k nofld).1 = true then keepm nw (l.take k) else keepm nw (l.take k) ++ [l.getD k nofld] := by
  unfold keepm
  rw [filt_more h]
  by_cases e : has nw (l.getD k nofld).1 = true
  · rw [if_pos e, if_neg (by rw [e]; decide)]
  · rw [if_neg e, if_pos (by simpa using e)]

/-! slices.IndexFunc and slices.ContainsFunc at a closure that only reads -/
theorem any_more {p : Fld → Bool} {l : List Fld} {k : Nat} (h : k < l.length) : (l.take (k + 1)).any p = ((l.take k).any p || p (l.getD k nofld)) := by
  rw [List.take_succ_eq_append_getElem h, List.any_append, show l.getD k nofld = l[k] by simp [List.getD, h]]; simp
theorem any_take {p : Fld → Bool} {l : List Fld} {k : Nat} (h : (l.take k).any p = true) : l.any p = true := by
  rw [List.any_eq_true] at h ⊢
  obtain ⟨x, hx, hp⟩ := h
  exact ⟨x, List.mem_of_mem_take hx, hp⟩
def IdxEnd (p : Fld → Bool) (l : List Fld) (w : World) (e : Ending) (w' : World) : Prop := ∃ z : Int, e = .returned (.int .i64 z) ∧ ((0 ≤ z ∧ l.any p = true) ∨ (z < 0 ∧ l.any p = false)) ∧ Below w.heap.size w w'

set_option maxRecDepth 1000000 in
theorem idx_nil (K : FuncId) (q : Value) (p : Fld → Bool) (a : Option Addr) (cap : Nat) (w : World) :
    Calls Tryz.prog 231 #[.slice a 0 cap, .func (.func K) #[] #[q]] w (IdxEnd p [] w) := by
  go_enter Tryz.func231, Tryz.ntmps231
  go_wp2
  go_loop [8] (fun i => i = .int .i64 0) (fun i => 0)
  case atStart => rfl
  case round =>
    obtain rfl := hrel
    go_wp2
    go_ret
    exact ⟨_, rfl, Or.inr ⟨by decide, rfl⟩, Below.refl _ _⟩

set_option maxRecDepth 1000000 in
set_option maxHeartbeats 1000000 in
theorem idx_some (K : FuncId) (q : Value) (p : Fld → Bool) (b off cap : Nat) (l : List Fld) (w : World) (hE : Enters K) (hK : Keeps K q p w) (hc : At w b off l) (h0 : 0 < l.length) (hl : l.length ≤ 1048576) :
    Calls Tryz.prog 231 #[.slice (some ⟨b, off, none⟩) l.length cap, .func (.func K) #[] #[q]] w (IdxEnd p l w) := by
  have hbl := at_lt hc h0
  have HC := Lib.hid hc
  have HK := Lib.hid hK
  have HE := Lib.hid hE
  clear hc hK hE
  go_enter Tryz.func231, Tryz.ntmps231
  go_wp2
  go_loopw [8] (fun i wr => ∃ k : Nat, k ≤ l.length ∧ i = .int .i64 (k : Int) ∧ Hid ((l.take k).any p = false) ∧ Below w.heap.size w wr) (fun i _ => l.length - (intOf i).toNat)
  case atStart => exact ⟨0, Nat.zero_le _, rfl, rfl, Below.refl _ _⟩
  case round =>
    obtain ⟨k, hk, rfl, hn, hb⟩ := hrel
    by_cases hlt : k < l.length
    · obtain ⟨c1, c2⟩ := at_below HC.out hb hbl k hlt
      have HM := Lib.hid (any_more (p := p) hlt)
      generalize l.getD k nofld = f at c1 c2 HM
      obtain ⟨x, y⟩ := f
      unfold sv at c1 c2
      have HB := Lib.hid hb
      have HKx := Lib.hid (HK.out x y wr hb)
      clear hb
      by_cases hp : p (x, y) = true
      · have HT : Hid (l.any p = true) := Lib.hid (any_take (k := k + 1) (by rw [HM.out, hp]; simp))
        rw [hp] at HKx
        clear hp HM hn
        go_wp2_with (fail)
        rw [HE.out, Oper.upon_enter]
        refine HKx.out.mono ?_
        rintro e w1 ⟨rfl, hb1⟩
        have HB1 := Lib.hid (Base.then_below HB.out hb1)
        clear hb1
        go_wp2
        go_ret
        exact ⟨_, rfl, Or.inl ⟨by omega, HT.out⟩, HB1.out⟩
      · have hp' : p (x, y) = false := by simpa using hp
        have HT : Hid ((l.take (k + 1)).any p = false) := Lib.hid (by rw [HM.out, hn.out, hp']; rfl)
        rw [hp'] at HKx
        clear hp hp' HM hn
        go_wp2_with (fail)
        rw [HE.out, Oper.upon_enter]
        refine HKx.out.mono ?_
        rintro e w1 ⟨rfl, hb1⟩
        have HB1 := Lib.hid (Base.then_below HB.out hb1)
        clear hb1
        go_wp2
        go_roundw
        case rel => exact ⟨k + 1, by omega, by go_num, HT.out, HB1.out⟩
        case measure => simp [intOf]; omega
    · have HT : Hid (l.any p = false) := Lib.hid (by have h := hn.out; rwa [List.take_of_length_le (by omega)] at h)
      go_wp2
      go_ret
      exact ⟨_, rfl, Or.inr ⟨by decide, HT.out⟩, hb⟩

theorem idx_any (K : FuncId) (q : Value) (p : Fld → Bool) (v : Value) (B : Nat) (l : List Fld) (w : World) (hE : Enters K) (hK : Keeps K q p w) (h : Holds w B v l) (hl : l.length ≤ 1048576) :
    Calls Tryz.prog 231 #[v, .func (.func K) #[] #[q]] w (IdxEnd p l w) := by
  rcases h with ⟨rfl, a, cap, rfl⟩ | ⟨h0, b, off, cap, rfl, _, _, hc⟩
  · exact idx_nil K q p a cap w
  · exact idx_some K q p b off cap l w hE hK hc h0 hl

set_option maxRecDepth 1000000 in
theorem contains_any (K : FuncId) (q : Value) (p : Fld → Bool) (v : Value) (B : Nat) (l : List Fld) (w : World) (hE : Enters K) (hK : Keeps K q p w) (h : Holds w B v l) (hl : l.length ≤ 1048576) :
    Calls Tryz.prog 192 #[v, .func (.func K) #[] #[q]] w fun e w' => e = .returned (.bool (l.any p)) ∧ Below w.heap.size w w' := by
  have HI := Lib.hid (idx_any K q p v B l w hE hK h hl)
  clear h hK hE
  go_enter Tryz.func192, Tryz.ntmps192
  go_wp2_with (fail)
  go_at_call 231
  refine HI.out.mono ?_
  rintro e w1 ⟨z, rfl, hz, hb⟩
  rcases hz with ⟨hz, hp⟩ | ⟨hz, hp⟩
  · have HP := Lib.hid hp
    have HB := Lib.hid hb
    clear hb hp
    go_wp2
    go_ret
    exact ⟨congrArg (fun q => Ending.returned (.bool q)) (show true = l.any p from HP.out.symm), HB.out⟩
  · have HP := Lib.hid hp
    have hzn : ¬ 0 ≤ z := by omega
    have HB := Lib.hid hb
    clear hb hp
    go_wp2
    go_ret
    exact ⟨congrArg (fun q => Ending.returned (.bool q)) (show decide (0 ≤ z) = l.any p by rw [HP.out]; simp; omega), HB.out⟩

set_option maxRecDepth 1000000 in
theorem enters_has : Enters 193 := fun args w => rfl
set_option maxRecDepth 1000000 in
theorem has_keeps (g : Nat) (n : List UInt8) (w : World) (hc : w.cell? ⟨g, 0, none⟩ = some (.string ⟨n.toArray⟩)) : Keeps 193 (.pointer (some ⟨g, 0, none⟩)) (fun f => f.1 == n) w := by
  intro x y wx hb
  have hg := lt_of_cell hc
  have hgx : g < wx.heap.size := Nat.lt_of_lt_of_le hg hb.size
  have hcx : wx.cell? ⟨g, 0, none⟩ = some (.string ⟨n.toArray⟩) := (hb.cell (p := ⟨g, 0, none⟩) hg).trans hc
  have HB := Lib.hid ((Below.refl wx.heap.size wx).alloc (Nat.le_refl _) (.cells #[.string ⟨x.toArray⟩, .string ⟨y.toArray⟩] 119))
  clear hb hc hg
  by_cases e : x = n
  · subst e
    go_enter Tryz.func193, Tryz.ntmps193
    go_wp2
    go_ret
    exact ⟨by simp, HB.out⟩
  · have hq : (x == n) = false := by simpa using e
    go_enter Tryz.func193, Tryz.ntmps193
    go_wp2
    go_ret
    exact ⟨by simp [e], HB.out⟩

set_option maxRecDepth 1000000 in
theorem impl_has (v : Value) (B : Nat) (nw : List Fld) (n : List UInt8) (w : World) (h : Holds w B v nw) (hB : B ≤ w.heap.size) (hl : nw.length ≤ 1048576) :
    Calls Tryz.prog 155 #[v, .string ⟨n.toArray⟩] w fun e w' => e = .returned (.bool (has nw n)) ∧ Below w.heap.size w w' := by
  have hmf : ∀ (fn : Fn) (first cap : Array Value) (w : World), (Instr.makeFunc fn first cap).run Tryz.prog w = .ok (.func fn first cap) w := fun _ _ _ _ => rfl
  have hb2 : Below w.heap.size w (w.alloc (.cells #[.string ⟨n.toArray⟩] 9)) := (Below.refl _ _).alloc (Nat.le_refl _) _
  have hcn : (w.alloc (.cells #[.string ⟨n.toArray⟩] 9)).cell? ⟨w.heap.size, 0, none⟩ = some (.string ⟨n.toArray⟩) := by
    rw [World.cell?_alloc_at _ _ _ _ rfl]; rfl
  have HF := Lib.hid (contains_any 193 (.pointer (some ⟨w.heap.size, 0, none⟩)) (fun f => f.1 == n) v B nw _ enters_has (has_keeps w.heap.size n _ hcn) (holds_below h (hb2.mono hB)) hl)
  have HL := Lib.hid hb2
  clear hb2 hcn h
  unfold has
  go_enter Tryz.func155, Tryz.ntmps155
  go_wp2_with (fail)
  go_at_call 192
  refine HF.out.mono ?_
  rintro e w3 ⟨rfl, hb3⟩
  have HR := Lib.hid (HL.out.trans (hb3.mono (by simp)))
  clear hb3
  go_wp2
  go_ret
  exact ⟨rfl, HR.out⟩

end Go.Proofs.YtojmkdggkaocdaaGreatDoor.Flds

/-
  CONTRACTS of what fields a message may have of its own (the model's l11Fields and IsResponse; the program's areOwnFields, isValid and IsResponse); nothing that was there before is changed.
-/
namespace Go.Proofs.YtojmkdggkaocdaaGreatDoor.Msg
open Go Go.RowKit
set_option linter.unusedVariables false
set_option maxRecDepth 1000000

def lenName : List UInt8 := [99, 111, 110, 116, 101, 110, 116, 45, 108, 101, 110, 103, 116, 104]
def ownOk (l : List Flds.Fld) : Bool := Flds.fldsOk l && (decide (l.length < 24) && !Flds.has l lenName)
def BoolEnd (b : Bool) (w : World) (e : Ending) (w' : World) : Prop := e = .returned (.bool b) ∧ Below w.heap.size w w'
theorem ret_b {a b : Bool} (h : a = b) : Ending.returned (.bool a) = .returned (.bool b) := by rw [h]
theorem len_total {l : List Flds.Fld} {n : Nat} (h : Flds.total l ≤ n) : l.length ≤ n := by unfold Flds.total at h; omega

set_option maxHeartbeats 2000000 in
theorem spec_own (v : Value) (B : Nat) (l : List Flds.Fld) (w : World) (h : Flds.Holds w B v l) (hB : B ≤ w.heap.size) (hl : Flds.total l ≤ 1048576) :
    Calls Tryz.prog 145 #[v] w (BoolEnd (ownOk l) w) := by
  have hll := len_total hl
  have HG := Lib.hid (Flds.spec_get v B l lenName w h (Nat.le_trans hl (by decide)))
  have HA := Lib.hid (fun (w1 : World) (hb : Below w.heap.size w w1) => Flds.spec_are v B l w1 (Flds.holds_below h (hb.mono hB)) (Nat.le_trans hB hb.size) hl)
  obtain ⟨a, cap, rfl, _⟩ := Flds.shape_any h
  unfold Flds.GetEnd lenName at HG
  unfold Flds.AreEnd at HA
  have HO : Hid (ownOk l = (Flds.fldsOk l && (decide (l.length < 24) && !Flds.has l lenName))) := Lib.hid rfl
  have hv : decide (0 < (Flds.vals lenName l).length) = Flds.has l lenName := Flds.has_vals l lenName
  unfold lenName at hv HO
  rw [hv] at HG
  clear h hl hv
  generalize Flds.has l [99, 111, 110, 116, 101, 110, 116, 45, 108, 101, 110, 103, 116, 104] = q at HG HO
  generalize Tx.join (Flds.vals [99, 111, 110, 116, 101, 110, 116, 45, 108, 101, 110, 103, 116, 104] l) = t at HG
  generalize Flds.fldsOk l = z at HA HO
  unfold BoolEnd
  by_cases h24 : (l.length : Int) < 24
  · have HE : Hid (ownOk l = (z && !q)) := Lib.hid (by rw [HO.out]; have : decide (l.length < 24) = true := by simp; omega
                                                       rw [this, Bool.true_and])
    clear HO
    cases z <;> cases q
    all_goals
      go_enter Tryz.func145, Tryz.ntmps145
      go_wp2_with (fail)
      go_at_call 100
      refine HG.out.mono ?_
      rintro e w1 ⟨rfl, hb1⟩
      have HB1 := Lib.hid hb1
      clear hb1
      go_wp2_with (fail)
      go_at_call 184
      refine (HA.out _ HB1.out).mono ?_
      rintro e w2 ⟨rfl, hb2⟩
      have HB2 := Lib.hid (Base.then_below HB1.out hb2)
      clear hb2
      go_wp2
      go_ret
      exact ⟨ret_b HE.out.symm, HB2.out⟩
  · have HE : Hid (ownOk l = false) := Lib.hid (by rw [HO.out]; have : decide (l.length < 24) = false := by simp; omega
                                                   rw [this, Bool.false_and, Bool.and_false])
    clear HO
    cases z
    all_goals
      go_enter Tryz.func145, Tryz.ntmps145
      go_wp2_with (fail)
      go_at_call 100
      refine HG.out.mono ?_
      rintro e w1 ⟨rfl, hb1⟩
      have HB1 := Lib.hid hb1
      clear hb1
      go_wp2_with (fail)
      go_at_call 184
      refine (HA.out _ HB1.out).mono ?_
      rintro e w2 ⟨rfl, hb2⟩
      have HB2 := Lib.hid (Base.then_below HB1.out hb2)
      clear hb2
      go_wp2
      go_ret
      exact ⟨ret_b HE.out.symm, HB2.out⟩

set_option maxHeartbeats 2000000 in
theorem impl_own (v : Value) (B : Nat) (l : List Flds.Fld) (w : World) (h : Flds.Holds w B v l) (hB : B ≤ w.heap.size) (hl : Flds.total l ≤ 1048576) :
    Calls Tryz.prog 154 #[v] w (BoolEnd (ownOk l) w) := by
  have hll := len_total hl
  have HA := Lib.hid (Flds.impl_are v B l w h hB hl)
  have HG := Lib.hid (fun (w1 : World) (hb : Below w.heap.size w w1) => Flds.impl_has v B l lenName w1 (Flds.holds_below h (hb.mono hB)) (Nat.le_trans hB hb.size) hll)
  obtain ⟨a, cap, rfl, _⟩ := Flds.shape_any h
  unfold Flds.AreEnd at HA
  unfold lenName at HG
  have HO : Hid (ownOk l = (Flds.fldsOk l && (decide (l.length < 24) && !Flds.has l lenName))) := Lib.hid rfl
  unfold lenName at HO
  clear h hl
  generalize Flds.has l [99, 111, 110, 116, 101, 110, 116, 45, 108, 101, 110, 103, 116, 104] = q at HG HO
  generalize Flds.fldsOk l = z at HA HO
  unfold BoolEnd
  by_cases h24 : (l.length : Int) < 24
  · have HE : Hid (ownOk l = (z && !q)) := Lib.hid (by rw [HO.out]; have : decide (l.length < 24) = true := by simp; omega
                                                       rw [this, Bool.true_and])
    clear HO
    cases z with
    | false =>
      go_enter Tryz.func154, Tryz.ntmps154
      go_wp2_with (fail)
      go_at_call 191
      refine HA.out.mono ?_
      rintro e w1 ⟨rfl, hb1⟩
      have HB1 := Lib.hid hb1
      clear hb1
      go_wp2
      go_ret
      exact ⟨ret_b HE.out.symm, HB1.out⟩
    | true =>
      cases q
      all_goals
        go_enter Tryz.func154, Tryz.ntmps154
        go_wp2_with (fail)
        go_at_call 191
        refine HA.out.mono ?_
        rintro e w1 ⟨rfl, hb1⟩
        have HB1 := Lib.hid hb1
        clear hb1
        go_wp2_with (fail)
        go_at_call 155
        refine (HG.out _ HB1.out).mono ?_
        rintro e w2 ⟨rfl, hb2⟩
        have HB2 := Lib.hid (Base.then_below HB1.out hb2)
        clear hb2
        go_wp2
        go_ret
        exact ⟨ret_b HE.out.symm, HB2.out⟩
  · have HE : Hid (ownOk l = false) := Lib.hid (by rw [HO.out]; have : decide (l.length < 24) = false := by simp; omega
                                                   rw [this, Bool.false_and, Bool.and_false])
    clear HO HA HG
    go_enter Tryz.func154, Tryz.ntmps154
    go_wp2
    go_ret
    exact ⟨ret_b HE.out.symm, Below.refl _ _⟩

def rspOk (c : Int) (l : List Flds.Fld) (b : List UInt8) : Bool := decide (200 ≤ c ∧ c ≤ 599) && (ownOk l && decide (b.length ≤ 600))
theorem kept3 {w w1 : World} {T : TypeId} {a b c : Value} (hb : Below (w.alloc (.cells #[a, b, c] T)).heap.size (w.alloc (.cells #[a, b, c] T)) w1) :
    (w1.cell? ⟨w.heap.size, 0, none⟩ = some a ∧ w1.cell? ⟨w.heap.size, 1, none⟩ = some b ∧ w1.cell? ⟨w.heap.size, 2, none⟩ = some c) ∧ Below w.heap.size w w1 := by
  refine ⟨⟨?_, ?_, ?_⟩, ((Below.refl _ _).alloc (Nat.le_refl _) _).trans (hb.mono (by simp))⟩
  · rw [hb.cell (p := ⟨w.heap.size, 0, none⟩) (by simp), World.cell?_alloc_new]; rfl
  · rw [hb.cell (p := ⟨w.heap.size, 1, none⟩) (by simp), World.cell?_alloc_new]; rfl
  · rw [hb.cell (p := ⟨w.heap.size, 2, none⟩) (by simp), World.cell?_alloc_new]; rfl

end Go.Proofs.YtojmkdggkaocdaaGreatDoor.Msg
