/-
  CONTRACTS AND PLAIN FACTS, several texts in one; each says in its own words what it proves.
-/
import Derived.Test.YtndbhjgfaghelaaGreatDoorPartS
import Derived.Test.YtndbhjgfaghelaaGreatDoorPartB
import Derived.Test.YtndbhjgfaghelaaGreatDoorPartE
import Derived.LoopTactic
import Derived.Outline
import Derived.Test.YtndbhjgfaghelaaGreatDoorPartR
import Derived.Test.YtndbhjgfaghelaaGreatDoorPartD
import Derived.Test.YtndbhjgfaghelaaGreatDoorPartO
import Derived.Test.YtndbhjgfaghelaaGreatDoorPartC
import Derived.Test.YtndbhjgfaghelaaGreatDoorPartF
import Derived.Test.YtndbhjgfaghelaaGreatDoorPartG
import Derived.Test.YtndbhjgfaghelaaGreatDoorPartN
set_option linter.unusedSimpArgs false
set_option linter.unusedVariables false

/-
  CONTRACTS of MergeFields, the model's and the program's: in new memory, the fields whose name the newer ones do not have, followed by the newer ones; nothing that was there before is changed.
-/
namespace Go.Proofs.YtndbhjgfaghelaaGreatDoor.Flds
open Go Go.RowKit
set_option linter.unusedVariables false
set_option maxRecDepth 1000000

def has (nw : List Fld) (n : List UInt8) : Bool := nw.any (fun f => f.1 == n)
theorem has_vals (nw : List Fld) (n : List UInt8) : decide (0 < (vals n nw).length) = has nw n := by
  unfold vals has
  rw [List.length_map]
  induction nw with
  | nil => rfl
  | cons a r ih =>
    by_cases h : (a.1 == n) = true
    · rw [List.filter_cons_of_pos (by exact h), List.any_cons, h]; simp
    · rw [List.filter_cons_of_neg (by exact h), List.any_cons, ih]; simp [h]
def keepm (nw l : List Fld) : List Fld := l.filter (fun f => !has nw f.1)
def merged (l nw : List Fld) : List Fld := keepm nw l ++ nw
theorem keepm_le (nw l : List Fld) : (keepm nw l).length ≤ l.length := List.length_filter_le _ _
theorem keepm_more {nw l : List Fld} {k : Nat} (h : k < l.length) : keepm nw (l.take (k + 1)) = if has nw (l.getD k nofld).1 = true then keepm nw (l.take k) else keepm nw (l.take k) ++ [l.getD k nofld] := by
  unfold keepm
  rw [filt_more h]
  by_cases e : has nw (l.getD k nofld).1 = true
  · rw [if_pos e, if_neg (by rw [e]; decide)]
  · rw [if_neg e, if_pos (by simpa using e)]

/-! slices.IndexFunc and slices.ContainsFunc at a closure that only reads -/
theorem any_more {p : Fld → Bool} {l : List Fld} {k : Nat} (h : k < l.length) : (l.take (k + 1)).any p = ((l.take k).any p || p (l.getD k nofld)) := by
  rw [List.take_succ_eq_append_getElem h, List.any_append, show l.getD k nofld = l[k] by simp [List.getD, h]]; simp
theorem any_take {p : Fld → Bool} {l : List Fld} {k : Nat} (h : (l.take k).any p = true) : l.any p = true := by
  rw [List.any_eq_true] at h ⊢
  obtain ⟨x, hx, hp⟩ := h
  exact ⟨x, List.mem_of_mem_take hx, hp⟩
def IdxEnd (p : Fld → Bool) (l : List Fld) (w : World) (e : Ending) (w' : World) : Prop := ∃ z : Int, e = .returned (.int .i64 z) ∧ ((0 ≤ z ∧ l.any p = true) ∨ (z < 0 ∧ l.any p = false)) ∧ Below w.heap.size w w'

set_option maxRecDepth 1000000 in
theorem idx_nil (K : FuncId) (q : Value) (p : Fld → Bool) (a : Option Addr) (cap : Nat) (w : World) :
    Calls Tryz.prog 209 #[.slice a 0 cap, .func (.func K) #[] #[q]] w (IdxEnd p [] w) := by
  go_enter Tryz.func209, Tryz.ntmps209
  go_wp2
  go_loop [8] (fun i => i = .int .i64 0) (fun i => 0)
  case atStart => rfl
  case round =>
    obtain rfl := hrel
    go_wp2
    go_ret
    exact ⟨_, rfl, Or.inr ⟨by decide, rfl⟩, Below.refl _ _⟩

set_option maxRecDepth 1000000 in
set_option maxHeartbeats 1000000 in
theorem idx_some (K : FuncId) (q : Value) (p : Fld → Bool) (b off cap : Nat) (l : List Fld) (w : World) (hE : Enters K) (hK : Keeps K q p w) (hc : At w b off l) (h0 : 0 < l.length) (hl : l.length ≤ 1048576) :
    Calls Tryz.prog 209 #[.slice (some ⟨b, off, none⟩) l.length cap, .func (.func K) #[] #[q]] w (IdxEnd p l w) := by
  have hbl := at_lt hc h0
  have HC := Lib.hid hc
  have HK := Lib.hid hK
  have HE := Lib.hid hE
  clear hc hK hE
  go_enter Tryz.func209, Tryz.ntmps209
  go_wp2
  go_loopw [8] (fun i wr => ∃ k : Nat, k ≤ l.length ∧ i = .int .i64 (k : Int) ∧ Hid ((l.take k).any p = false) ∧ Below w.heap.size w wr) (fun i _ => l.length - (intOf i).toNat)
  case atStart => exact ⟨0, Nat.zero_le _, rfl, rfl, Below.refl _ _⟩
  case round =>
    obtain ⟨k, hk, rfl, hn, hb⟩ := hrel
    by_cases hlt : k < l.length
    · obtain ⟨c1, c2⟩ := at_below HC.out hb hbl k hlt
      have HM := Lib.hid (any_more (p := p) hlt)
      generalize l.getD k nofld = f at c1 c2 HM
      obtain ⟨x, y⟩ := f
      unfold sv at c1 c2
      have HB := Lib.hid hb
      have HKx := Lib.hid (HK.out x y wr hb)
      clear hb
      by_cases hp : p (x, y) = true
      · have HT : Hid (l.any p = true) := Lib.hid (any_take (k := k + 1) (by rw [HM.out, hp]; simp))
        rw [hp] at HKx
        clear hp HM hn
        go_wp2_with (fail)
        rw [HE.out, Oper.upon_enter]
        refine HKx.out.mono ?_
        rintro e w1 ⟨rfl, hb1⟩
        have HB1 := Lib.hid (Base.then_below HB.out hb1)
        clear hb1
        go_wp2
        go_ret
        exact ⟨_, rfl, Or.inl ⟨by omega, HT.out⟩, HB1.out⟩
      · have hp' : p (x, y) = false := by simpa using hp
        have HT : Hid ((l.take (k + 1)).any p = false) := Lib.hid (by rw [HM.out, hn.out, hp']; rfl)
        rw [hp'] at HKx
        clear hp hp' HM hn
        go_wp2_with (fail)
        rw [HE.out, Oper.upon_enter]
        refine HKx.out.mono ?_
        rintro e w1 ⟨rfl, hb1⟩
        have HB1 := Lib.hid (Base.then_below HB.out hb1)
        clear hb1
        go_wp2
        go_roundw
        case rel => exact ⟨k + 1, by omega, by go_num, HT.out, HB1.out⟩
        case measure => simp [intOf]; omega
    · have HT : Hid (l.any p = false) := Lib.hid (by have h := hn.out; rwa [List.take_of_length_le (by omega)] at h)
      go_wp2
      go_ret
      exact ⟨_, rfl, Or.inr ⟨by decide, HT.out⟩, hb⟩

theorem idx_any (K : FuncId) (q : Value) (p : Fld → Bool) (v : Value) (B : Nat) (l : List Fld) (w : World) (hE : Enters K) (hK : Keeps K q p w) (h : Holds w B v l) (hl : l.length ≤ 1048576) :
    Calls Tryz.prog 209 #[v, .func (.func K) #[] #[q]] w (IdxEnd p l w) := by
  rcases h with ⟨rfl, a, cap, rfl⟩ | ⟨h0, b, off, cap, rfl, _, _, hc⟩
  · exact idx_nil K q p a cap w
  · exact idx_some K q p b off cap l w hE hK hc h0 hl

set_option maxRecDepth 1000000 in
theorem contains_any (K : FuncId) (q : Value) (p : Fld → Bool) (v : Value) (B : Nat) (l : List Fld) (w : World) (hE : Enters K) (hK : Keeps K q p w) (h : Holds w B v l) (hl : l.length ≤ 1048576) :
    Calls Tryz.prog 152 #[v, .func (.func K) #[] #[q]] w fun e w' => e = .returned (.bool (l.any p)) ∧ Below w.heap.size w w' := by
  have HI := Lib.hid (idx_any K q p v B l w hE hK h hl)
  clear h hK hE
  go_enter Tryz.func152, Tryz.ntmps152
  go_wp2_with (fail)
  go_at_call 209
  refine HI.out.mono ?_
  rintro e w1 ⟨z, rfl, hz, hb⟩
  rcases hz with ⟨hz, hp⟩ | ⟨hz, hp⟩
  · have HP := Lib.hid hp
    have HB := Lib.hid hb
    clear hb hp
    go_wp2
    go_ret
    exact ⟨congrArg (fun q => Ending.returned (.bool q)) (show true = l.any p from HP.out.symm), HB.out⟩
  · have HP := Lib.hid hp
    have hzn : ¬ 0 ≤ z := by omega
    have HB := Lib.hid hb
    clear hb hp
    go_wp2
    go_ret
    exact ⟨congrArg (fun q => Ending.returned (.bool q)) (show decide (0 ≤ z) = l.any p by rw [HP.out]; simp; omega), HB.out⟩

set_option maxRecDepth 1000000 in
theorem enters_has : Enters 153 := fun args w => rfl
set_option maxRecDepth 1000000 in
theorem has_keeps (g : Nat) (n : List UInt8) (w : World) (hc : w.cell? ⟨g, 0, none⟩ = some (.string ⟨n.toArray⟩)) : Keeps 153 (.pointer (some ⟨g, 0, none⟩)) (fun f => f.1 == n) w := by
  intro x y wx hb
  have hg := lt_of_cell hc
  have hgx : g < wx.heap.size := Nat.lt_of_lt_of_le hg hb.size
  have hcx : wx.cell? ⟨g, 0, none⟩ = some (.string ⟨n.toArray⟩) := (hb.cell (p := ⟨g, 0, none⟩) hg).trans hc
  have HB := Lib.hid ((Below.refl wx.heap.size wx).alloc (Nat.le_refl _) (.cells #[.string ⟨x.toArray⟩, .string ⟨y.toArray⟩] 75))
  clear hb hc hg
  by_cases e : x = n
  · subst e
    go_enter Tryz.func153, Tryz.ntmps153
    go_wp2
    go_ret
    exact ⟨by simp, HB.out⟩
  · have hq : (x == n) = false := by simpa using e
    go_enter Tryz.func153, Tryz.ntmps153
    go_wp2
    go_ret
    exact ⟨by simp [e], HB.out⟩

set_option maxRecDepth 1000000 in
theorem impl_has (v : Value) (B : Nat) (nw : List Fld) (n : List UInt8) (w : World) (h : Holds w B v nw) (hB : B ≤ w.heap.size) (hl : nw.length ≤ 1048576) :
    Calls Tryz.prog 100 #[v, .string ⟨n.toArray⟩] w fun e w' => e = .returned (.bool (has nw n)) ∧ Below w.heap.size w w' := by
  have hmf : ∀ (fn : Fn) (first cap : Array Value) (w : World), (Instr.makeFunc fn first cap).run Tryz.prog w = .ok (.func fn first cap) w := fun _ _ _ _ => rfl
  have hb2 : Below w.heap.size w (w.alloc (.cells #[.string ⟨n.toArray⟩] 9)) := (Below.refl _ _).alloc (Nat.le_refl _) _
  have hcn : (w.alloc (.cells #[.string ⟨n.toArray⟩] 9)).cell? ⟨w.heap.size, 0, none⟩ = some (.string ⟨n.toArray⟩) := by
    rw [World.cell?_alloc_at _ _ _ _ rfl]; rfl
  have HF := Lib.hid (contains_any 153 (.pointer (some ⟨w.heap.size, 0, none⟩)) (fun f => f.1 == n) v B nw _ enters_has (has_keeps w.heap.size n _ hcn) (holds_below h (hb2.mono hB)) hl)
  have HL := Lib.hid hb2
  clear hb2 hcn h
  unfold has
  go_enter Tryz.func100, Tryz.ntmps100
  go_wp2_with (fail)
  go_at_call 152
  refine HF.out.mono ?_
  rintro e w3 ⟨rfl, hb3⟩
  have HR := Lib.hid (HL.out.trans (hb3.mono (by simp)))
  clear hb3
  go_wp2
  go_ret
  exact ⟨rfl, HR.out⟩

end Go.Proofs.YtndbhjgfaghelaaGreatDoor.Flds

/-
  CONTRACTS of what fields a message may have of its own (the model's l11Fields and IsResponse; the program's areOwnFields, isValid and IsResponse); nothing that was there before is changed.
-/
namespace Go.Proofs.YtndbhjgfaghelaaGreatDoor.Msg
open Go Go.RowKit
set_option linter.unusedVariables false
set_option maxRecDepth 1000000

def lenName : List UInt8 := [99, 111, 110, 116, 101, 110, 116, 45, 108, 101, 110, 103, 116, 104]
def ownOk (l : List Flds.Fld) : Bool := Flds.fldsOk l && (decide (l.length < 24) && !Flds.has l lenName)
def BoolEnd (b : Bool) (w : World) (e : Ending) (w' : World) : Prop := e = .returned (.bool b) ∧ Below w.heap.size w w'
theorem ret_b {a b : Bool} (h : a = b) : Ending.returned (.bool a) = .returned (.bool b) := by rw [h]
theorem len_total {l : List Flds.Fld} {n : Nat} (h : Flds.total l ≤ n) : l.length ≤ n := by unfold Flds.total at h; omega

set_option maxHeartbeats 2000000 in
theorem spec_own (v : Value) (B : Nat) (l : List Flds.Fld) (w : World) (h : Flds.Holds w B v l) (hB : B ≤ w.heap.size) (hl : Flds.total l ≤ 1048576) :
    Calls Tryz.prog 117 #[v] w (BoolEnd (ownOk l) w) := by
  have hll := len_total hl
  have HG := Lib.hid (Flds.spec_get v B l lenName w h (Nat.le_trans hl (by decide)))
  have HA := Lib.hid (fun (w1 : World) (hb : Below w.heap.size w w1) => Flds.spec_are v B l w1 (Flds.holds_below h (hb.mono hB)) (Nat.le_trans hB hb.size) hl)
  obtain ⟨a, cap, rfl, _⟩ := Flds.shape_any h
  unfold Flds.GetEnd lenName at HG
  unfold Flds.AreEnd at HA
  have HO : Hid (ownOk l = (Flds.fldsOk l && (decide (l.length < 24) && !Flds.has l lenName))) := Lib.hid rfl
  have hv : decide (0 < (Flds.vals lenName l).length) = Flds.has l lenName := Flds.has_vals l lenName
  unfold lenName at hv HO
  rw [hv] at HG
  clear h hl hv
  generalize Flds.has l [99, 111, 110, 116, 101, 110, 116, 45, 108, 101, 110, 103, 116, 104] = q at HG HO
  generalize Tx.join (Flds.vals [99, 111, 110, 116, 101, 110, 116, 45, 108, 101, 110, 103, 116, 104] l) = t at HG
  generalize Flds.fldsOk l = z at HA HO
  unfold BoolEnd
  by_cases h24 : (l.length : Int) < 24
  · have HE : Hid (ownOk l = (z && !q)) := Lib.hid (by rw [HO.out]; have : decide (l.length < 24) = true := by simp; omega
                                                       rw [this, Bool.true_and])
    clear HO
    cases z <;> cases q
    all_goals
      go_enter Tryz.func117, Tryz.ntmps117
      go_wp2_with (fail)
      go_at_call 92
      refine HG.out.mono ?_
      rintro e w1 ⟨rfl, hb1⟩
      have HB1 := Lib.hid hb1
      clear hb1
      go_wp2_with (fail)
      go_at_call 165
      refine (HA.out _ HB1.out).mono ?_
      rintro e w2 ⟨rfl, hb2⟩
      have HB2 := Lib.hid (Base.then_below HB1.out hb2)
      clear hb2
      go_wp2
      go_ret
      exact ⟨ret_b HE.out.symm, HB2.out⟩
  · have HE : Hid (ownOk l = false) := Lib.hid (by rw [HO.out]; have : decide (l.length < 24) = false := by simp; omega
                                                   rw [this, Bool.false_and, Bool.and_false])
    clear HO
    cases z
    all_goals
      go_enter Tryz.func117, Tryz.ntmps117
      go_wp2_with (fail)
      go_at_call 92
      refine HG.out.mono ?_
      rintro e w1 ⟨rfl, hb1⟩
      have HB1 := Lib.hid hb1
      clear hb1
      go_wp2_with (fail)
      go_at_call 165
      refine (HA.out _ HB1.out).mono ?_
      rintro e w2 ⟨rfl, hb2⟩
      have HB2 := Lib.hid (Base.then_below HB1.out hb2)
      clear hb2
      go_wp2
      go_ret
      exact ⟨ret_b HE.out.symm, HB2.out⟩

set_option maxHeartbeats 2000000 in
theorem impl_own (v : Value) (B : Nat) (l : List Flds.Fld) (w : World) (h : Flds.Holds w B v l) (hB : B ≤ w.heap.size) (hl : Flds.total l ≤ 1048576) :
    Calls Tryz.prog 122 #[v] w (BoolEnd (ownOk l) w) := by
  have hll := len_total hl
  have HA := Lib.hid (Flds.impl_are v B l w h hB hl)
  have HG := Lib.hid (fun (w1 : World) (hb : Below w.heap.size w w1) => Flds.impl_has v B l lenName w1 (Flds.holds_below h (hb.mono hB)) (Nat.le_trans hB hb.size) hll)
  obtain ⟨a, cap, rfl, _⟩ := Flds.shape_any h
  unfold Flds.AreEnd at HA
  unfold lenName at HG
  have HO : Hid (ownOk l = (Flds.fldsOk l && (decide (l.length < 24) && !Flds.has l lenName))) := Lib.hid rfl
  unfold lenName at HO
  clear h hl
  generalize Flds.has l [99, 111, 110, 116, 101, 110, 116, 45, 108, 101, 110, 103, 116, 104] = q at HG HO
  generalize Flds.fldsOk l = z at HA HO
  unfold BoolEnd
  by_cases h24 : (l.length : Int) < 24
  · have HE : Hid (ownOk l = (z && !q)) := Lib.hid (by rw [HO.out]; have : decide (l.length < 24) = true := by simp; omega
                                                       rw [this, Bool.true_and])
    clear HO
    cases z with
    | false =>
      go_enter Tryz.func122, Tryz.ntmps122
      go_wp2_with (fail)
      go_at_call 171
      refine HA.out.mono ?_
      rintro e w1 ⟨rfl, hb1⟩
      have HB1 := Lib.hid hb1
      clear hb1
      go_wp2
      go_ret
      exact ⟨ret_b HE.out.symm, HB1.out⟩
    | true =>
      cases q
      all_goals
        go_enter Tryz.func122, Tryz.ntmps122
        go_wp2_with (fail)
        go_at_call 171
        refine HA.out.mono ?_
        rintro e w1 ⟨rfl, hb1⟩
        have HB1 := Lib.hid hb1
        clear hb1
        go_wp2_with (fail)
        go_at_call 100
        refine (HG.out _ HB1.out).mono ?_
        rintro e w2 ⟨rfl, hb2⟩
        have HB2 := Lib.hid (Base.then_below HB1.out hb2)
        clear hb2
        go_wp2
        go_ret
        exact ⟨ret_b HE.out.symm, HB2.out⟩
  · have HE : Hid (ownOk l = false) := Lib.hid (by rw [HO.out]; have : decide (l.length < 24) = false := by simp; omega
                                                   rw [this, Bool.false_and, Bool.and_false])
    clear HO HA HG
    go_enter Tryz.func122, Tryz.ntmps122
    go_wp2
    go_ret
    exact ⟨ret_b HE.out.symm, Below.refl _ _⟩

def rspOk (c : Int) (l : List Flds.Fld) (b : List UInt8) : Bool := decide (200 ≤ c ∧ c ≤ 599) && (ownOk l && decide (b.length ≤ 600))
theorem kept3 {w w1 : World} {T : TypeId} {a b c : Value} (hb : Below (w.alloc (.cells #[a, b, c] T)).heap.size (w.alloc (.cells #[a, b, c] T)) w1) :
    (w1.cell? ⟨w.heap.size, 0, none⟩ = some a ∧ w1.cell? ⟨w.heap.size, 1, none⟩ = some b ∧ w1.cell? ⟨w.heap.size, 2, none⟩ = some c) ∧ Below w.heap.size w w1 := by
  refine ⟨⟨?_, ?_, ?_⟩, ((Below.refl _ _).alloc (Nat.le_refl _) _).trans (hb.mono (by simp))⟩
  · rw [hb.cell (p := ⟨w.heap.size, 0, none⟩) (by simp), World.cell?_alloc_new]; rfl
  · rw [hb.cell (p := ⟨w.heap.size, 1, none⟩) (by simp), World.cell?_alloc_new]; rfl
  · rw [hb.cell (p := ⟨w.heap.size, 2, none⟩) (by simp), World.cell?_alloc_new]; rfl

end Go.Proofs.YtndbhjgfaghelaaGreatDoor.Msg

/-
  CONTRACTS of what is a valid request (the model's IsRequest; the program's isMethod, isHost, isTarget, isValid and IsRequest); nothing that was there before is changed.
-/
namespace Go.Proofs.YtndbhjgfaghelaaGreatDoor.Msg
open Go Go.RowKit
set_option linter.unusedVariables false
set_option maxRecDepth 1000000

def hostName : List UInt8 := [104, 111, 115, 116]
def reqOk (m h t : List UInt8) (l : List Flds.Fld) : Bool := (methOk m && hostOk h && targOk t) && (ownOk l && !Flds.has l hostName)
theorem bsz (y : List UInt8) : (⟨y.toArray⟩ : ByteArray).size = y.length := by simp [ByteArray.size]

set_option maxHeartbeats 1000000 in
theorem impl_method (m : List UInt8) (w : World) (hm : m.length ≤ 1048576) :
    Calls Tryz.prog 119 #[.string ⟨m.toArray⟩] w (BoolEnd (methOk m) w) := by
  have HT : Hid (∀ W : World, Calls Tryz.prog 108 #[.string ⟨m.toArray⟩] W fun e w' => e = .returned (.bool (Tx.token m)) ∧ W = w') := Lib.hid (fun W => Tx.impl_token ⟨m.toArray⟩ W (by rw [bsz]; omega))
  have HO : Hid (methOk m = (m.all nolow && Tx.token m)) := Lib.hid rfl
  unfold BoolEnd
  cases hz : Tx.token m with
  | false =>
    have HE : Hid (methOk m = false) := Lib.hid (by rw [HO.out, hz, Bool.and_false])
    rw [hz] at HT
    clear hz HO
    go_enter Tryz.func119, Tryz.ntmps119
    go_wp2_with (fail)
    go_at_call 108
    refine (HT.out _).mono ?_
    rintro e w1 ⟨rfl, rfl⟩
    go_wp2
    go_ret
    exact ⟨ret_b HE.out.symm, Below.refl _ _⟩
  | true =>
    have HU : Hid (∀ W : World, Calls Tryz.prog 168 #[.string ⟨m.toArray⟩] W fun e w' => e = .returned (.string ⟨(Lib.toUpperA m).toArray⟩) ∧ Below W.heap.size W w') := Lib.hid (fun W => Tryz.strings_ToUpper_ascii ⟨m.toArray⟩ W (by rw [bsz]; omega) (token_ascii hz))
    have HE : Hid (methOk m = decide (Lib.toUpperA m = m)) := Lib.hid (by rw [HO.out, hz, Bool.and_true, Bool.eq_iff_iff, decide_eq_true_iff]; exact (upper_same m).symm)
    rw [hz] at HT
    clear hz HO
    generalize Lib.toUpperA m = u at HU HE
    by_cases hu : u = m
    · subst hu
      have HF : Hid (methOk u = true) := Lib.hid (by rw [HE.out]; simp)
      clear HE
      go_enter Tryz.func119, Tryz.ntmps119
      go_wp2_with (fail)
      go_at_call 108
      refine (HT.out _).mono ?_
      rintro e w1 ⟨rfl, rfl⟩
      go_wp2_with (fail)
      go_at_call 168
      refine (HU.out _).mono ?_
      rintro e w1 ⟨rfl, hb1⟩
      have HB := Lib.hid hb1
      clear hb1
      go_wp2
      go_ret
      exact ⟨ret_b HF.out.symm, HB.out⟩
    · have HF : Hid (methOk m = false) := Lib.hid (by rw [HE.out, decide_eq_false hu])
      have hq : (u == m) = false := by simpa using hu
      clear HE hu
      go_enter Tryz.func119, Tryz.ntmps119
      go_wp2_with (fail)
      go_at_call 108
      refine (HT.out _).mono ?_
      rintro e w1 ⟨rfl, rfl⟩
      go_wp2_with (fail)
      go_at_call 168
      refine (HU.out _).mono ?_
      rintro e w1 ⟨rfl, hb1⟩
      have HB := Lib.hid hb1
      clear hb1
      go_wp2
      go_ret
      exact ⟨ret_b HF.out.symm, HB.out⟩

set_option maxHeartbeats 1000000 in
theorem impl_host (h : List UInt8) (w : World) (hh : h.length ≤ 1048576) :
    Calls Tryz.prog 120 #[.string ⟨h.toArray⟩] w (BoolEnd (hostOk h) w) := by
  have hsz := bsz h
  have HO : Hid (hostOk h = (h.all hb && decide (1 ≤ h.length ∧ h.length ≤ 40))) := Lib.hid rfl
  have HT : Hid (∀ W : World, Calls Tryz.prog 169 #[.string ⟨h.toArray⟩, .string ⟨#[97, 98, 99, 100, 101, 102, 103, 104, 105, 106, 107, 108, 109, 110, 111, 112, 113, 114, 115, 116, 117, 118, 119, 120, 121, 122, 48, 49, 50, 51, 52, 53, 54, 55, 56, 57, 45, 46]⟩] W fun e w' => e = .returned (.string ⟨(Lib.trimS h hbs).toArray⟩) ∧ Below W.heap.size W w') :=
    Lib.hid (fun W => Tryz.strings_Trim_laid ⟨h.toArray⟩ ⟨#[97, 98, 99, 100, 101, 102, 103, 104, 105, 106, 107, 108, 109, 110, 111, 112, 113, 114, 115, 116, 117, 118, 119, 120, 121, 122, 48, 49, 50, 51, 52, 53, 54, 55, 56, 57, 45, 46]⟩ W (by rw [bsz]; omega) (by decide) (by
      intro j b hj
      have hall : ∀ x ∈ hbs, x.toNat < 128 := by decide
      exact hall b (List.mem_of_getElem? hj)))
  unfold BoolEnd
  by_cases h1 : 1 ≤ (h.length : Int)
  case neg =>
    have HE : Hid (hostOk h = false) := Lib.hid (by rw [HO.out, decide_eq_false (by omega), Bool.and_false])
    clear HO HT
    go_enter Tryz.func120, Tryz.ntmps120
    go_wp2
    go_ret
    exact ⟨ret_b HE.out.symm, Below.refl _ _⟩
  by_cases h2 : (h.length : Int) ≤ 40
  case neg =>
    have HE : Hid (hostOk h = false) := Lib.hid (by rw [HO.out, decide_eq_false (by omega), Bool.and_false])
    clear HO HT
    go_enter Tryz.func120, Tryz.ntmps120
    go_wp2
    go_ret
    exact ⟨ret_b HE.out.symm, Below.refl _ _⟩
  have HE : Hid (hostOk h = decide (Lib.trimS h hbs = [])) := Lib.hid (by rw [HO.out, decide_eq_true (by omega), Bool.and_true, Bool.eq_iff_iff, decide_eq_true_iff]; exact (trim_hb h).symm)
  clear HO
  generalize Lib.trimS h hbs = u at HT HE
  by_cases hu : u = []
  · subst hu
    have HF : Hid (hostOk h = true) := Lib.hid (by rw [HE.out]; rfl)
    clear HE
    go_enter Tryz.func120, Tryz.ntmps120
    go_wp2_with (fail)
    go_at_call 169
    refine (HT.out _).mono ?_
    rintro e w1 ⟨rfl, hb1⟩
    have HB := Lib.hid hb1
    clear hb1
    go_wp2
    go_ret
    exact ⟨ret_b HF.out.symm, HB.out⟩
  · have HF : Hid (hostOk h = false) := Lib.hid (by rw [HE.out, decide_eq_false hu])
    have hq : (u == []) = false := by simpa using hu
    clear HE
    go_enter Tryz.func120, Tryz.ntmps120
    go_wp2_with (fail)
    go_at_call 169
    refine (HT.out _).mono ?_
    rintro e w1 ⟨rfl, hb1⟩
    have HB := Lib.hid hb1
    clear hb1
    go_wp2
    go_ret
    exact ⟨ret_b HF.out.symm, HB.out⟩

theorem pre47 (s : ByteArray) : Lib.hasPrefix s.data.toList [47] = (s.data.toList.head? == some 47) := by
  cases s.data.toList with
  | nil => rfl
  | cons a t =>
    unfold Lib.hasPrefix
    have : (47 == a) = (a == 47) := by rw [Bool.eq_iff_iff]; simp; exact eq_comm
    simp [List.isPrefixOf, this]
set_option maxHeartbeats 1000000 in
theorem impl_targ_s (s : ByteArray) (w : World) (hs : s.size ≤ 1048576) :
    Calls Tryz.prog 121 #[.string s] w (BoolEnd (targOk s.data.toList) w) := by
  have HO : Hid (targOk s.data.toList = (s.data.toList.all tb && (decide (1 ≤ s.size ∧ s.size ≤ 100) && s.data.toList.head? == some 47))) := Lib.hid (by unfold targOk; rw [Tx.list_len])
  have HP : Hid (∀ W : World, Calls Tryz.prog 170 #[.string s, .string ⟨#[47]⟩] W fun e w' => e = .returned (.bool (Lib.hasPrefix s.data.toList [47])) ∧ w' = W) := Lib.hid (fun W => Tryz.strings_HasPrefix s ⟨#[47]⟩ W)
  rw [pre47] at HP
  unfold BoolEnd
  by_cases h1 : 100 < (s.size : Int)
  · have HE : Hid (targOk s.data.toList = false) := Lib.hid (by rw [HO.out, decide_eq_false (by omega), Bool.false_and, Bool.and_false])
    clear HO HP
    go_enter Tryz.func121, Tryz.ntmps121
    go_wp2
    go_ret
    exact ⟨ret_b HE.out.symm, Below.refl _ _⟩
  cases hp : (s.data.toList.head? == some 47) with
  | false =>
    have HE : Hid (targOk s.data.toList = false) := Lib.hid (by rw [HO.out, hp, Bool.and_false, Bool.and_false])
    rw [hp] at HP
    clear HO hp
    go_enter Tryz.func121, Tryz.ntmps121
    go_wp2_with (fail)
    go_at_call 170
    refine (HP.out _).mono ?_
    rintro e w1 ⟨rfl, hw⟩
    rw [hw]
    go_wp2
    go_ret
    exact ⟨ret_b HE.out.symm, Below.refl _ _⟩
  | true =>
    have HE : Hid (targOk s.data.toList = s.data.toList.all tb) := Lib.hid (by
      have h0 : 1 ≤ s.size := by
        rw [← Tx.list_len]
        cases hl : s.data.toList with
        | nil => rw [hl] at hp; cases hp
        | cons a t => simp
      rw [HO.out, hp, decide_eq_true (by omega), Bool.and_true, Bool.and_true])
    rw [hp] at HP
    clear HO hp
    go_enter Tryz.func121, Tryz.ntmps121
    go_wp2_with (fail)
    go_at_call 170
    refine (HP.out _).mono ?_
    rintro e w1 ⟨rfl, hw⟩
    rw [hw]
    clear hw
    go_wp2
    go_loop [3, 14] (fun j i => ∃ k : Nat, k ≤ s.size ∧ i = .int .i64 k ∧ (s.data.toList.take k).all tb = true) (fun _ i => s.size - (intOf i).toNat)
    case atStart => exact ⟨0, Nat.zero_le _, rfl, rfl⟩
    case round =>
      obtain ⟨k, hk, rfl, ha⟩ := hrel
      have HA := Lib.hid ha
      clear ha
      by_cases hlt : k < s.size
      · have hb255 : (s[k].toNat : Int) ≤ 255 := by have := s[k].toNat_lt; omega
        rcases hc : tb s[k] with _ | _
        · have HT := Lib.hid (all_bad hlt hc)
          rcases tb_no hc with q | q
          · have q1 : (s[k].toNat : Int) ≤ 32 := by omega
            clear hc q
            go_wp2
            go_ret
            exact ⟨ret_b (by rw [HE.out, HT.out]), Below.refl _ _⟩
          · have q1 : ¬ (s[k].toNat : Int) ≤ 32 := by omega
            clear hc
            go_wp2
            go_ret
            exact ⟨ret_b (by rw [HE.out, HT.out]), Below.refl _ _⟩
        · have HT := Lib.hid (all_more hlt HA.out hc)
          obtain ⟨q1, q2⟩ := tb_yes hc
          have q3 : ¬ (s[k].toNat : Int) ≤ 32 := by omega
          have q4 : ¬ 126 < (s[k].toNat : Int) := by omega
          clear hc q1 q2
          go_wp2
          go_round
          case rel => exact ⟨k + 1, by omega, by go_num, HT.out⟩
          case measure => simp [intOf]; omega
      · have HT := Lib.hid (all_end (show k = s.size by omega) HA.out)
        go_wp2
        go_ret
        exact ⟨ret_b (by rw [HE.out, HT.out]), Below.refl _ _⟩
theorem impl_targ (t : List UInt8) (w : World) (ht : t.length ≤ 1048576) :
    Calls Tryz.prog 121 #[.string ⟨t.toArray⟩] w (BoolEnd (targOk t) w) := impl_targ_s ⟨t.toArray⟩ w (by rw [bsz]; exact ht)

set_option maxRecDepth 1000000 in
set_option maxHeartbeats 2000000 in
theorem impl_valid_req (m h t : List UInt8) (v : Value) (B : Nat) (l : List Flds.Fld) (w : World) (hh : Flds.Holds w B v l) (hB : B ≤ w.heap.size) (hl : Flds.total l ≤ 1048576) (hm : m.length ≤ 1048576) (hhl : h.length ≤ 1048576) (ht : t.length ≤ 1048576) :
    Calls Tryz.prog 73 #[.agg #[.string ⟨m.toArray⟩, .string ⟨h.toArray⟩, .string ⟨t.toArray⟩, v]] w (BoolEnd (reqOk m h t l) w) := by
  have HB0 : Hid (Below w.heap.size w (w.alloc (.cells #[.string ⟨m.toArray⟩, .string ⟨h.toArray⟩, .string ⟨t.toArray⟩, v] 48))) := Lib.hid ((Below.refl _ _).alloc (Nat.le_refl _) _)
  have H1 := Lib.hid (fun W => impl_method m W hm)
  have H2 := Lib.hid (fun W => impl_host h W hhl)
  have H3 := Lib.hid (fun W => impl_targ t W ht)
  have H4 := Lib.hid (fun (W : World) (hb : Below w.heap.size w W) => impl_own v B l W (Flds.holds_below hh (hb.mono hB)) (Nat.le_trans hB hb.size) hl)
  have H5 := Lib.hid (fun (W : World) (hb : Below w.heap.size w W) => Flds.impl_has v B l hostName W (Flds.holds_below hh (hb.mono hB)) (Nat.le_trans hB hb.size) (len_total hl))
  have HO : Hid (reqOk m h t l = ((methOk m && hostOk h && targOk t) && (ownOk l && !Flds.has l hostName))) := Lib.hid rfl
  have HK := Lib.hid (fun w1 (hb : Below (w.alloc (.cells #[.string ⟨m.toArray⟩, .string ⟨h.toArray⟩, .string ⟨t.toArray⟩, v] 48)).heap.size (w.alloc (.cells #[.string ⟨m.toArray⟩, .string ⟨h.toArray⟩, .string ⟨t.toArray⟩, v] 48)) w1) => And.intro (And.intro ((Kept.one hb).1 0 _ rfl) (And.intro ((Kept.one hb).1 1 _ rfl) (And.intro ((Kept.one hb).1 2 _ rfl) ((Kept.one hb).1 3 _ rfl)))) (Kept.below_in hb))
  unfold BoolEnd at *
  unfold hostName at H5 HO
  clear hh hl
  generalize methOk m = z1 at H1 HO
  generalize hostOk h = z2 at H2 HO
  generalize targOk t = z3 at H3 HO
  generalize ownOk l = z4 at H4 HO
  generalize Flds.has l [104, 111, 115, 116] = z5 at H5 HO
  cases z1 with
  | false =>
    have HE : Hid (reqOk m h t l = false) := Lib.hid (by rw [HO.out]; simp)
    clear HO
    go_enter Tryz.func73, Tryz.ntmps73
    go_wp2_with (fail)
    go_at_call 119
    refine (H1.out _).mono ?_
    rintro e w1 ⟨rfl, b1⟩
    have HB1 := Lib.hid (HK.out _ b1).2
    clear b1
    go_wp2
    go_ret
    exact ⟨ret_b HE.out.symm, HB1.out⟩
  | true =>
  cases z2 with
  | false =>
    have HE : Hid (reqOk m h t l = false) := Lib.hid (by rw [HO.out]; simp)
    clear HO
    go_enter Tryz.func73, Tryz.ntmps73
    go_wp2_with (fail)
    go_at_call 119
    refine (H1.out _).mono ?_
    rintro e w1 ⟨rfl, b1⟩
    obtain ⟨⟨c0, c1, c2, c3⟩, hb1⟩ := HK.out _ b1
    have HS1 := Lib.hid b1
    clear b1 hb1
    go_wp2_with (fail)
    go_at_call 120
    refine (H2.out _).mono ?_
    rintro e w2 ⟨rfl, b2⟩
    clear c0 c1 c2 c3
    have HS2 := Lib.hid (Base.then_below HS1.out b2)
    have HB2 := Lib.hid (HK.out _ HS2.out).2
    clear b2
    go_wp2
    go_ret
    exact ⟨ret_b HE.out.symm, HB2.out⟩
  | true =>
  cases z3 with
  | false =>
    have HE : Hid (reqOk m h t l = false) := Lib.hid (by rw [HO.out]; simp)
    clear HO
    go_enter Tryz.func73, Tryz.ntmps73
    go_wp2_with (fail)
    go_at_call 119
    refine (H1.out _).mono ?_
    rintro e w1 ⟨rfl, b1⟩
    obtain ⟨⟨c0, c1, c2, c3⟩, hb1⟩ := HK.out _ b1
    have HS1 := Lib.hid b1
    clear b1 hb1
    go_wp2_with (fail)
    go_at_call 120
    refine (H2.out _).mono ?_
    rintro e w2 ⟨rfl, b2⟩
    clear c0 c1 c2 c3
    have HS2 := Lib.hid (Base.then_below HS1.out b2)
    obtain ⟨⟨c0, c1, c2, c3⟩, hb2⟩ := HK.out _ HS2.out
    clear b2 hb2
    go_wp2_with (fail)
    go_at_call 121
    refine (H3.out _).mono ?_
    rintro e w3 ⟨rfl, b3⟩
    clear c0 c1 c2 c3
    have HB3 := Lib.hid (HK.out _ (Base.then_below HS2.out b3)).2
    clear b3
    go_wp2
    go_ret
    exact ⟨ret_b HE.out.symm, HB3.out⟩
  | true =>
  cases z4 with
  | false =>
    have HE : Hid (reqOk m h t l = false) := Lib.hid (by rw [HO.out]; simp)
    clear HO
    go_enter Tryz.func73, Tryz.ntmps73
    go_wp2_with (fail)
    go_at_call 119
    refine (H1.out _).mono ?_
    rintro e w1 ⟨rfl, b1⟩
    obtain ⟨⟨c0, c1, c2, c3⟩, hb1⟩ := HK.out _ b1
    have HS1 := Lib.hid b1
    clear b1 hb1
    go_wp2_with (fail)
    go_at_call 120
    refine (H2.out _).mono ?_
    rintro e w2 ⟨rfl, b2⟩
    clear c0 c1 c2 c3
    have HS2 := Lib.hid (Base.then_below HS1.out b2)
    obtain ⟨⟨c0, c1, c2, c3⟩, hb2⟩ := HK.out _ HS2.out
    clear b2 hb2
    go_wp2_with (fail)
    go_at_call 121
    refine (H3.out _).mono ?_
    rintro e w3 ⟨rfl, b3⟩
    clear c0 c1 c2 c3
    have HS3 := Lib.hid (Base.then_below HS2.out b3)
    obtain ⟨⟨c0, c1, c2, c3⟩, hb3⟩ := HK.out _ HS3.out
    have HB3 := Lib.hid hb3
    clear b3 hb3
    go_wp2_with (fail)
    go_at_call 122
    refine (H4.out _ HB3.out).mono ?_
    rintro e w4 ⟨rfl, b4⟩
    clear c0 c1 c2 c3
    have HB4 := Lib.hid (HK.out _ (Base.then_below HS3.out b4)).2
    clear b4
    go_wp2
    go_ret
    exact ⟨ret_b HE.out.symm, HB4.out⟩
  | true =>
    have HE : Hid (reqOk m h t l = !z5) := Lib.hid (by rw [HO.out]; simp)
    clear HO
    go_enter Tryz.func73, Tryz.ntmps73
    go_wp2_with (fail)
    go_at_call 119
    refine (H1.out _).mono ?_
    rintro e w1 ⟨rfl, b1⟩
    obtain ⟨⟨c0, c1, c2, c3⟩, hb1⟩ := HK.out _ b1
    have HS1 := Lib.hid b1
    clear b1 hb1
    go_wp2_with (fail)
    go_at_call 120
    refine (H2.out _).mono ?_
    rintro e w2 ⟨rfl, b2⟩
    clear c0 c1 c2 c3
    have HS2 := Lib.hid (Base.then_below HS1.out b2)
    obtain ⟨⟨c0, c1, c2, c3⟩, hb2⟩ := HK.out _ HS2.out
    clear b2 hb2
    go_wp2_with (fail)
    go_at_call 121
    refine (H3.out _).mono ?_
    rintro e w3 ⟨rfl, b3⟩
    clear c0 c1 c2 c3
    have HS3 := Lib.hid (Base.then_below HS2.out b3)
    obtain ⟨⟨c0, c1, c2, c3⟩, hb3⟩ := HK.out _ HS3.out
    have HB3 := Lib.hid hb3
    clear b3 hb3
    go_wp2_with (fail)
    go_at_call 122
    refine (H4.out _ HB3.out).mono ?_
    rintro e w4 ⟨rfl, b4⟩
    clear c0 c1 c2 c3
    have HS4 := Lib.hid (Base.then_below HS3.out b4)
    obtain ⟨⟨c0, c1, c2, c3⟩, hb4⟩ := HK.out _ HS4.out
    have HB4 := Lib.hid hb4
    clear b4 hb4
    go_wp2_with (fail)
    go_at_call 100
    refine (H5.out _ HB4.out).mono ?_
    rintro e w5 ⟨rfl, b5⟩
    clear c0 c1 c2 c3
    have HB5 := Lib.hid (HK.out _ (Base.then_below HS4.out b5)).2
    clear b5
    go_wp2
    go_ret
    exact ⟨ret_b HE.out.symm, HB5.out⟩

end Go.Proofs.YtndbhjgfaghelaaGreatDoor.Msg

/-
  PLAIN FACTS on what an origin must be like: each page as it must be and found first at its own place; how many; and its host.
-/
namespace Go.Proofs.YtndbhjgfaghelaaGreatDoor.Orc
open Go Go.RowKit
set_option linter.unusedVariables false
set_option maxRecDepth 1000000

def pageOk (e : Rsl.T) : Bool := resOk (Nt.isnt e.et) e.et e.ec e.ek e.egs e.evs
def pageAt (l : List Rsl.T) (i : Nat) : Bool := pageOk (l.getD i Rsl.nov) && decide (Org.frs (l.getD i Rsl.nov).et l = (i : Int))
def frontOk (h : List UInt8) : Bool := Msg.reqOk [71, 69, 84] h [47] []
def orgOk (h : List UInt8) (l : List Rsl.T) : Bool := (List.range l.length).all (pageAt l) && (decide (l.length ≤ 12) && frontOk h)
theorem org_page {h : List UInt8} {l : List Rsl.T} {i : Nat} (hi : i < l.length) (h1 : pageOk (l.getD i Rsl.nov) = false) : orgOk h l = false := by
  unfold orgOk
  rw [range_bad (f := pageAt l) hi (by unfold pageAt; rw [h1]; rfl)]; rfl
theorem org_find {h : List UInt8} {l : List Rsl.T} {i : Nat} (hi : i < l.length) (h1 : Org.frs (l.getD i Rsl.nov).et l ≠ (i : Int)) : orgOk h l = false := by
  unfold orgOk
  rw [range_bad (f := pageAt l) hi (by unfold pageAt; rw [decide_eq_false h1, Bool.and_false])]; rfl
theorem page_step {l : List Rsl.T} {i : Nat} (ha : (List.range i).all (pageAt l) = true) (h1 : pageOk (l.getD i Rsl.nov) = true) (h2 : Org.frs (l.getD i Rsl.nov).et l = (i : Int)) : (List.range (i + 1)).all (pageAt l) = true :=
  range_step ha (by unfold pageAt; rw [h1, decide_eq_true h2]; rfl)
theorem org_rest {h : List UInt8} {l : List Rsl.T} (ha : (List.range l.length).all (pageAt l) = true) : orgOk h l = (decide (l.length ≤ 12) && frontOk h) := by unfold orgOk; rw [ha]; rfl

/-- Each once. -/
def onceN (l : L) : Nat := (l.foldl keepOne []).length
theorem onceN_full (l : L) : decide (onceN l = l.length) = decide (l.Nodup) := by
  unfold onceN
  exact decide_eq_decide.2 (once_full l)
theorem range_all {α : Type} (l : List α) (z : α) (f : α → Bool) : (List.range l.length).all (fun i => f (l.getD i z)) = l.all f := by
  rw [Bool.eq_iff_iff, List.all_eq_true, List.all_eq_true]
  constructor
  · intro h x hx
    obtain ⟨i, hi, rfl⟩ := List.getElem_of_mem hx
    have := h i (List.mem_range.2 hi)
    rwa [show l.getD i z = l[i] by simp [List.getD, hi]] at this
  · intro h i hi
    have hi := List.mem_range.1 hi
    rw [show l.getD i z = l[i] by simp [List.getD, hi]]
    exact h _ (List.getElem_mem _)
theorem frs_self {l : List Rsl.T} {i : Nat} (hi : i < l.length) : Org.frs (l.getD i Rsl.nov).et l = (i : Int) ↔ (l.map (fun e => e.et)).findIdx (fun x => x == (l.map (fun e => e.et))[i]'(by simpa using hi)) = i := by
  have hg : l.getD i Rsl.nov = l[i] := by simp [List.getD, hi]
  have hlt : Org.fix (l.getD i Rsl.nov).et l < l.length := by
    unfold Org.fix
    rw [List.findIdx_lt_length]
    exact ⟨l[i], List.getElem_mem _, by rw [hg]; simp⟩
  have hfi : (l.map (fun e => e.et)).findIdx (fun x => x == (l.map (fun e => e.et))[i]'(by simpa using hi)) = Org.fix (l.getD i Rsl.nov).et l := by
    unfold Org.fix
    rw [List.findIdx_map, hg]
    simp only [List.getElem_map]
    rfl
  rw [hfi]
  unfold Org.frs
  rw [if_pos hlt]
  omega
theorem pages_all (l : List Rsl.T) : (List.range l.length).all (pageAt l) = (l.all pageOk && decide (onceN (l.map (fun e => e.et)) = l.length)) := by
  have h0 : onceN (l.map (fun e => e.et)) = l.length ↔ (l.map (fun e => e.et)).Nodup := by
    have := once_full (l.map (fun e => e.et))
    rwa [List.length_map] at this
  rw [Bool.eq_iff_iff, Bool.and_eq_true, decide_eq_true_iff, h0, ← find_self, List.all_eq_true]
  constructor
  · intro h
    have h2 : ∀ i (hi : i < l.length), pageOk l[i] = true ∧ Org.frs (l.getD i Rsl.nov).et l = (i : Int) := fun i hi => by
      have := h i (List.mem_range.2 hi)
      unfold pageAt at this
      rw [Bool.and_eq_true, decide_eq_true_iff] at this
      rwa [show l.getD i Rsl.nov = l[i] by simp [List.getD, hi]] at this ⊢
    refine ⟨List.all_eq_true.2 fun x hx => ?_, fun i hi => ?_⟩
    · obtain ⟨i, hi, rfl⟩ := List.getElem_of_mem hx
      exact (h2 i hi).1
    · have hi' : i < l.length := by simpa using hi
      exact (frs_self hi').1 (h2 i hi').2
  · rintro ⟨h1, h2⟩ i hi
    have hi := List.mem_range.1 hi
    unfold pageAt
    rw [Bool.and_eq_true, decide_eq_true_iff]
    refine ⟨?_, (frs_self hi).2 (h2 i (by simpa using hi))⟩
    rw [show l.getD i Rsl.nov = l[i] by simp [List.getD, hi]]
    exact List.all_eq_true.1 h1 _ (List.getElem_mem _)
/-- An origin, as the program tests it. -/
theorem org_prog (h : List UInt8) (l : List Rsl.T) : orgOk h l = ((decide (l.length ≤ 12) && frontOk h) && (l.all pageOk && decide (onceN (l.map (fun e => e.et)) = l.length))) := by
  unfold orgOk
  rw [pages_all, Bool.and_comm]

theorem langs_all (gs : List (List UInt8)) : langsOk gs = (gs.all langForm && decide (onceN gs = gs.length)) := by
  have h0 : onceN gs = gs.length ↔ gs.Nodup := once_full gs
  rw [Bool.eq_iff_iff, Bool.and_eq_true, decide_eq_true_iff, h0]
  unfold langsOk
  rw [List.all_eq_true, List.nodup_iff_pairwise_ne, List.pairwise_iff_getElem, List.all_eq_true]
  constructor
  · intro h
    refine ⟨fun x hx => ?_, fun i j hi hj hij e => ?_⟩
    · obtain ⟨i, hi, rfl⟩ := List.getElem_of_mem hx
      have := h i (List.mem_range.2 hi)
      unfold langAt at this
      rw [Bool.and_eq_true] at this
      rw [show gs.getD i [] = gs[i] by simp [List.getD, hi]] at this
      exact this.2
    · have := h j (List.mem_range.2 hj)
      unfold langAt at this
      rw [Bool.and_eq_true, List.all_eq_true] at this
      have h3 := this.1 i (List.mem_range.2 hij)
      rw [show gs.getD i [] = gs[i] by simp [List.getD, hi], show gs.getD j [] = gs[j] by simp [List.getD, hj], e] at h3
      simp at h3
  · rintro ⟨h1, h2⟩ i hi
    have hi := List.mem_range.1 hi
    unfold langAt
    rw [Bool.and_eq_true, List.all_eq_true]
    refine ⟨fun k hk => ?_, ?_⟩
    · have hk := List.mem_range.1 hk
      have := h2 k i (by omega) hi hk
      rw [show gs.getD k [] = gs[k]'(by omega) by simp [List.getD, show k < gs.length by omega], show gs.getD i [] = gs[i] by simp [List.getD, hi]]
      simpa using this
    · rw [show gs.getD i [] = gs[i] by simp [List.getD, hi]]
      exact h1 _ (List.getElem_mem _)
/-- A page, as the program tests it. -/
def pageP (e : Rsl.T) : Bool := decide (e.et.length ≤ 100) && (Nt.isnt e.et && (decide (e.ec.length ≤ 150) && (Tx.valOk e.ec && (keysOk e.ek && ((decide (e.egs.length ≤ 4) && (decide (onceN e.egs = e.egs.length) && e.egs.all langForm)) && (versOk e.evs && decide (1 ≤ e.evs.length ∧ e.evs.length ≤ 8)))))))
theorem page_prog (e : Rsl.T) : pageOk e = pageP e := by
  unfold pageOk pageP resOk restOk
  rw [langs_all]
  cases (e.egs.all langForm) <;> cases decide (onceN e.egs = e.egs.length) <;> cases versOk e.evs <;> cases Nt.isnt e.et <;> cases decide (e.et.length ≤ 100) <;> cases Tx.valOk e.ec <;> cases decide (e.ec.length ≤ 150) <;> cases keysOk e.ek <;> cases decide (e.egs.length ≤ 4) <;> simp
end Go.Proofs.YtndbhjgfaghelaaGreatDoor.Orc
