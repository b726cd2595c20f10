/-
  CONTRACTS AND PLAIN FACTS, several texts in one; each says in its own words what it proves.
-/
import Derived.Test.YtndbhjgfaghelaaGreatDoorPartO
import Derived.Test.YtndbhjgfaghelaaGreatDoorPartE
import Derived.Outline
import Derived.LoopTactic
import Derived.Test.YtndbhjgfaghelaaGreatDoorPartH
import Derived.Test.YtndbhjgfaghelaaGreatDoorPartC
set_option linter.unusedSimpArgs false
set_option linter.unusedVariables false

/-
  CONTRACTS of AreFields, the model's and the program's (by slices.ContainsFunc): at most 24 fields, each with a proper name and value; nothing that was there before is changed.
-/
namespace Go.Proofs.YtndbhjgfaghelaaGreatDoor.Flds
open Go Go.RowKit
set_option linter.unusedVariables false
set_option maxRecDepth 1000000

def fldOk (f : Fld) : Bool := Tx.nameOk f.1 && Tx.valOk f.2
def fldsOk (l : List Fld) : Bool := l.all fldOk && decide (l.length ≤ 24)
theorem size_of {l : List Fld} {k : Nat} (h : k < l.length) : (l.getD k nofld).1.length ≤ total l ∧ (l.getD k nofld).2.length ≤ total l := by
  have h1 := pre_more h
  have h2 : pre l (k + 1) ≤ total l := by
    unfold pre total
    conv => rhs; rw [← List.take_append_drop (k + 1) l]
    rw [List.map_append, List.sum_append]; omega
  omega
theorem all_more {l : List Fld} {k : Nat} (h : k < l.length) : (l.take (k + 1)).all fldOk = ((l.take k).all fldOk && fldOk (l.getD k nofld)) := by
  rw [List.take_succ_eq_append_getElem h, List.all_append, show l.getD k nofld = l[k] by simp [List.getD, h]]; simp
theorem all_bad {l : List Fld} {k : Nat} (h : k < l.length) (e : fldOk (l.getD k nofld) = false) : l.all fldOk = false := by
  rw [Bool.eq_false_iff]
  intro ha
  rw [List.all_eq_true] at ha
  have := ha l[k] (List.getElem_mem _)
  rw [show l.getD k nofld = l[k] by simp [List.getD, h]] at e
  rw [e] at this; cases this
theorem ret_b {a b : Bool} (h : a = b) : Ending.returned (.bool a) = .returned (.bool b) := by rw [h]
theorem shape_any {w : World} {B : Nat} {v : Value} {l : List Fld} (h : Holds w B v l) : ∃ a cap, v = .slice a l.length cap ∧ (0 < l.length → ∃ b off, a = some ⟨b, off, none⟩ ∧ b < B ∧ At w b off l) := by
  rcases h with ⟨rfl, a, cap, rfl⟩ | ⟨h0, b, off, cap, rfl, hb, _, hc⟩
  · exact ⟨a, cap, rfl, fun h => by simp at h⟩
  · exact ⟨_, cap, rfl, fun _ => ⟨b, off, rfl, hb, hc⟩⟩

def AreEnd (l : List Fld) (w : World) (e : Ending) (w' : World) : Prop := e = .returned (.bool (fldsOk l)) ∧ Below w.heap.size w w'

set_option maxHeartbeats 2000000 in
theorem spec_are (v : Value) (B : Nat) (l : List Fld) (w : World) (h : Holds w B v l) (hB : B ≤ w.heap.size) (hl : total l ≤ 1048576) :
    Calls Tryz.prog 165 #[v] w (AreEnd l w) := by
  have hll : l.length ≤ 1048576 := by unfold total at hl; omega
  obtain ⟨a, cap, rfl, ha⟩ := shape_any h
  have HA := Lib.hid ha
  have HT := Lib.hid hl
  clear ha h hl
  go_enter Tryz.func165, Tryz.ntmps165
  go_wp2
  go_loopw [3] (fun i wr => ∃ k : Nat, k ≤ l.length ∧ i = .int .i64 (k : Int) ∧ Hid ((l.take k).all fldOk = true) ∧ Below w.heap.size w wr) (fun i _ => l.length - (intOf i).toNat)
  case atStart => exact ⟨0, Nat.zero_le _, rfl, rfl, Below.refl _ _⟩
  case round =>
    obtain ⟨k, hk, rfl, hn, hb⟩ := hrel
    by_cases hlt : k < l.length
    · obtain ⟨b, off, rfl, hbl, hc⟩ := HA.out (by omega)
      obtain ⟨c1, c2⟩ := at_below hc hb (by omega) k hlt
      have HC := Lib.hid hc
      have HB := Lib.hid hb
      have HM := Lib.hid (all_more hlt)
      have HX : Hid (fldOk (l.getD k nofld) = false → fldsOk l = false) := Lib.hid (fun e => by unfold fldsOk; rw [all_bad hlt e]; rfl)
      obtain ⟨z1, z2⟩ := size_of hlt
      have HZ := Lib.hid (And.intro (Nat.le_trans z1 HT.out) (Nat.le_trans z2 HT.out))
      generalize hx : l.getD k nofld = f at c1 c2 HM HX HZ
      obtain ⟨x, y⟩ := f
      have HE := Lib.hid hx
      clear hx hb hc z1 z2
      unfold sv at c1 c2
      unfold fldOk at HX
      have HN := Lib.hid (Tx.spec_name x wr HZ.out.1)
      have HV : Hid (∀ wz : World, Calls Tryz.prog 114 #[.string ⟨y.toArray⟩] wz fun e w' => e = .returned (.bool (Tx.valOk y)) ∧ wz = w') := Lib.hid (fun wz => Tx.spec_val ⟨y.toArray⟩ wz (by have := HZ.out.2; simp [ByteArray.size]; exact this))
      have HF : Hid (fldOk (x, y) = (Tx.nameOk x && Tx.valOk y)) := Lib.hid rfl
      simp only at HX
      generalize Tx.nameOk x = p at HN HX HF
      generalize Tx.valOk y = q at HV HX HF
      go_wp2_with (fail)
      go_at_call 112
      refine HN.out.mono ?_
      rintro e w1 ⟨rfl, hb1⟩
      have hb2 := Base.then_below HB.out hb1
      have d2 : w1.cell? ⟨b, off + k * 2 + 1, none⟩ = some (.string ⟨y.toArray⟩) := by
        have h := (at_below HC.out hb2 (by omega) k hlt).2
        rw [HE.out] at h; exact h
      have HB := Lib.hid hb2
      clear hb1 hb2 c1 c2
      cases p
      · have HR : Hid (false = fldsOk l) := Lib.hid (HX.out rfl).symm
        clear HX HM hn
        go_wp2
        go_ret
        exact ⟨ret_b HR.out, HB.out⟩
      · cases q
        · have HR : Hid (false = fldsOk l) := Lib.hid (HX.out rfl).symm
          clear HX HM hn
          go_wp2_with (go_at_call 114; refine (HV.out w1).mono ?_; rintro e w2 ⟨rfl, rfl⟩)
          go_ret
          exact ⟨ret_b HR.out, HB.out⟩
        · have HT2 : Hid ((l.take (k + 1)).all fldOk = true) := Lib.hid (by rw [HM.out, hn.out, HF.out]; rfl)
          clear HX HM hn
          go_wp2_with (go_at_call 114; refine (HV.out w1).mono ?_; rintro e w2 ⟨rfl, rfl⟩)
          go_roundw
          case rel => exact ⟨k + 1, by omega, by go_num, HT2.out, HB.out⟩
          case measure => simp [intOf]; omega
    · have HR : Hid (decide ((l.length : Int) ≤ 24) = fldsOk l) := Lib.hid (by
        have h := hn.out
        rw [List.take_of_length_le (by omega)] at h
        unfold fldsOk; rw [h, Bool.true_and, Bool.eq_iff_iff]; simp; omega)
      have HB := Lib.hid hb
      clear hb hn
      by_cases h24 : l.length ≤ 24
      · have hi : (l.length : Int) ≤ 24 := by omega
        have HR' : Hid (true = fldsOk l) := Lib.hid (by rw [← HR.out]; simp; omega)
        clear HR
        go_wp2
        go_ret
        exact ⟨ret_b HR'.out, HB.out⟩
      · have hi : ¬ (l.length : Int) ≤ 24 := by omega
        have HR' : Hid (false = fldsOk l) := Lib.hid (by rw [← HR.out]; symm; simp; omega)
        clear HR
        go_wp2
        go_ret
        exact ⟨ret_b HR'.out, HB.out⟩

/-! The program's. -/
theorem are_closure (x y : List UInt8) (w : World) (h1 : x.length ≤ 1048576) (h2 : y.length ≤ 1048576) :
    Calls Tryz.prog 227 #[.agg #[.string ⟨x.toArray⟩, .string ⟨y.toArray⟩]] w fun e w' => e = .returned (.bool (!fldOk (x, y))) ∧ Below w.heap.size w w' := by
  have HN := Lib.hid (Tx.impl_name x (w.alloc (.cells #[.string ⟨x.toArray⟩, .string ⟨y.toArray⟩] 75)) h1)
  have HV : Hid (∀ wz : World, Calls Tryz.prog 124 #[.string ⟨y.toArray⟩] wz fun e w' => e = .returned (.bool (Tx.valOk y)) ∧ Below wz.heap.size wz w') := Lib.hid (fun wz => Tx.impl_val y wz h2)
  have hba : Below w.heap.size w (w.alloc (.cells #[.string ⟨x.toArray⟩, .string ⟨y.toArray⟩] 75)) := (Below.refl _ _).alloc (Nat.le_refl _) _
  have n2 : (w.alloc (.cells #[.string ⟨x.toArray⟩, .string ⟨y.toArray⟩] 75)).cell? ⟨w.heap.size, 1, none⟩ = some (.string ⟨y.toArray⟩) := by rw [World.cell?_alloc_new]; rfl
  have HA := Lib.hid (And.intro hba n2)
  clear hba n2
  unfold fldOk
  simp only
  generalize Tx.nameOk x = p at HN ⊢
  generalize Tx.valOk y = q at HV ⊢
  go_enter Tryz.func227, Tryz.ntmps227
  go_wp2_with (fail)
  go_at_call 177
  refine HN.out.mono ?_
  rintro e w1 ⟨rfl, hb1⟩
  have d2 : w1.cell? ⟨w.heap.size, 1, none⟩ = some (.string ⟨y.toArray⟩) := (hb1.cell (p := ⟨w.heap.size, 1, none⟩) (by rw [World.size_alloc]; exact Nat.lt_succ_self _)).trans HA.out.2
  have HB := Lib.hid (Base.then_below HA.out.1 hb1)
  clear hb1
  cases p
  · go_wp2
    go_ret
    exact ⟨rfl, HB.out⟩
  · go_wp2_with (fail)
    go_at_call 124
    refine (HV.out w1).mono ?_
    rintro e w2 ⟨rfl, hb2⟩
    have HB2 := Lib.hid (Base.then_below HB.out hb2)
    clear hb2
    cases q
    · go_wp2
      go_ret
      exact ⟨rfl, HB2.out⟩
    · go_wp2
      go_ret
      exact ⟨rfl, HB2.out⟩

def IdxEnd0 (l : List Fld) (w : World) (e : Ending) (w' : World) : Prop := ∃ z : Int, e = .returned (.int .i64 z) ∧ ((0 ≤ z ∧ l.all fldOk = false) ∨ (z < 0 ∧ l.all fldOk = true)) ∧ Below w.heap.size w w'

set_option maxHeartbeats 1000000 in
theorem idx_are (v : Value) (B : Nat) (l : List Fld) (w : World) (h : Holds w B v l) (hB : B ≤ w.heap.size) (hl : total l ≤ 1048576) :
    Calls Tryz.prog 209 #[v, .func (.func 227) #[] #[]] w (IdxEnd0 l w) := by
  have hll : l.length ≤ 1048576 := by unfold total at hl; omega
  obtain ⟨a, cap, rfl, ha⟩ := shape_any h
  have HA := Lib.hid ha
  have HT := Lib.hid hl
  clear ha h hl
  go_enter Tryz.func209, Tryz.ntmps209
  go_wp2
  go_loopw [8] (fun i wr => ∃ k : Nat, k ≤ l.length ∧ i = .int .i64 (k : Int) ∧ Hid ((l.take k).all fldOk = true) ∧ Below w.heap.size w wr) (fun i _ => l.length - (intOf i).toNat)
  case atStart => exact ⟨0, Nat.zero_le _, rfl, rfl, Below.refl _ _⟩
  case round =>
    obtain ⟨k, hk, rfl, hn, hb⟩ := hrel
    by_cases hlt : k < l.length
    · obtain ⟨b, off, rfl, hbl, hc⟩ := HA.out (by omega)
      obtain ⟨c1, c2⟩ := at_below hc hb (by omega) k hlt
      have HB := Lib.hid hb
      have HM := Lib.hid (all_more hlt)
      have HX : Hid (fldOk (l.getD k nofld) = false → l.all fldOk = false) := Lib.hid (all_bad hlt)
      obtain ⟨z1, z2⟩ := size_of hlt
      have HZ := Lib.hid (And.intro (Nat.le_trans z1 HT.out) (Nat.le_trans z2 HT.out))
      generalize l.getD k nofld = f at c1 c2 HM HX HZ
      obtain ⟨x, y⟩ := f
      clear hb hc z1 z2
      unfold sv at c1 c2
      have HK := Lib.hid (are_closure x y wr HZ.out.1 HZ.out.2)
      generalize fldOk (x, y) = q at HK HM HX
      go_wp2_with (fail)
      go_at_call 227
      refine HK.out.mono ?_
      rintro e w1 ⟨rfl, hb1⟩
      have HB1 := Lib.hid (Base.then_below HB.out hb1)
      clear hb1
      cases q
      · have HR : Hid (l.all fldOk = false) := Lib.hid (HX.out rfl)
        clear HX HM hn
        go_wp2
        go_ret
        exact ⟨_, rfl, Or.inl ⟨by omega, HR.out⟩, HB1.out⟩
      · have HR : Hid ((l.take (k + 1)).all fldOk = true) := Lib.hid (by rw [HM.out, hn.out]; rfl)
        clear HX HM hn
        go_wp2
        go_roundw
        case rel => exact ⟨k + 1, by omega, by go_num, HR.out, HB1.out⟩
        case measure => simp [intOf]; omega
    · have HR : Hid (l.all fldOk = true) := Lib.hid (by have h := hn.out; rwa [List.take_of_length_le (by omega)] at h)
      go_wp2
      go_ret
      exact ⟨_, rfl, Or.inr ⟨by decide, HR.out⟩, hb⟩

theorem contains_are (v : Value) (B : Nat) (l : List Fld) (w : World) (h : Holds w B v l) (hB : B ≤ w.heap.size) (hl : total l ≤ 1048576) :
    Calls Tryz.prog 152 #[v, .func (.func 227) #[] #[]] w fun e w' => e = .returned (.bool (!l.all fldOk)) ∧ Below w.heap.size w w' := by
  have HI := Lib.hid (idx_are v B l w h hB hl)
  clear h
  go_enter Tryz.func152, Tryz.ntmps152
  go_wp2_with (fail)
  go_at_call 209
  refine HI.out.mono ?_
  rintro e w1 ⟨z, rfl, hz, hb⟩
  rcases hz with ⟨hz, hp⟩ | ⟨hz, hp⟩
  · have HP := Lib.hid hp
    have HB := Lib.hid hb
    clear hb hp
    go_wp2
    go_ret
    exact ⟨congrArg (fun q => Ending.returned (.bool q)) (show true = !l.all fldOk by rw [HP.out]; rfl), HB.out⟩
  · have HP := Lib.hid hp
    have hzn : ¬ 0 ≤ z := by omega
    have HB := Lib.hid hb
    clear hb hp
    go_wp2
    go_ret
    exact ⟨congrArg (fun q => Ending.returned (.bool q)) (show decide (0 ≤ z) = !l.all fldOk by rw [HP.out]; simp; omega), HB.out⟩

theorem impl_are (v : Value) (B : Nat) (l : List Fld) (w : World) (h : Holds w B v l) (hB : B ≤ w.heap.size) (hl : total l ≤ 1048576) :
    Calls Tryz.prog 171 #[v] w (AreEnd l w) := by
  have hll : l.length ≤ 1048576 := by unfold total at hl; omega
  have HI := Lib.hid (contains_are v B l w h hB hl)
  obtain ⟨a, cap, rfl, ha⟩ := shape_any h
  have HF : Hid (fldsOk l = (l.all fldOk && decide (l.length ≤ 24))) := Lib.hid rfl
  clear h ha hl
  by_cases h24 : l.length ≤ 24
  · have hi : (l.length : Int) ≤ 24 := by omega
    have HF' : Hid (fldsOk l = l.all fldOk) := Lib.hid (by rw [HF.out]; simp [h24])
    clear HF
    generalize l.all fldOk = q at HI HF'
    go_enter Tryz.func171, Tryz.ntmps171
    go_wp2_with (fail)
    go_at_call 152
    refine HI.out.mono ?_
    rintro e w1 ⟨rfl, hb⟩
    go_wp2
    go_ret
    refine ⟨congrArg (fun q => Ending.returned (.bool q)) (show _ = fldsOk l from ?_), hb⟩
    rw [HF'.out]
    all_goals simp
  · have hi : ¬ (l.length : Int) ≤ 24 := by omega
    have HF' : Hid (false = fldsOk l) := Lib.hid (by rw [HF.out]; simp [h24])
    clear HF HI
    go_enter Tryz.func171, Tryz.ntmps171
    go_wp2
    go_ret
    exact ⟨ret_b HF'.out, Below.refl _ _⟩
end Go.Proofs.YtndbhjgfaghelaaGreatDoor.Flds

/-
  CONTRACT of the program's filterFields, at any closure with one captured variable that only reads: it returns, in new memory, the fields that the closure keeps; nothing that was there before is changed.
-/
namespace Go.Proofs.YtndbhjgfaghelaaGreatDoor.Flds
open Go Go.RowKit
set_option linter.unusedVariables false
set_option maxRecDepth 1000000

theorem filt_more {p : Fld → Bool} {l : List Fld} {k : Nat} (h : k < l.length) : (l.take (k + 1)).filter p = if p (l.getD k nofld) = true then (l.take k).filter p ++ [l.getD k nofld] else (l.take k).filter p := by
  rw [List.take_succ_eq_append_getElem h, List.filter_append]
  have e : l.getD k nofld = l[k] := by simp [List.getD, h]
  rw [e]
  by_cases hp : p l[k] = true
  · simp [hp]
  · simp [hp]
theorem filt_le (p : Fld → Bool) (l : List Fld) (k : Nat) : ((l.take k).filter p).length ≤ l.length := by
  have h1 := List.length_filter_le p (l.take k); have h2 := List.length_take_le' k l; omega

def FilterEnd (l : List Fld) (w : World) (e : Ending) (w' : World) : Prop := ∃ v, e = .returned v ∧ Own w' w.heap.size v l ∧ Below w.heap.size w w'
/-- K is a function with a body. -/
def Enters (K : FuncId) : Prop := ∀ (args : Array Value) (w : World), Sem.run Tryz.prog (callFunc K args) w = .ok (.enter K args) w
/-- What a closure that keeps by 'p' does, at every world that has only grown. -/
def Keeps (K : FuncId) (q : Value) (p : Fld → Bool) (w : World) : Prop := ∀ (x y : List UInt8) (wx : World), Below w.heap.size w wx → Calls Tryz.prog K #[.agg #[.string ⟨x.toArray⟩, .string ⟨y.toArray⟩], q] wx fun e w' => e = .returned (.bool (p (x, y))) ∧ Below wx.heap.size wx w'

theorem filter_nil (K : FuncId) (q : Value) (a : Option Addr) (cap : Nat) (w : World) :
    Calls Tryz.prog 41 #[.slice a 0 cap, .func (.func K) #[] #[q]] w (FilterEnd [] w) := by
  go_enter Tryz.func41, Tryz.ntmps41
  go_wp2
  go_loop [5, 11] (fun v i => i = .int .i64 0 ∧ v = .slice (some ⟨w.heap.size, 0, none⟩) 0 0) (fun _ i => 0)
  case atStart => exact ⟨rfl, rfl⟩
  case round =>
    obtain ⟨rfl, rfl⟩ := hrel
    go_wp2
    go_ret
    exact ⟨_, rfl, own_lit_nil w, (Below.refl _ _).alloc (Nat.le_refl _) _⟩

theorem alloc_two (w : World) (x y : Value) (T : TypeId) : (w.alloc (.cells #[x, y] T)).cell? ⟨w.heap.size, 0, none⟩ = some x ∧ (w.alloc (.cells #[x, y] T)).cell? ⟨w.heap.size, 1, none⟩ = some y := ⟨by rw [World.cell?_alloc_new]; rfl, by rw [World.cell?_alloc_new]; rfl⟩

set_option maxHeartbeats 1000000 in
theorem filter_some (K : FuncId) (q : Value) (p : Fld → Bool) (b off cap : Nat) (l : List Fld) (w : World) (hE : Enters K) (hK : Keeps K q p w) (hc : At w b off l) (h0 : 0 < l.length) (hl : l.length ≤ 1048576) :
    Calls Tryz.prog 41 #[.slice (some ⟨b, off, none⟩) l.length cap, .func (.func K) #[] #[q]] w (FilterEnd (l.filter p) w) := by
  obtain ⟨i0, hi, hz0, hz1, hz2⟩ := info_parts info_fld
  have hbl := at_lt hc h0
  have HC := Lib.hid hc
  have HK := Lib.hid hK
  have HO := Lib.hid (own_lit_nil w)
  have HE := Lib.hid hE
  clear hc hK hE
  go_enter Tryz.func41, Tryz.ntmps41
  go_wp2
  go_loopw [5, 11] (fun v i wr => ∃ k : Nat, k ≤ l.length ∧ i = .int .i64 (k : Int) ∧ Own wr w.heap.size v ((l.take k).filter p) ∧ Below w.heap.size w wr) (fun _ i _ => l.length - (intOf i).toNat)
  case atStart => exact ⟨0, Nat.zero_le _, rfl, by rw [List.take_zero]; exact HO.out, (Below.refl _ _).alloc (Nat.le_refl _) _⟩
  case round =>
    clear HO
    obtain ⟨k, hk, rfl, hown, hb⟩ := hrel
    by_cases hlt : k < l.length
    · obtain ⟨c1, c2⟩ := at_below HC.out hb hbl k hlt
      have HM := Lib.hid (filt_more (p := p) hlt)
      generalize hx : l.getD k nofld = f at c1 c2 HM
      clear hx
      obtain ⟨x, y⟩ := f
      unfold sv at c1 c2
      have HB := Lib.hid hb
      have HO := Lib.hid hown
      clear hb hown
      have hws := HB.out.size
      have hwa := alloc_two wr (.string ⟨x.toArray⟩) (.string ⟨y.toArray⟩) 75
      have HKx := Lib.hid (HK.out x y (wr.alloc (.cells #[.string ⟨x.toArray⟩, .string ⟨y.toArray⟩] 75)) (HB.out.alloc HB.out.size _))
      by_cases hp : p (x, y) = true
      · rw [hp] at HKx
        rw [if_pos hp] at HM
        clear hp
        have hL := fcs_len ((l.take k).filter p)
        have HL := Lib.hid (filt_le p l k)
        go_wp2_with (fail)
        rw [HE.out, Oper.upon_enter]
        refine HKx.out.mono ?_
        rintro e w1 ⟨rfl, hb1⟩
        have hg1 := hb1.size
        rw [World.size_alloc] at hg1
        have d1 : w1.cell? ⟨wr.heap.size, 0, none⟩ = some (.string ⟨x.toArray⟩) := (hb1.cell (p := ⟨wr.heap.size, 0, none⟩) (by rw [World.size_alloc]; exact Nat.lt_succ_self _)).trans hwa.1
        have d2 : w1.cell? ⟨wr.heap.size, 1, none⟩ = some (.string ⟨y.toArray⟩) := (hb1.cell (p := ⟨wr.heap.size, 1, none⟩) (by rw [World.size_alloc]; exact Nat.lt_succ_self _)).trans hwa.2
        have hbb : Below wr.heap.size wr w1 := ((Below.refl wr.heap.size wr).alloc (Nat.le_refl _) _).trans (hb1.mono (by rw [World.size_alloc]; omega))
        have hown := own_below HO.out hbb
        have hb := HB.out.trans (hbb.mono HB.out.size)
        clear hb1 hbb
        go_wp2_with (at_builtin; refine wpList_append_own _ rfl (.tmp 18) (.tmp 20) 24 rfl w.heap.size 75 i0 (.agg #[.string ⟨#[]⟩, .string ⟨#[]⟩]) 2 32 Tryz.underlying24 hi hz0 hz1 hz2 rfl (by decide) _ _ _ rfl (hown.alloc _) ⟨w1.heap.size, 0, none⟩ 1 1 [.string ⟨x.toArray⟩, .string ⟨y.toArray⟩] rfl rfl (news_two _ _ _ _) (two_one (x, y)) (by have := HL.out; unfold maxLen; omega) (by have := HL.out; omega) (by have := hb.size; simp; omega) ?_; intro v1 w2 hown1 hg2 _)
        have R := Lib.hid (push_own (f := (x, y)) hown hb (Nat.le_refl _) hown1 hg2)
        clear hown hown1 hg2 hb
        go_wp2
        go_roundw
        case rel => exact ⟨k + 1, by omega, by go_num, by rw [HM.out]; exact R.out.1, R.out.2⟩
        case measure => simp [intOf]; omega
      · have hp' : p (x, y) = false := by simpa using hp
        rw [hp'] at HKx
        rw [if_neg hp] at HM
        clear hp hp'
        go_wp2_with (fail)
        rw [HE.out, Oper.upon_enter]
        refine HKx.out.mono ?_
        rintro e w1 ⟨rfl, hb1⟩
        have hbb : Below wr.heap.size wr w1 := ((Below.refl wr.heap.size wr).alloc (Nat.le_refl _) _).trans (hb1.mono (by rw [World.size_alloc]; omega))
        have HR := Lib.hid (And.intro (own_below HO.out hbb) (HB.out.trans (hbb.mono HB.out.size)))
        clear hb1 hbb
        go_wp2
        go_roundw
        case rel => exact ⟨k + 1, by omega, by go_num, by rw [HM.out]; exact HR.out.1, HR.out.2⟩
        case measure => simp [intOf]; omega
    · have HF : Hid ((l.take k).filter p = l.filter p) := Lib.hid (by rw [List.take_of_length_le (by omega)])
      have HO := Lib.hid (And.intro hown hb)
      clear hown hb
      go_wp2
      go_ret
      exact ⟨_, rfl, by rw [← HF.out]; exact HO.out.1, HO.out.2⟩

theorem filter_any (K : FuncId) (q : Value) (p : Fld → Bool) (v : Value) (B : Nat) (l : List Fld) (w : World) (hE : Enters K) (hK : Keeps K q p w) (h : Holds w B v l) (hl : l.length ≤ 1048576) :
    Calls Tryz.prog 41 #[v, .func (.func K) #[] #[q]] w (FilterEnd (l.filter p) w) := by
  rcases h with ⟨rfl, a, cap, rfl⟩ | ⟨h0, b, off, cap, rfl, _, _, hc⟩
  · exact filter_nil K q a cap w
  · exact filter_some K q p b off cap l w hE hK hc h0 hl

/-! The closures of GetField and DropField: one captured text. -/
theorem enters_get : Enters 42 := fun args w => rfl
end Go.Proofs.YtndbhjgfaghelaaGreatDoor.Flds

/-
  CONTRACT of the model's JoinList: at every slice of texts that are not too long together it returns the texts with a comma and a space between them; nothing that was there before is changed.
-/
namespace Go.Proofs.YtndbhjgfaghelaaGreatDoor.Tx
open Go Go.RowKit Strs
set_option linter.unusedVariables false
set_option maxRecDepth 1000000

theorem spec_join_nil (a : Option Addr) (cap : Nat) (w : World) :
    Calls Tryz.prog 138 #[.slice a 0 cap] w (JoinEnd [] w) := by
  go_enter Tryz.func138, Tryz.ntmps138
  go_wp2
  go_loop [3, 4] (fun s i => i = .int .i64 0 ∧ s = .string ⟨#[]⟩) (fun _ i => 0)
  case atStart => exact ⟨rfl, rfl⟩
  case round =>
    obtain ⟨rfl, rfl⟩ := hrel
    go_wp2
    go_ret
    exact ⟨rfl, Below.refl _ _⟩

set_option maxHeartbeats 1000000 in
theorem spec_join_some (b off cap : Nat) (xs : List (List UInt8)) (w : World) (hc : At w b off xs) (h0 : 0 < xs.length) (ht : total xs ≤ 67108864) :
    Calls Tryz.prog 138 #[.slice (some ⟨b, off, none⟩) xs.length cap] w (JoinEnd xs w) := by
  have hl : xs.length ≤ 67108864 := by unfold total at ht; omega
  have HC := Lib.hid hc
  have HT := Lib.hid ht
  clear hc ht
  go_enter Tryz.func138, Tryz.ntmps138
  go_wp2
  go_loop [3, 4] (fun s i => ∃ k : Nat, k ≤ xs.length ∧ i = .int .i64 (k : Int) ∧ s = .string ⟨(join (xs.take k)).toArray⟩) (fun _ i => xs.length - (intOf i).toNat)
  case atStart => exact ⟨0, Nat.zero_le _, rfl, rfl⟩
  case round =>
    obtain ⟨k, hk, rfl, rfl⟩ := hrel
    by_cases hlt : k < xs.length
    · have hcell := HC.out k hlt
      have HJ := Lib.hid (join_len xs k hk)
      have HP := Lib.hid (pre_more hlt)
      have HPL := Lib.hid (pre_le xs (k + 1))
      unfold sv at hcell
      by_cases hz : 0 < k
      · have hzi : 0 < (k : Int) := by omega
        have HM := Lib.hid (join_more hlt hz)
        generalize xs.getD k [] = x at *
        generalize join (xs.take k) = y at *
        have hadd1 := addtwo y [44, 32] (by have := HJ.out; have := HP.out; have := HPL.out; have := HT.out; unfold total at this; simp only [List.length_append, List.length_cons, List.length_nil]; omega)
        have hadd2 := addtwo (y ++ [44, 32]) x (by have := HJ.out; have := HP.out; have := HPL.out; have := HT.out; unfold total at this; simp only [List.length_append, List.length_cons, List.length_nil]; omega)
        go_wp2
        go_round
        case rel => exact ⟨k + 1, by omega, by go_num, by rw [HM.out]; simp⟩
        case measure => simp [intOf]; omega
      · have hzi : ¬ 0 < (k : Int) := by omega
        have h00 : join (xs.take k) = [] := by rw [show k = 0 by omega]; rfl
        have HM : Hid (join (xs.take (k + 1)) = xs.getD k []) := Lib.hid (by rw [show k = 0 by omega]; exact join_first h0)
        rw [h00]
        clear h00 HJ
        generalize xs.getD k [] = x at *
        have hadd2 : ∀ W, (Op.stringOp .add ⟨#[]⟩ ⟨x.toArray⟩).run Tryz.prog W = .ok (.string ⟨x.toArray⟩) W := addtwo [] x (by have := HP.out; have := HPL.out; have := HT.out; unfold total at this; simp only [List.length_append, List.length_cons, List.length_nil]; omega)
        go_wp2
        go_round
        case rel => exact ⟨k + 1, by omega, by go_num, by rw [HM.out]⟩
        case measure => simp [intOf]; omega
    · have HE : Hid (join (xs.take k) = join xs) := Lib.hid (by rw [List.take_of_length_le (by omega)])
      go_wp2
      go_ret
      exact ⟨ret_join HE.out, Below.refl _ _⟩

theorem spec_join (v : Value) (B : Nat) (xs : List (List UInt8)) (w : World) (h : Holds w B v xs) (ht : total xs ≤ 67108864) :
    Calls Tryz.prog 138 #[v] w (JoinEnd xs w) := by
  rcases h with ⟨rfl, a, cap, rfl⟩ | ⟨h0, b, off, cap, rfl, _, _, hc⟩
  · exact spec_join_nil a cap w
  · exact spec_join_some b off cap xs w hc h0 ht

end Go.Proofs.YtndbhjgfaghelaaGreatDoor.Tx

/-
  CONTRACT of the program's JoinList: at every slice of texts that are not too long together it returns the texts with a comma and a space between them; nothing that was there before is changed.
-/
namespace Go.Proofs.YtndbhjgfaghelaaGreatDoor.Tx
open Go Go.RowKit Strs
set_option linter.unusedVariables false
set_option maxRecDepth 1000000

theorem lib_join (v : Value) (B : Nat) (xs : List (List UInt8)) (w : World) (h : Holds w B v xs) (ht : total xs ≤ 67108864) :
    Calls Tryz.prog 82 #[v, .string ⟨#[44, 32]⟩] w (JoinEnd xs w) := by
  have hl : xs.length ≤ 67108864 := by unfold total at ht; omega
  rcases h with ⟨rfl, a, cap, rfl⟩ | ⟨h0, b, off, cap, rfl, _, hcap, hc⟩
  · refine (Tryz.strings_Join_none a cap ⟨#[44, 32]⟩ w).mono ?_
    rintro e w' ⟨rfl, rfl⟩
    exact ⟨rfl, Below.refl _ _⟩
  · have hm : (xs.map (fun x => (⟨x.toArray⟩ : ByteArray))).map (·.data.toList) = xs := by rw [List.map_map]; exact List.map_id'' (fun _ => rfl) xs
    have hlen : (Lib.join xs [44, 32]).length ≤ 140737488355328 := by
      have h1 := join_len xs xs.length (Nat.le_refl _)
      rw [List.take_length] at h1
      have h2 := pre_le xs xs.length
      have : (join xs).length = (Lib.join xs [44, 32]).length := rfl
      unfold total at ht; omega
    have c := Tryz.strings_Join b off cap (xs.map (fun x => (⟨x.toArray⟩ : ByteArray))) ⟨#[44, 32]⟩ w (fun j x hj => by
      rw [List.getElem?_map] at hj
      have hjl : j < xs.length := by
        rcases Nat.lt_or_ge j xs.length with h' | h'
        · exact h'
        · rw [List.getElem?_eq_none h'] at hj; cases hj
      rw [hc j hjl]
      rw [List.getElem?_eq_getElem hjl] at hj
      simp at hj; subst hj
      simp [List.getD, hjl, sv]) (at_lt hc h0) (by simp; omega) (by simpa using hcap) (by rw [hm]; exact hlen)
    rw [hm, List.length_map] at c
    exact c

theorem impl_join (v : Value) (B : Nat) (xs : List (List UInt8)) (w : World) (h : Holds w B v xs) (ht : total xs ≤ 67108864) :
    Calls Tryz.prog 43 #[v] w (JoinEnd xs w) := by
  have c1 := lib_join v B xs w h ht
  unfold JoinEnd at c1 ⊢
  generalize (⟨(join xs).toArray⟩ : ByteArray) = z at c1 ⊢
  clear h
  go_enter Tryz.func43, Tryz.ntmps43
  go_wp2_with (go_at_call 82; refine c1.mono ?_; rintro e w1 ⟨rfl, hb⟩)
  go_ret
  exact ⟨rfl, hb⟩
end Go.Proofs.YtndbhjgfaghelaaGreatDoor.Tx

/-
  CONTRACTS of GetField, the model's and the program's: the joined values of the fields with a name, and whether there are any; nothing that was there before is changed.
-/
namespace Go.Proofs.YtndbhjgfaghelaaGreatDoor.Flds
open Go Go.RowKit
set_option linter.unusedVariables false
set_option maxRecDepth 1000000

def vals (n : List UInt8) (l : List Fld) : List (List UInt8) := (l.filter (fun f => f.1 == n)).map (·.2)
theorem vals_total (n : List UInt8) (l : List Fld) : Strs.total (vals n l) ≤ total l := by
  unfold Strs.total total vals
  induction l with
  | nil => simp
  | cons a r ih =>
    by_cases h : (a.1 == n) = true
    · rw [List.filter_cons_of_pos (by exact h)]; simp [wt] at ih ⊢; omega
    · rw [List.filter_cons_of_neg (by exact h)]; simp [wt] at ih ⊢; omega
theorem vals_more {n : List UInt8} {l : List Fld} {k : Nat} (h : k < l.length) : vals n (l.take (k + 1)) = if (l.getD k nofld).1 = n then vals n (l.take k) ++ [(l.getD k nofld).2] else vals n (l.take k) := by
  unfold vals
  rw [filt_more h]
  by_cases e : (l.getD k nofld).1 = n
  · rw [if_pos e, if_pos (by simpa using e), List.map_append]; rfl
  · rw [if_neg e, if_neg (by simpa using e)]
theorem vals_le (n : List UInt8) (l : List Fld) (k : Nat) : (vals n (l.take k)).length ≤ l.length := by
  unfold vals; rw [List.length_map]; exact filt_le _ l k

def GetEnd (n : List UInt8) (l : List Fld) (w : World) (e : Ending) (w' : World) : Prop := e = .returned (.tuple #[.string ⟨(Tx.join (vals n l)).toArray⟩, .bool (decide (0 < (vals n l).length))]) ∧ Below w.heap.size w w'
theorem ret_get {xs ys : List (List UInt8)} {q : Bool} (h : xs = ys) (hq : q = decide (0 < xs.length)) : Ending.returned (.tuple #[.string ⟨(Tx.join xs).toArray⟩, .bool q]) = .returned (.tuple #[.string ⟨(Tx.join ys).toArray⟩, .bool (decide (0 < ys.length))]) := by rw [← h, hq]
theorem shape_of {w : World} {B : Nat} {v : Value} {T : TypeId} {s n : Nat} {xs : List Value} (h : w.ownsRow B T s v n xs) : ∃ a cap, v = .slice a n cap ∧ (0 < n → ∃ g, a = some ⟨g, 0, none⟩) := by
  rcases h.2 with ⟨rfl, h0⟩ | ⟨g, cap, cur, rfl, _⟩
  · exact ⟨none, 0, by rw [h0], fun h' => by omega⟩
  · exact ⟨_, cap, rfl, fun _ => ⟨g, rfl⟩⟩

theorem spec_get_nil (a : Option Addr) (cap : Nat) (n : List UInt8) (w : World) :
    Calls Tryz.prog 92 #[.slice a 0 cap, .string ⟨n.toArray⟩] w (GetEnd n [] w) := by
  have HJ := Lib.hid (Tx.spec_join (.slice (some ⟨w.heap.size, 0, none⟩) 0 0) 0 [] (w.alloc (.cells #[] 9)) (Or.inl ⟨rfl, _, _, rfl⟩) (by decide))
  go_enter Tryz.func92, Tryz.ntmps92
  go_wp2
  go_loop [6, 7] (fun v i => i = .int .i64 0 ∧ v = .slice (some ⟨w.heap.size, 0, none⟩) 0 0) (fun _ i => 0)
  case atStart => exact ⟨rfl, rfl⟩
  case round =>
    obtain ⟨rfl, rfl⟩ := hrel
    go_wp2_with (go_at_call 138; refine HJ.out.mono ?_; rintro e w1 ⟨rfl, hb1⟩)
    go_ret2
    exact ⟨rfl, ((Below.refl _ _).alloc (Nat.le_refl _) _).trans (hb1.mono (by rw [World.size_alloc]; omega))⟩

set_option maxHeartbeats 1000000 in
theorem spec_get_some (b off cap : Nat) (l : List Fld) (n : List UInt8) (w : World) (hc : At w b off l) (h0 : 0 < l.length) (hl : total l ≤ 67108864) :
    Calls Tryz.prog 92 #[.slice (some ⟨b, off, none⟩) l.length cap, .string ⟨n.toArray⟩] w (GetEnd n l w) := by
  obtain ⟨i0, hi, hz0, hz1, hz2⟩ := info_parts Strs.info_str
  have hbl := at_lt hc h0
  have hll : l.length ≤ 67108864 := by unfold total at hl; omega
  have HC := Lib.hid hc
  have HT : Hid (Strs.total (vals n l) ≤ 67108864) := Lib.hid (Nat.le_trans (vals_total n l) hl)
  have HO := Lib.hid (Strs.own_lit_nil w)
  clear hc hl
  go_enter Tryz.func92, Tryz.ntmps92
  go_wp2
  go_loopw [6, 7] (fun v i wr => ∃ k : Nat, k ≤ l.length ∧ i = .int .i64 (k : Int) ∧ Strs.Own wr w.heap.size v (vals n (l.take k)) ∧ Below w.heap.size w wr) (fun _ i _ => l.length - (intOf i).toNat)
  case atStart => exact ⟨0, Nat.zero_le _, rfl, by rw [List.take_zero]; exact HO.out, (Below.refl _ _).alloc (Nat.le_refl _) _⟩
  case round =>
    clear HO
    obtain ⟨k, hk, rfl, hown, hb⟩ := hrel
    by_cases hlt : k < l.length
    · obtain ⟨c1, c2⟩ := at_below HC.out hb hbl k hlt
      have HM := Lib.hid (vals_more (n := n) hlt)
      generalize hx : l.getD k nofld = f at c1 c2 HM
      clear hx
      obtain ⟨x, y⟩ := f
      unfold sv at c1 c2
      by_cases hx : x = n
      · subst hx
        rw [if_pos rfl] at HM
        have HL := Lib.hid (vals_le x l k)
        have hL := Strs.svs_len (vals x (l.take k))
        go_wp2_with (at_builtin; refine wpList_append_own _ rfl (.tmp 22) (.tmp 28) 72 rfl w.heap.size 9 i0 (.string ⟨#[]⟩) 1 16 Tryz.underlying72 hi hz0 hz1 hz2 rfl (by decide) _ _ _ rfl (hown.alloc _) ⟨wr.heap.size, 0, none⟩ 1 1 [.string ⟨y.toArray⟩] rfl rfl (Strs.news_one _ _ _) (Strs.sv_one y) (by have := HL.out; unfold maxLen; omega) (by have := HL.out; omega) (by have := hb.size; simp; omega) ?_; intro v1 w1 hown1 hg1 _)
        have R := Lib.hid (Strs.push_own (x := y) hown hb (Nat.le_refl _) hown1 hg1)
        clear hown hown1 hg1 hb
        go_wp2
        go_roundw
        case rel => exact ⟨k + 1, by omega, by go_num, by rw [HM.out]; exact R.out.1, R.out.2⟩
        case measure => simp [intOf]; omega
      · have hq : (x == n) = false := by simpa using hx
        rw [if_neg hx] at HM
        clear hx
        have HO := Lib.hid (And.intro hown hb)
        clear hown hb
        go_wp2
        go_roundw
        case rel => exact ⟨k + 1, by omega, by go_num, by rw [HM.out]; exact HO.out.1, HO.out.2⟩
        case measure => simp [intOf]; omega
    · have HE : Hid (vals n (l.take k) = vals n l) := Lib.hid (by rw [List.take_of_length_le (by omega)])
      obtain ⟨a, cp, rfl, _⟩ := shape_of hown
      have HJ := Lib.hid (Tx.spec_join _ _ (vals n (l.take k)) wr (Strs.own_holds hown) (by rw [HE.out]; exact HT.out))
      have HB := Lib.hid hb
      clear hown hb
      go_wp2_with (go_at_call 138; refine HJ.out.mono ?_; rintro e w1 ⟨rfl, hb1⟩)
      go_ret2
      exact ⟨ret_get HE.out (by simp), Base.then_below HB.out hb1⟩

theorem spec_get (v : Value) (B : Nat) (l : List Fld) (n : List UInt8) (w : World) (h : Holds w B v l) (hl : total l ≤ 67108864) :
    Calls Tryz.prog 92 #[v, .string ⟨n.toArray⟩] w (GetEnd n l w) := by
  rcases h with ⟨rfl, a, cap, rfl⟩ | ⟨h0, b, off, cap, rfl, _, _, hc⟩
  · exact spec_get_nil a cap n w
  · exact spec_get_some b off cap l n w hc h0 hl

/-! The program's. -/
theorem get_keeps (g : Nat) (n : List UInt8) (w : World) (hc : w.cell? ⟨g, 0, none⟩ = some (.string ⟨n.toArray⟩)) : Keeps 42 (.pointer (some ⟨g, 0, none⟩)) (fun f => f.1 == n) w := by
  intro x y wx hb
  have hg := lt_of_cell hc
  have hgx : g < wx.heap.size := Nat.lt_of_lt_of_le hg hb.size
  have hcx : wx.cell? ⟨g, 0, none⟩ = some (.string ⟨n.toArray⟩) := (hb.cell (p := ⟨g, 0, none⟩) hg).trans hc
  have HB := Lib.hid ((Below.refl wx.heap.size wx).alloc (Nat.le_refl _) (.cells #[.string ⟨x.toArray⟩, .string ⟨y.toArray⟩] 75))
  clear hb hc hg
  by_cases e : x = n
  · subst e
    go_enter Tryz.func42, Tryz.ntmps42
    go_wp2
    go_ret
    exact ⟨by simp, HB.out⟩
  · have hq : (x == n) = false := by simpa using e
    go_enter Tryz.func42, Tryz.ntmps42
    go_wp2
    go_ret
    exact ⟨by simp [e], HB.out⟩

theorem row_apart {w : World} {B B' n n' : Nat} {T T' : TypeId} {sz sz' : Nat} {v v' : Value} {xs xs' : List Value} (h : w.ownsRow B T sz v n xs) (h' : w.ownsRow B' T' sz' v' n' xs') (hT : T ≠ T') : ∀ g, v.ownBlock = some g → some g ≠ v'.ownBlock := by
  intro g hg hg'
  rcases h.2 with ⟨rfl, _⟩ | ⟨a, cap, cur, rfl, _, h2, _⟩
  · cases hg
  · rcases h'.2 with ⟨rfl, _⟩ | ⟨a', cap', cur', rfl, _, h2', _⟩
    · cases hg'
    · cases hg; cases hg'
      rw [h2] at h2'
      simp at h2'
      exact hT h2'.2

set_option maxHeartbeats 1000000 in
theorem impl_get (v : Value) (B : Nat) (l : List Fld) (n : List UInt8) (w : World) (h : Holds w B v l) (hB : B ≤ w.heap.size) (hl : total l ≤ 1048576) :
    Calls Tryz.prog 10 #[v, .string ⟨n.toArray⟩] w (GetEnd n l w) := by
  have hmf : ∀ (fn : Fn) (first cap : Array Value) (w : World), (Instr.makeFunc fn first cap).run Tryz.prog w = .ok (.func fn first cap) w := fun _ _ _ _ => rfl
  obtain ⟨i0, hi, hz0, hz1, hz2⟩ := info_parts Strs.info_str
  have hll : l.length ≤ 1048576 := by unfold total at hl; omega
  have HT : Hid (Strs.total (vals n l) ≤ 67108864) := Lib.hid (Nat.le_trans (vals_total n l) (by omega))
  have hb2 : Below w.heap.size w ((w.alloc (.cells #[.string ⟨n.toArray⟩] 9)).alloc (.cells #[] 9)) := ((Below.refl _ _).alloc (Nat.le_refl _) _).alloc (by simp) _
  have hcn : ((w.alloc (.cells #[.string ⟨n.toArray⟩] 9)).alloc (.cells #[] 9)).cell? ⟨w.heap.size, 0, none⟩ = some (.string ⟨n.toArray⟩) := by
    rw [World.cell?_alloc_past _ _ _ (by simp), World.cell?_alloc_at _ _ _ _ rfl]; rfl
  have hlit : Strs.Own ((w.alloc (.cells #[.string ⟨n.toArray⟩] 9)).alloc (.cells #[] 9)) w.heap.size (.slice (some ⟨w.heap.size + 1, 0, none⟩) 0 0) [] := by
    have h := World.ownsRow_lit (e := 9) (size := 1) (base := w.heap.size) (w.alloc (.cells #[.string ⟨n.toArray⟩] 9)) #[] 0 (by rw [World.size_alloc]; omega) (by decide) rfl
    rw [World.size_alloc] at h; exact h
  have HF := Lib.hid (filter_any 42 (.pointer (some ⟨w.heap.size, 0, none⟩)) (fun f => f.1 == n) v B l _ enters_get (get_keeps w.heap.size n _ hcn) (holds_below h (hb2.mono hB)) hll)
  have HL := Lib.hid (And.intro hlit hb2)
  clear hlit hb2 hcn h
  go_enter Tryz.func10, Tryz.ntmps10
  go_wp2_with (fail)
  go_at_call 41
  refine HF.out.mono ?_
  rintro e w3 ⟨v3, rfl, hown3, hb3⟩
  have hz3 := hb3.size
  simp only [World.size_alloc] at hz3
  have HS := Lib.hid (row_below HL.out.1 hb3)
  have HB := Lib.hid (HL.out.2.trans (hb3.mono (by simp; omega)))
  have HK := Lib.hid (own_mono hown3 (B' := w.heap.size) (by simp; omega))
  have hkn : Hid ((l.filter (fun f => f.1 == n)).length ≤ 1048576) := Lib.hid (Nat.le_trans (List.length_filter_le _ _) hll)
  have HV : Hid ((l.filter (fun f => f.1 == n)).map (·.2) = vals n l) := Lib.hid rfl
  obtain ⟨a, cp, rfl, ha⟩ := shape_of hown3
  clear hb3 hown3 HL HF
  generalize l.filter (fun f => f.1 == n) = ks at HK hkn HV ha
  have HA := Lib.hid ha
  have hkn' := hkn.out
  clear ha hz3
  go_wp2
  go_loopw [6, 14] (fun u i wr => ∃ k : Nat, k ≤ ks.length ∧ i = .int .i64 (k : Int) ∧ Strs.Own wr w.heap.size u ((ks.take k).map (·.2)) ∧ Own wr w.heap.size (.slice a ks.length cp) ks ∧ Below w.heap.size w wr) (fun _ i _ => ks.length - (intOf i).toNat)
  case atStart => exact ⟨0, Nat.zero_le _, rfl, HS.out, HK.out, HB.out⟩
  case round =>
    clear HS HK HB
    obtain ⟨k, hk, rfl, hown, hkeep, hb⟩ := hrel
    by_cases hlt : k < ks.length
    · obtain ⟨g, rfl⟩ := HA.out (by omega)
      obtain ⟨c1, c2⟩ := own_cell hkeep hlt
      have HM : Hid ((ks.take (k + 1)).map (·.2) = (ks.take k).map (·.2) ++ [(ks.getD k nofld).2]) := Lib.hid (by rw [List.take_succ_eq_append_getElem hlt, List.map_append, show ks.getD k nofld = ks[k] by simp [List.getD, hlt]]; rfl)
      have HL : Hid (((ks.take k).map (·.2)).length ≤ ks.length) := Lib.hid (by rw [List.length_map, List.length_take]; omega)
      have HP := Lib.hid (row_apart hkeep hown (by decide))
      generalize hx : ks.getD k nofld = f at c1 c2 HM
      clear hx
      obtain ⟨x, y⟩ := f
      unfold sv at c1 c2
      have hL := Strs.svs_len ((ks.take k).map (·.2))
      have hg1 : g < wr.heap.size := lt_of_cell c1
      have HB := Lib.hid hb
      have HK := Lib.hid hkeep
      clear hb hkeep
      have HO := Lib.hid hown
      have hba : Hid (Below wr.heap.size wr (wr.alloc (.cells #[.string ⟨x.toArray⟩, .string ⟨y.toArray⟩] 75))) := Lib.hid ((Below.refl _ _).alloc (Nat.le_refl _) _)
      have hownA := row_below hown hba.out
      have HBA := Lib.hid (HB.out.trans (hba.out.mono HB.out.size))
      have HKA := Lib.hid (row_below HK.out hba.out)
      have hnews : ∀ j u, [(.string ⟨y.toArray⟩ : Value)][j]? = some u → ((wr.alloc (.cells #[.string ⟨x.toArray⟩, .string ⟨y.toArray⟩] 75)).alloc (.cells #[.string ⟨y.toArray⟩] 9)).cell? ((⟨wr.heap.size + 1, 0, none⟩ : Addr).add j) = some u := by
        have h := Strs.news_one (wr.alloc (.cells #[.string ⟨x.toArray⟩, .string ⟨y.toArray⟩] 75)) (.string ⟨y.toArray⟩) 9
        rw [World.size_alloc] at h; exact h
      have HN := Lib.hid hnews
      clear hown hnews HO
      go_wp2_with (at_builtin; refine wpList_append_own _ rfl (.tmp 18) (.tmp 21) 72 rfl w.heap.size 9 i0 (.string ⟨#[]⟩) 1 16 Tryz.underlying72 hi hz0 hz1 hz2 rfl (by decide) _ _ _ rfl (hownA.alloc _) ⟨wr.heap.size + 1, 0, none⟩ 1 1 [.string ⟨y.toArray⟩] rfl rfl HN.out (Strs.sv_one y) (by have := HL.out; unfold maxLen; omega) (by have := HL.out; omega) (by have := HB.out.size; simp; omega) ?_; intro v1 w1 hown1 hg1 _)
      have R := Lib.hid (Strs.push_own (x := y) hownA HBA.out (Nat.le_refl _) hown1 hg1)
      have RK := Lib.hid (row_grown (row_below HKA.out ((Below.refl _ _).alloc (Nat.le_refl _) (.cells #[.string ⟨y.toArray⟩] 9))) hg1 HP.out)
      clear hownA hown1 hg1
      go_wp2
      go_roundw
      case rel => exact ⟨k + 1, by omega, by go_num, by rw [HM.out]; exact R.out.1, RK.out, R.out.2⟩
      case measure => simp [intOf]; omega
    · have HE : Hid ((ks.take k).map (·.2) = vals n l) := Lib.hid (by rw [List.take_of_length_le (by omega)]; exact HV.out)
      generalize (ks.take k).map (·.2) = xs at hown HE
      obtain ⟨a', cp', rfl, _⟩ := shape_of hown
      have HJ := Lib.hid (Tx.impl_join _ _ xs wr (Strs.own_holds hown) (by rw [HE.out]; exact HT.out))
      have HB := Lib.hid hb
      clear hown hb hkeep
      go_wp2_with (fail)
      go_at_call 43
      refine HJ.out.mono ?_
      rintro e w1 ⟨rfl, hb1⟩
      go_wp2
      go_ret2
      exact ⟨ret_get HE.out (by simp), Base.then_below HB.out hb1⟩
end Go.Proofs.YtndbhjgfaghelaaGreatDoor.Flds
