/-
  CONTRACTS of AreFields, the model's and the program's (by slices.ContainsFunc): at most 24 fields, each with a proper name and value; nothing that was there before is changed.
-/
import Derived.Test.YtobhdfkhfmpdlaaDoorFldTot
import Derived.Test.YtobhdfkhfmpdlaaDoorFldNam
import Derived.Test.YtobhdfkhfmpdlaaDoorFldVal
import Derived.Outline
namespace Go.Proofs.YtobhdfkhfmpdlaaDoor.Flds
open Go Go.RowKit
set_option linter.unusedVariables false
set_option maxRecDepth 1000000

def fldOk (f : Fld) : Bool := Tx.nameOk f.1 && Tx.valOk f.2
def fldsOk (l : List Fld) : Bool := l.all fldOk && decide (l.length ≤ 24)
theorem size_of {l : List Fld} {k : Nat} (h : k < l.length) : (l.getD k nofld).1.length ≤ total l ∧ (l.getD k nofld).2.length ≤ total l := by
  have h1 := pre_more h
  have h2 : pre l (k + 1) ≤ total l := by
    unfold pre total
    conv => rhs; rw [← List.take_append_drop (k + 1) l]
    rw [List.map_append, List.sum_append]; omega
  omega
theorem all_more {l : List Fld} {k : Nat} (h : k < l.length) : (l.take (k + 1)).all fldOk = ((l.take k).all fldOk && fldOk (l.getD k nofld)) := by
  rw [List.take_succ_eq_append_getElem h, List.all_append, show l.getD k nofld = l[k] by simp [List.getD, h]]; simp
theorem all_bad {l : List Fld} {k : Nat} (h : k < l.length) (e : fldOk (l.getD k nofld) = false) : l.all fldOk = false := by
  rw [Bool.eq_false_iff]
  intro ha
  rw [List.all_eq_true] at ha
  have := ha l[k] (List.getElem_mem _)
  rw [show l.getD k nofld = l[k] by simp [List.getD, h]] at e
  rw [e] at this; cases this
theorem ret_b {a b : Bool} (h : a = b) : Ending.returned (.bool a) = .returned (.bool b) := by rw [h]
theorem shape_any {w : World} {B : Nat} {v : Value} {l : List Fld} (h : Holds w B v l) : ∃ a cap, v = .slice a l.length cap ∧ (0 < l.length → ∃ b off, a = some ⟨b, off, none⟩ ∧ b < B ∧ At w b off l) := by
  rcases h with ⟨rfl, a, cap, rfl⟩ | ⟨h0, b, off, cap, rfl, hb, _, hc⟩
  · exact ⟨a, cap, rfl, fun h => by simp at h⟩
  · exact ⟨_, cap, rfl, fun _ => ⟨b, off, rfl, hb, hc⟩⟩

def AreEnd (l : List Fld) (w : World) (e : Ending) (w' : World) : Prop := e = .returned (.bool (fldsOk l)) ∧ Below w.heap.size w w'

set_option maxHeartbeats 2000000 in
theorem spec_are (v : Value) (B : Nat) (l : List Fld) (w : World) (h : Holds w B v l) (hB : B ≤ w.heap.size) (hl : total l ≤ 1048576) :
    Calls Tryd.prog 23 #[v] w (AreEnd l w) := by
  have hll : l.length ≤ 1048576 := by unfold total at hl; omega
  obtain ⟨a, cap, rfl, ha⟩ := shape_any h
  have HA := Lib.hid ha
  have HT := Lib.hid hl
  clear ha h hl
  go_enter Tryd.func23, Tryd.ntmps23
  go_wp2
  go_loopw [3] (fun i wr => ∃ k : Nat, k ≤ l.length ∧ i = .int .i64 (k : Int) ∧ Hid ((l.take k).all fldOk = true) ∧ Below w.heap.size w wr) (fun i _ => l.length - (intOf i).toNat)
  case atStart => exact ⟨0, Nat.zero_le _, rfl, rfl, Below.refl _ _⟩
  case round =>
    obtain ⟨k, hk, rfl, hn, hb⟩ := hrel
    by_cases hlt : k < l.length
    · obtain ⟨b, off, rfl, hbl, hc⟩ := HA.out (by omega)
      obtain ⟨c1, c2⟩ := at_below hc hb (by omega) k hlt
      have HC := Lib.hid hc
      have HB := Lib.hid hb
      have HM := Lib.hid (all_more hlt)
      have HX : Hid (fldOk (l.getD k nofld) = false → fldsOk l = false) := Lib.hid (fun e => by unfold fldsOk; rw [all_bad hlt e]; rfl)
      obtain ⟨z1, z2⟩ := size_of hlt
      have HZ := Lib.hid (And.intro (Nat.le_trans z1 HT.out) (Nat.le_trans z2 HT.out))
      generalize hx : l.getD k nofld = f at c1 c2 HM HX HZ
      obtain ⟨x, y⟩ := f
      have HE := Lib.hid hx
      clear hx hb hc z1 z2
      unfold sv at c1 c2
      unfold fldOk at HX
      have HN := Lib.hid (Tx.spec_name x wr HZ.out.1)
      have HV : Hid (∀ wz : World, Calls Tryd.prog 56 #[.string ⟨y.toArray⟩] wz fun e w' => e = .returned (.bool (Tx.valOk y)) ∧ wz = w') := Lib.hid (fun wz => Tx.spec_val ⟨y.toArray⟩ wz (by have := HZ.out.2; simp [ByteArray.size]; exact this))
      have HF : Hid (fldOk (x, y) = (Tx.nameOk x && Tx.valOk y)) := Lib.hid rfl
      simp only at HX
      generalize Tx.nameOk x = p at HN HX HF
      generalize Tx.valOk y = q at HV HX HF
      go_wp2_with (fail)
      go_at_call 55
      refine HN.out.mono ?_
      rintro e w1 ⟨rfl, hb1⟩
      have hb2 := Base.then_below HB.out hb1
      have d2 : w1.cell? ⟨b, off + k * 2 + 1, none⟩ = some (.string ⟨y.toArray⟩) := by
        have h := (at_below HC.out hb2 (by omega) k hlt).2
        rw [HE.out] at h; exact h
      have HB := Lib.hid hb2
      clear hb1 hb2 c1 c2
      cases p
      · have HR : Hid (false = fldsOk l) := Lib.hid (HX.out rfl).symm
        clear HX HM hn
        go_wp2
        go_ret
        exact ⟨ret_b HR.out, HB.out⟩
      · cases q
        · have HR : Hid (false = fldsOk l) := Lib.hid (HX.out rfl).symm
          clear HX HM hn
          go_wp2_with (go_at_call 56; refine (HV.out w1).mono ?_; rintro e w2 ⟨rfl, rfl⟩)
          go_ret
          exact ⟨ret_b HR.out, HB.out⟩
        · have HT2 : Hid ((l.take (k + 1)).all fldOk = true) := Lib.hid (by rw [HM.out, hn.out, HF.out]; rfl)
          clear HX HM hn
          go_wp2_with (go_at_call 56; refine (HV.out w1).mono ?_; rintro e w2 ⟨rfl, rfl⟩)
          go_roundw
          case rel => exact ⟨k + 1, by omega, by go_num, HT2.out, HB.out⟩
          case measure => simp [intOf]; omega
    · have HR : Hid (decide ((l.length : Int) ≤ 24) = fldsOk l) := Lib.hid (by
        have h := hn.out
        rw [List.take_of_length_le (by omega)] at h
        unfold fldsOk; rw [h, Bool.true_and, Bool.eq_iff_iff]; simp; omega)
      have HB := Lib.hid hb
      clear hb hn
      by_cases h24 : l.length ≤ 24
      · have hi : (l.length : Int) ≤ 24 := by omega
        have HR' : Hid (true = fldsOk l) := Lib.hid (by rw [← HR.out]; simp; omega)
        clear HR
        go_wp2
        go_ret
        exact ⟨ret_b HR'.out, HB.out⟩
      · have hi : ¬ (l.length : Int) ≤ 24 := by omega
        have HR' : Hid (false = fldsOk l) := Lib.hid (by rw [← HR.out]; symm; simp; omega)
        clear HR
        go_wp2
        go_ret
        exact ⟨ret_b HR'.out, HB.out⟩

/-! The program's. -/
theorem are_closure (x y : List UInt8) (w : World) (h1 : x.length ≤ 1048576) (h2 : y.length ≤ 1048576) :
    Calls Tryd.prog 58 #[.agg #[.string ⟨x.toArray⟩, .string ⟨y.toArray⟩]] w fun e w' => e = .returned (.bool (!fldOk (x, y))) ∧ Below w.heap.size w w' := by
  have HN := Lib.hid (Tx.impl_name x (w.alloc (.cells #[.string ⟨x.toArray⟩, .string ⟨y.toArray⟩] 46)) h1)
  have HV : Hid (∀ wz : World, Calls Tryd.prog 60 #[.string ⟨y.toArray⟩] wz fun e w' => e = .returned (.bool (Tx.valOk y)) ∧ Below wz.heap.size wz w') := Lib.hid (fun wz => Tx.impl_val y wz h2)
  have hba : Below w.heap.size w (w.alloc (.cells #[.string ⟨x.toArray⟩, .string ⟨y.toArray⟩] 46)) := (Below.refl _ _).alloc (Nat.le_refl _) _
  have n2 : (w.alloc (.cells #[.string ⟨x.toArray⟩, .string ⟨y.toArray⟩] 46)).cell? ⟨w.heap.size, 1, none⟩ = some (.string ⟨y.toArray⟩) := by rw [World.cell?_alloc_new]; rfl
  have HA := Lib.hid (And.intro hba n2)
  clear hba n2
  unfold fldOk
  simp only
  generalize Tx.nameOk x = p at HN ⊢
  generalize Tx.valOk y = q at HV ⊢
  go_enter Tryd.func58, Tryd.ntmps58
  go_wp2_with (fail)
  go_at_call 59
  refine HN.out.mono ?_
  rintro e w1 ⟨rfl, hb1⟩
  have d2 : w1.cell? ⟨w.heap.size, 1, none⟩ = some (.string ⟨y.toArray⟩) := (hb1.cell (p := ⟨w.heap.size, 1, none⟩) (by rw [World.size_alloc]; exact Nat.lt_succ_self _)).trans HA.out.2
  have HB := Lib.hid (Base.then_below HA.out.1 hb1)
  clear hb1
  cases p
  · go_wp2
    go_ret
    exact ⟨rfl, HB.out⟩
  · go_wp2_with (fail)
    go_at_call 60
    refine (HV.out w1).mono ?_
    rintro e w2 ⟨rfl, hb2⟩
    have HB2 := Lib.hid (Base.then_below HB.out hb2)
    clear hb2
    cases q
    · go_wp2
      go_ret
      exact ⟨rfl, HB2.out⟩
    · go_wp2
      go_ret
      exact ⟨rfl, HB2.out⟩

def IdxEnd0 (l : List Fld) (w : World) (e : Ending) (w' : World) : Prop := ∃ z : Int, e = .returned (.int .i64 z) ∧ ((0 ≤ z ∧ l.all fldOk = false) ∨ (z < 0 ∧ l.all fldOk = true)) ∧ Below w.heap.size w w'

set_option maxHeartbeats 1000000 in
theorem idx_are (v : Value) (B : Nat) (l : List Fld) (w : World) (h : Holds w B v l) (hB : B ≤ w.heap.size) (hl : total l ≤ 1048576) :
    Calls Tryd.prog 80 #[v, .func (.func 58) #[] #[]] w (IdxEnd0 l w) := by
  have hll : l.length ≤ 1048576 := by unfold total at hl; omega
  obtain ⟨a, cap, rfl, ha⟩ := shape_any h
  have HA := Lib.hid ha
  have HT := Lib.hid hl
  clear ha h hl
  go_enter Tryd.func80, Tryd.ntmps80
  go_wp2
  go_loopw [8] (fun i wr => ∃ k : Nat, k ≤ l.length ∧ i = .int .i64 (k : Int) ∧ Hid ((l.take k).all fldOk = true) ∧ Below w.heap.size w wr) (fun i _ => l.length - (intOf i).toNat)
  case atStart => exact ⟨0, Nat.zero_le _, rfl, rfl, Below.refl _ _⟩
  case round =>
    obtain ⟨k, hk, rfl, hn, hb⟩ := hrel
    by_cases hlt : k < l.length
    · obtain ⟨b, off, rfl, hbl, hc⟩ := HA.out (by omega)
      obtain ⟨c1, c2⟩ := at_below hc hb (by omega) k hlt
      have HB := Lib.hid hb
      have HM := Lib.hid (all_more hlt)
      have HX : Hid (fldOk (l.getD k nofld) = false → l.all fldOk = false) := Lib.hid (all_bad hlt)
      obtain ⟨z1, z2⟩ := size_of hlt
      have HZ := Lib.hid (And.intro (Nat.le_trans z1 HT.out) (Nat.le_trans z2 HT.out))
      generalize l.getD k nofld = f at c1 c2 HM HX HZ
      obtain ⟨x, y⟩ := f
      clear hb hc z1 z2
      unfold sv at c1 c2
      have HK := Lib.hid (are_closure x y wr HZ.out.1 HZ.out.2)
      generalize fldOk (x, y) = q at HK HM HX
      go_wp2_with (fail)
      go_at_call 58
      refine HK.out.mono ?_
      rintro e w1 ⟨rfl, hb1⟩
      have HB1 := Lib.hid (Base.then_below HB.out hb1)
      clear hb1
      cases q
      · have HR : Hid (l.all fldOk = false) := Lib.hid (HX.out rfl)
        clear HX HM hn
        go_wp2
        go_ret
        exact ⟨_, rfl, Or.inl ⟨by omega, HR.out⟩, HB1.out⟩
      · have HR : Hid ((l.take (k + 1)).all fldOk = true) := Lib.hid (by rw [HM.out, hn.out]; rfl)
        clear HX HM hn
        go_wp2
        go_roundw
        case rel => exact ⟨k + 1, by omega, by go_num, HR.out, HB1.out⟩
        case measure => simp [intOf]; omega
    · have HR : Hid (l.all fldOk = true) := Lib.hid (by have h := hn.out; rwa [List.take_of_length_le (by omega)] at h)
      go_wp2
      go_ret
      exact ⟨_, rfl, Or.inr ⟨by decide, HR.out⟩, hb⟩

theorem contains_are (v : Value) (B : Nat) (l : List Fld) (w : World) (h : Holds w B v l) (hB : B ≤ w.heap.size) (hl : total l ≤ 1048576) :
    Calls Tryd.prog 57 #[v, .func (.func 58) #[] #[]] w fun e w' => e = .returned (.bool (!l.all fldOk)) ∧ Below w.heap.size w w' := by
  have HI := Lib.hid (idx_are v B l w h hB hl)
  clear h
  go_enter Tryd.func57, Tryd.ntmps57
  go_wp2_with (fail)
  go_at_call 80
  refine HI.out.mono ?_
  rintro e w1 ⟨z, rfl, hz, hb⟩
  rcases hz with ⟨hz, hp⟩ | ⟨hz, hp⟩
  · have HP := Lib.hid hp
    have HB := Lib.hid hb
    clear hb hp
    go_wp2
    go_ret
    exact ⟨congrArg (fun q => Ending.returned (.bool q)) (show true = !l.all fldOk by rw [HP.out]; rfl), HB.out⟩
  · have HP := Lib.hid hp
    have hzn : ¬ 0 ≤ z := by omega
    have HB := Lib.hid hb
    clear hb hp
    go_wp2
    go_ret
    exact ⟨congrArg (fun q => Ending.returned (.bool q)) (show decide (0 ≤ z) = !l.all fldOk by rw [HP.out]; simp; omega), HB.out⟩

theorem impl_are (v : Value) (B : Nat) (l : List Fld) (w : World) (h : Holds w B v l) (hB : B ≤ w.heap.size) (hl : total l ≤ 1048576) :
    Calls Tryd.prog 24 #[v] w (AreEnd l w) := by
  have hll : l.length ≤ 1048576 := by unfold total at hl; omega
  have HI := Lib.hid (contains_are v B l w h hB hl)
  obtain ⟨a, cap, rfl, ha⟩ := shape_any h
  have HF : Hid (fldsOk l = (l.all fldOk && decide (l.length ≤ 24))) := Lib.hid rfl
  clear h ha hl
  by_cases h24 : l.length ≤ 24
  · have hi : (l.length : Int) ≤ 24 := by omega
    have HF' : Hid (fldsOk l = l.all fldOk) := Lib.hid (by rw [HF.out]; simp [h24])
    clear HF
    generalize l.all fldOk = q at HI HF'
    go_enter Tryd.func24, Tryd.ntmps24
    go_wp2_with (fail)
    go_at_call 57
    refine HI.out.mono ?_
    rintro e w1 ⟨rfl, hb⟩
    go_wp2
    go_ret
    refine ⟨congrArg (fun q => Ending.returned (.bool q)) (show _ = fldsOk l from ?_), hb⟩
    rw [HF'.out]
    all_goals simp
  · have hi : ¬ (l.length : Int) ≤ 24 := by omega
    have HF' : Hid (false = fldsOk l) := Lib.hid (by rw [HF.out]; simp [h24])
    clear HF HI
    go_enter Tryd.func24, Tryd.ntmps24
    go_wp2
    go_ret
    exact ⟨ret_b HF'.out, Below.refl _ _⟩
end Go.Proofs.YtobhdfkhfmpdlaaDoor.Flds
