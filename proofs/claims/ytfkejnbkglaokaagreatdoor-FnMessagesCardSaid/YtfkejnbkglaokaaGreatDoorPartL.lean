/-
  CONTRACTS AND PLAIN FACTS, several texts in one; each says in its own words what it proves.
-/
import Derived.Test.YtfkejnbkglaokaaGreatDoorPartK
import Derived.Test.YtfkejnbkglaokaaGreatDoorPartG
import Derived.Deep.AppendLies
import Derived.Deep.RegionHeldLaw
import Derived.Test.YtfkejnbkglaokaaGreatDoorPartA
import Derived.Test.YtfkejnbkglaokaaGreatDoorPartF
import Derived.Test.YtfkejnbkglaokaaGreatDoorRows
import Derived.WalkKit
import Derived.ProofKit
import Derived.Lib.Hide
import Derived.OpenShut
import Derived.Below
import Derived.Lib.ItoaNum
import Derived.LoopTactic
import Derived.Laws.IdiomStrings
import Derived.Laws.Concat
import Derived.Test.YtfkejnbkglaokaaGreatDoorPartJ
set_option linter.unusedSimpArgs false
set_option linter.unusedVariables false

/-
  CONTRACTS of FormatRequest, the model's and the program's: the request as it is written, nothing where it is not valid; nothing that was there before is changed.
-/
namespace Go.Proofs.YtfkejnbkglaokaaGreatDoor.Msg
open Go Go.RowKit
set_option linter.unusedVariables false
set_option maxRecDepth 1000000

def reqTxt (m h t : List UInt8) (l : List Flds.Fld) : List UInt8 := m ++ [32] ++ t ++ [32, 72, 84, 84, 80, 47, 49, 46, 49, 13, 10, 104, 111, 115, 116, 58, 32] ++ h ++ [13, 10] ++ Flds.fmt l ++ [13, 10]
def fmtReq (m h t : List UInt8) (l : List Flds.Fld) : List UInt8 := if reqOk m h t l then reqTxt m h t l else []
def TxtEnd (x : List UInt8) (w : World) (e : Ending) (w' : World) : Prop := e = .returned (.string ⟨x.toArray⟩) ∧ Below w.heap.size w w'
theorem ret_txt {a b : List UInt8} (h : a = b) : Ending.returned (.string ⟨a.toArray⟩) = .returned (.string ⟨b.toArray⟩) := by rw [h]
theorem fmt_le {l : List Flds.Fld} {n : Nat} (h : Flds.total l ≤ n) : (Flds.fmt l).length ≤ 5 * n := by
  have h1 := Flds.fmt_len l l.length (Nat.le_refl _)
  rw [List.take_length] at h1
  have h2 := Flds.pre_le l l.length
  have h3 := len_total h
  omega
/-- The class of worlds: a request's own block, and all that is old. -/
def BxQ (w : World) (m h t : List UInt8) (v : Value) (u : World) : Prop := (u.cell? ⟨w.heap.size, 0, none⟩ = some (.string ⟨m.toArray⟩) ∧ u.cell? ⟨w.heap.size, 1, none⟩ = some (.string ⟨h.toArray⟩) ∧ u.cell? ⟨w.heap.size, 2, none⟩ = some (.string ⟨t.toArray⟩) ∧ u.cell? ⟨w.heap.size, 3, none⟩ = some v) ∧ Below w.heap.size w u
theorem bxq_call {w u u' : World} {m h t : List UInt8} {v : Value} (hs : BxQ w m h t v u) (hb : Below u.heap.size u u') : BxQ w m h t v u' := by
  obtain ⟨⟨h0, h1, h2, h3⟩, h4⟩ := hs
  exact ⟨⟨(hb.cell (p := ⟨w.heap.size, 0, none⟩) (Rec.lt_of_cell h0)).trans h0, (hb.cell (p := ⟨w.heap.size, 1, none⟩) (Rec.lt_of_cell h1)).trans h1, (hb.cell (p := ⟨w.heap.size, 2, none⟩) (Rec.lt_of_cell h2)).trans h2, (hb.cell (p := ⟨w.heap.size, 3, none⟩) (Rec.lt_of_cell h3)).trans h3⟩, Base.then_below h4 hb⟩
theorem bxq_drew {w u : World} {m h t : List UInt8} {v : Value} (hs : BxQ w m h t v u) : BxQ w m h t v u.drew := ⟨hs.1, Rec.below_drew hs.2⟩
theorem bxq_start (w : World) (m h t : List UInt8) (v : Value) (T : TypeId) : BxQ w m h t v (w.alloc (.cells #[.string ⟨m.toArray⟩, .string ⟨h.toArray⟩, .string ⟨t.toArray⟩, v] T)) :=
  ⟨⟨by rw [World.cell?_alloc_new]; rfl, by rw [World.cell?_alloc_new]; rfl, by rw [World.cell?_alloc_new]; rfl, by rw [World.cell?_alloc_new]; rfl⟩, (Below.refl _ _).alloc (Nat.le_refl _) _⟩

/-! The program's. -/
abbrev fcs1 (f : Flds.Fld) : List Value := [Flds.sv f.1, Flds.sv f.2]
theorem fcs1_len (f : Flds.Fld) : (fcs1 f).length = 2 := rfl
theorem fcs1_one (f : Flds.Fld) : ∀ u ∈ fcs1 f, u.oneCell' = true := Flds.two_one f
theorem rec_holds {w : World} {B : Nat} {v : Value} {l : List Flds.Fld} (h : Flds.Holds w B v l) : Rec.Holds 2 fcs1 Flds.nofld w B v l := by
  rcases h with h | ⟨h0, b, off, cap, rfl, hB, hc, h1⟩
  · exact Or.inl h
  · refine Or.inr ⟨h0, b, off, cap, rfl, hB, hc, fun j hj i u hu => ?_⟩
    match i, hu with
    | 0, hu => rw [← Option.some.inj hu]; exact (h1 j hj).1
    | 1, hu => rw [← Option.some.inj hu]; exact (h1 j hj).2
theorem small_of {l : List Flds.Fld} (h : ownOk l = true) : Flds.total l ≤ 5784 := by
  unfold ownOk at h
  rw [Bool.and_eq_true, Bool.and_eq_true, decide_eq_true_eq] at h
  obtain ⟨h1, h2, _⟩ := h
  unfold Flds.fldsOk at h1
  rw [Bool.and_eq_true, List.all_eq_true] at h1
  have key : ∀ m : List Flds.Fld, (∀ f ∈ m, Flds.fldOk f = true) → Flds.total m ≤ 241 * m.length := by
    intro m hm
    induction m with
    | nil => simp [Flds.total]
    | cons a r ih =>
      have h3 := ih (fun f hf => hm f (by simp [hf]))
      have h4 := hm a (by simp)
      unfold Flds.fldOk Tx.nameOk Tx.token Tx.valOk at h4
      simp only [Bool.and_eq_true, decide_eq_true_eq] at h4
      have h5 : a.1.length ≤ 40 := by omega
      have h6 : a.2.length ≤ 200 := by omega
      have h7 : Flds.wt a = a.1.length + a.2.length := rfl
      unfold Flds.total at h3 ⊢
      simp only [List.map_cons, List.sum_cons, List.length_cons, h7]
      omega
  have h3 := key l h1.1
  omega
def reqTxt2 (m h t : List UInt8) (l : List Flds.Fld) : List UInt8 := m ++ [32] ++ t ++ [32] ++ [72, 84, 84, 80, 47, 49, 46, 49] ++ [13, 10] ++ Flds.fmt ([(hostName, h)] ++ l) ++ [13, 10]
theorem reqTxt_eq (m h t : List UInt8) (l : List Flds.Fld) : reqTxt m h t l = reqTxt2 m h t l := by
  unfold reqTxt reqTxt2 Flds.fmt
  rw [List.flatMap_append]
  simp [Flds.line, hostName, List.append_assoc]
theorem lit_field (w : World) (a b : List UInt8) : w.heap.size = w.heap.size → (w.alloc (.cells #[.string ⟨a.toArray⟩, .string ⟨b.toArray⟩] 48)).ownsRow w.heap.size 48 2 (.slice (some ⟨w.heap.size, 0, none⟩) 1 1) [(a, b)].length (Rec.flat fcs1 [(a, b)]) := fun _ => World.ownsRow_lit w #[.string ⟨a.toArray⟩, .string ⟨b.toArray⟩] 1 (Nat.le_refl _) (by decide) rfl

set_option maxRecDepth 1000000 in
set_option maxHeartbeats 4000000 in
theorem impl_text_req (m h t : List UInt8) (v : Value) (B : Nat) (l : List Flds.Fld) (w : World) (hh : Flds.Holds w B v l) (hB : B ≤ w.heap.size) (hl : Flds.total l ≤ 5784) (hm : m.length ≤ 1048576) (hhl : h.length ≤ 1000) (ht : t.length ≤ 1048576) :
    Calls Tryz.prog 41 #[.agg #[.string ⟨m.toArray⟩, .string ⟨h.toArray⟩, .string ⟨t.toArray⟩, v]] w (TxtEnd (reqTxt2 m h t l) w) := by
  obtain ⟨i0, hi, hz0, hz1, hz2⟩ := info_parts Flds.info_fld
  have hll := len_total hl
  have HS0 := bxq_start w m h t v 24
  have hz : (w.alloc (.cells #[.string ⟨m.toArray⟩, .string ⟨h.toArray⟩, .string ⟨t.toArray⟩, v] 24)).heap.size = w.heap.size + 1 := by simp
  generalize hw0 : w.alloc (.cells #[.string ⟨m.toArray⟩, .string ⟨h.toArray⟩, .string ⟨t.toArray⟩, v] 24) = w0 at HS0 hz
  have hA : Below w0.heap.size w0 (w0.alloc (.cells #[.string ⟨hostName.toArray⟩, .string ⟨h.toArray⟩] 48)) := (Below.refl _ _).alloc (Nat.le_refl _) _
  have HS1 := bxq_drew (bxq_call HS0 hA)
  have hown : World.ownsRow (w0.alloc (.cells #[.string ⟨hostName.toArray⟩, .string ⟨h.toArray⟩] 48)).drew w0.heap.size 48 2 (.slice (some ⟨w0.heap.size, 0, none⟩) 1 1) [(hostName, h)].length (Rec.flat fcs1 [(hostName, h)]) := lit_field w0 hostName h rfl
  have hm2 : Rec.Holds 2 fcs1 Flds.nofld (w0.alloc (.cells #[.string ⟨hostName.toArray⟩, .string ⟨h.toArray⟩] 48)).drew B v l := rec_holds (Flds.holds_below hh (HS1.2.mono hB))
  have hbase : w0.heap.size ≤ (w0.alloc (.cells #[.string ⟨hostName.toArray⟩, .string ⟨h.toArray⟩] 48)).drew.heap.size := by show w0.heap.size ≤ (w0.alloc _).heap.size; simp
  have HT : Hid (Flds.total ([(hostName, h)] ++ l) ≤ 1048576) := Lib.hid (by
    unfold Flds.total at hl ⊢
    have e : Flds.wt (hostName, h) = 4 + h.length := rfl
    simp only [List.cons_append, List.nil_append, List.map_cons, List.sum_cons, List.length_cons, e]; omega)
  have HFM := Lib.hid (fun W v' (hW : Flds.Own W w0.heap.size v' ([(hostName, h)] ++ l)) => Flds.impl_fmt_any v' W.heap.size ([(hostName, h)] ++ l) W (Flds.own_holds hW) (Nat.le_refl _) HT.out)
  have HE : Hid (reqTxt2 m h t l = m ++ [32] ++ t ++ [32] ++ [72, 84, 84, 80, 47, 49, 46, 49] ++ [13, 10] ++ Flds.fmt ([(hostName, h)] ++ l) ++ [13, 10]) := Lib.hid rfl
  have lf := fmt_le HT.out
  unfold Flds.FmtEnd at HFM
  have HOW : Hid (∀ (w' : World) (v' : Value), World.ownsRow w' w0.heap.size 48 2 v' ([(hostName, h)] ++ l).length (Rec.flat fcs1 ([(hostName, h)] ++ l)) → Flds.Own w' w0.heap.size v' ([(hostName, h)] ++ l)) := Lib.hid (fun _ _ h => h)
  generalize Flds.fmt ([(hostName, h)] ++ l) = f at HE lf HFM
  have a1 := Tx.addtwo m [32] (by simp only [List.length_append, List.length_cons, List.length_nil]; omega)
  have a2 := Tx.addtwo (m ++ [32]) t (by simp only [List.length_append, List.length_cons, List.length_nil]; omega)
  have a3 := Tx.addtwo (m ++ [32] ++ t) [32] (by simp only [List.length_append, List.length_cons, List.length_nil]; omega)
  have a4 := Tx.addtwo (m ++ [32] ++ t ++ [32]) [72, 84, 84, 80, 47, 49, 46, 49] (by simp only [List.length_append, List.length_cons, List.length_nil]; omega)
  have a5 := Tx.addtwo (m ++ [32] ++ t ++ [32] ++ [72, 84, 84, 80, 47, 49, 46, 49]) [13, 10] (by simp only [List.length_append, List.length_cons, List.length_nil]; omega)
  have a6 := Tx.addtwo (m ++ [32] ++ t ++ [32] ++ [72, 84, 84, 80, 47, 49, 46, 49] ++ [13, 10]) f (by simp only [List.length_append, List.length_cons, List.length_nil]; omega)
  have a7 := Tx.addtwo (m ++ [32] ++ t ++ [32] ++ [72, 84, 84, 80, 47, 49, 46, 49] ++ [13, 10] ++ f) [13, 10] (by simp only [List.length_append, List.length_cons, List.length_nil]; omega)
  generalize m ++ [32] = t1 at HE a1 a2 a3 a4 a5 a6 a7
  generalize t1 ++ t = t2 at HE a2 a3 a4 a5 a6 a7
  generalize t2 ++ [32] = t3 at HE a3 a4 a5 a6 a7
  generalize t3 ++ [72, 84, 84, 80, 47, 49, 46, 49] = t4 at HE a4 a5 a6 a7
  generalize t4 ++ [13, 10] = t5 at HE a5 a6 a7
  generalize t5 ++ f = t6 at HE a6 a7
  generalize t6 ++ [13, 10] = t7 at HE a7
  have HSA := Lib.hid HS0
  have HSB := Lib.hid HS1
  have HH0 : Hid (w0.cell? ⟨w.heap.size, 1, none⟩ = some (.string ⟨h.toArray⟩)) := Lib.hid HS0.1.2.1
  have HZ := Lib.hid hz
  have HOWN := Lib.hid hown
  have HM2 := Lib.hid hm2
  have HBS := Lib.hid hbase
  have HLL := Lib.hid hll
  have HB1 := Lib.hid HS1.2
  obtain ⟨⟨b0, b1, b2, b3⟩, _⟩ := HS1
  have HW0 := Lib.hid hw0
  have HSD : Hid ((w0.alloc (.cells #[.string ⟨hostName.toArray⟩, .string ⟨h.toArray⟩] 48)).drew.cell? ⟨w.heap.size, 0, none⟩ = some (.string ⟨m.toArray⟩) ∧ (w0.alloc (.cells #[.string ⟨hostName.toArray⟩, .string ⟨h.toArray⟩] 48)).drew.cell? ⟨w.heap.size, 2, none⟩ = some (.string ⟨t.toArray⟩) ∧ (w0.alloc (.cells #[.string ⟨hostName.toArray⟩, .string ⟨h.toArray⟩] 48)).drew.cell? ⟨w.heap.size, 3, none⟩ = some v ∧ Hid (Below w.heap.size w (w0.alloc (.cells #[.string ⟨hostName.toArray⟩, .string ⟨h.toArray⟩] 48)).drew)) := Lib.hid ⟨b0, b2, b3, HB1⟩
  have SK : Hid (∀ u u' : World, u.cell? ⟨w.heap.size, 0, none⟩ = some (.string ⟨m.toArray⟩) → u.cell? ⟨w.heap.size, 2, none⟩ = some (.string ⟨t.toArray⟩) → u.cell? ⟨w.heap.size, 3, none⟩ = some v → Hid (Below w.heap.size w u) → u.grownBy u' (some w0.heap.size) → (u'.cell? ⟨w.heap.size, 0, none⟩ = some (.string ⟨m.toArray⟩) ∧ u'.cell? ⟨w.heap.size, 2, none⟩ = some (.string ⟨t.toArray⟩) ∧ u'.cell? ⟨w.heap.size, 3, none⟩ = some v ∧ Hid (Below w.heap.size w u'))) := Lib.hid (fun u u' c0 c2 c3 hb hg => by
    have hne : ∀ o, (some (⟨w.heap.size, o, none⟩ : Addr).block) ≠ some w0.heap.size := fun o e => by have := Option.some.inj e; rw [HZ.out] at this; simp at this
    exact ⟨hg.cell c0 (hne _), hg.cell c2 (hne _), hg.cell c3 (hne _), Lib.hid (hb.out.grown hg hb.out.size (fun k e => by cases e; rw [HZ.out]; omega))⟩)
  have SC : Hid (∀ u u' : World, u.cell? ⟨w.heap.size, 0, none⟩ = some (.string ⟨m.toArray⟩) → u.cell? ⟨w.heap.size, 2, none⟩ = some (.string ⟨t.toArray⟩) → u.cell? ⟨w.heap.size, 3, none⟩ = some v → Hid (Below w.heap.size w u) → Below u.heap.size u u' → (u'.cell? ⟨w.heap.size, 0, none⟩ = some (.string ⟨m.toArray⟩) ∧ u'.cell? ⟨w.heap.size, 2, none⟩ = some (.string ⟨t.toArray⟩) ∧ u'.cell? ⟨w.heap.size, 3, none⟩ = some v ∧ Hid (Below w.heap.size w u'))) := Lib.hid (fun u u' c0 c2 c3 hb hg => ⟨(hg.cell (p := ⟨w.heap.size, 0, none⟩) (Rec.lt_of_cell c0)).trans c0, (hg.cell (p := ⟨w.heap.size, 2, none⟩) (Rec.lt_of_cell c2)).trans c2, (hg.cell (p := ⟨w.heap.size, 3, none⟩) (Rec.lt_of_cell c3)).trans c3, Lib.hid (Base.then_below hb.out hg)⟩)
  clear hh hl hm hhl ht lf hll HS0 hz hown hm2 hbase hA b0 b1 b2 b3
  subst hw0
  simp only [World.size_alloc] at HSA HSB HH0 HZ HOWN HM2 HBS HB1 HSD SK SC HFM HOW
  go_enter Tryz.func41, Tryz.ntmps41
  go_wp2
  go_region_held_law (fun u => u.cell? ⟨w.heap.size, 0, none⟩ = some (.string ⟨m.toArray⟩) ∧ u.cell? ⟨w.heap.size, 2, none⟩ = some (.string ⟨t.toArray⟩) ∧ u.cell? ⟨w.heap.size, 3, none⟩ = some v ∧ Hid (Below w.heap.size w u))
    (first | exact HSD.out | go_keep | (go_split_ands; refine SK.out _ _ ?_ ?_ ?_ ?_ hgrow <;> assumption) | (go_split_ands; refine SC.out _ _ ?_ ?_ ?_ ?_ hb4 <;> assumption))
    (first | (go_at_call 69; refine (HFM.out _ _ (HOW.out _ _ hown1)).mono ?_; rintro e w4 ⟨rfl, hb4⟩) | (refine Rec.step_holds fcs1_len fcs1_one (by rfl) (.tmp 17) (.tmp 19) 22 48 (by rfl) Tryz.underlying22 hi hz0 hz1 hz2 (by rfl) (by decide) (by rfl) (by rfl) HOWN.out HM2.out (by have := HLL.out; unfold maxLen; simp; omega) (by have := HLL.out; simp; omega) HBS.out ?_; intro v1 w3 hown1 hgrow))
  all_goals (
    go_split_ands
    have HKB := Lib.hid (Hid.out ‹Hid (Below w.heap.size w w4)›)
    clear hown1 hgrow hb4
    go_wp2
    go_ret
    exact ⟨ret_txt HE.out.symm, HKB.out⟩)

set_option maxRecDepth 1000000 in
set_option maxHeartbeats 2000000 in
theorem impl_fmtq (m h t : List UInt8) (v : Value) (B : Nat) (l : List Flds.Fld) (w : World) (hh : Flds.Holds w B v l) (hB : B ≤ w.heap.size) (hl : Flds.total l ≤ 1048576) (hm : m.length ≤ 1048576) (hhl : h.length ≤ 1048576) (ht : t.length ≤ 1048576) :
    Calls Tryz.prog 18 #[.agg #[.string ⟨m.toArray⟩, .string ⟨h.toArray⟩, .string ⟨t.toArray⟩, v]] w (TxtEnd (fmtReq m h t l) w) := by
  have HS0 := Lib.hid (bxq_start w m h t v 24)
  have HY := Lib.hid hh
  have HI := Lib.hid (impl_valid_req m h t v B l _ (Flds.holds_below hh (HS0.out.2.mono hB)) (Nat.le_trans hB HS0.out.2.size) hl hm hhl ht)
  unfold TxtEnd
  cases hok : reqOk m h t l with
  | false =>
    have HE : Hid (fmtReq m h t l = []) := Lib.hid (by unfold fmtReq; rw [hok]; rfl)
    rw [hok] at HI
    clear hok hh hl hm hhl ht
    go_enter Tryz.func18, Tryz.ntmps18
    go_wp2_with (fail)
    go_at_call 30
    refine HI.out.mono ?_
    rintro e w1 ⟨rfl, hb1⟩
    have HB := Lib.hid (bxq_call HS0.out hb1).2
    clear hb1
    go_wp2
    go_ret
    exact ⟨ret_txt HE.out.symm, HB.out⟩
  | true =>
    have HE : Hid (fmtReq m h t l = reqTxt2 m h t l) := Lib.hid (by unfold fmtReq; rw [hok, ← reqTxt_eq]; rfl)
    rw [hok] at HI
    have hsm : Flds.total l ≤ 5784 ∧ h.length ≤ 40 := by
      unfold reqOk hostOk at hok
      simp only [Bool.and_eq_true, decide_eq_true_eq] at hok
      exact ⟨small_of hok.2.1, hok.1.1.2.2.2⟩
    have HTX := Lib.hid (fun W (hW : Flds.Holds W B v l) (hBW : B ≤ W.heap.size) => impl_text_req m h t v B l W hW hBW hsm.1 hm (by omega) ht)
    unfold TxtEnd at HTX
    generalize reqTxt2 m h t l = z at HE HTX
    clear hok hh hl hm hhl ht hsm
    go_enter Tryz.func18, Tryz.ntmps18
    go_wp2_with (fail)
    go_at_call 30
    refine HI.out.mono ?_
    rintro e w1 ⟨rfl, hb1⟩
    have HS1 := bxq_call HS0.out hb1
    have HB := Lib.hid HS1.2
    obtain ⟨⟨b0, b1, b2, b3⟩, _⟩ := HS1
    clear hb1
    go_wp2_with (fail)
    go_at_call 41
    refine (HTX.out _ (Flds.holds_below HY.out (HB.out.mono hB)) (Nat.le_trans hB HB.out.size)).mono ?_
    rintro e w2 ⟨rfl, hb2⟩
    have HB := Lib.hid (Base.then_below HB.out hb2)
    clear hb2 b0 b1 b2 b3
    go_wp2
    go_ret
    exact ⟨ret_txt HE.out.symm, HB.out⟩
end Go.Proofs.YtfkejnbkglaokaaGreatDoor.Msg

/-
  CONTRACT of the program's FormatInt: at every integer of 64 bits, where the library's table of powers of ten reads as it is written, it returns the decimal numeral; nothing that was there before is changed.
-/
namespace Go.Proofs.YtfkejnbkglaokaaGreatDoor.Fmt
open Go Go.RowKit
set_option linter.unusedVariables false
set_option maxRecDepth 1000000

/-- The library's table of powers of ten, as it is written. -/
def Tens (w : World) : Prop := Lib.TabIs Tryz.prog w "internal/strconv.uint64pow10" .u64 Lib.pow10Tab
theorem tens_below {W w1 : World} (h : Tens W) (hb : Below W.heap.size W w1) : Tens w1 := Base.var_below h hb

theorem impl_fmt (n : Int) (h0 : -9223372036854775808 ≤ n) (h1 : n ≤ 9223372036854775807) (w : World) (ht : Tens w) :
    Calls Tryz.prog 64 #[.int .i64 n] w fun e w' => e = .returned (.string ⟨(Lib.itoa n).toArray⟩) ∧ Below w.heap.size w w' := by
  go_enter Tryz.func64, Tryz.ntmps64
  go_wp2_with (go_at_call 90; refine (Tryz.strconv_Itoa n h0 h1 _ ht).mono ?_; rintro e w' ⟨rfl, k, os, rfl⟩)
  go_ret
  exact ⟨rfl, Base.below_grow_drewN _ _ _⟩
end Go.Proofs.YtfkejnbkglaokaaGreatDoor.Fmt

/-
  PLAIN FACTS OF DECIMAL NUMERALS: the digits of a number as the model writes them, one in front of the other; no word of the program stands here.
-/
namespace Go.Proofs.YtfkejnbkglaokaaGreatDoor.Fmt
open Go Go.RowKit
set_option linter.unusedVariables false
set_option maxRecDepth 1000000

/-- the digits of u; nothing for 0. -/
def dd (u : Nat) : List UInt8 := if u = 0 then [] else Lib.decDigits u
theorem dd_zero : dd 0 = [] := rfl
theorem dd_pos {u : Nat} (h : u ≠ 0) : dd u = Lib.decDigits u := by unfold dd; rw [if_neg h]
theorem dd_step {u : Nat} (h : u ≠ 0) : dd u = dd (u / 10) ++ [UInt8.ofNat (48 + u % 10)] := by
  rw [dd_pos h, Lib.decDigits]
  by_cases hs : u < 10
  · rw [dif_pos hs, show u / 10 = 0 by omega, dd_zero, show u % 10 = u by omega]; rfl
  · rw [dif_neg hs, dd_pos (by omega)]
theorem nDigits_le (k : Nat) : ∀ u : Nat, u < 10 ^ k → Lib.nDigits u ≤ max k 1 := by
  induction k with
  | zero => intro u h; rw [Lib.nDigits_small (by simp at h; omega)]; omega
  | succ k ih =>
    intro u h
    by_cases hs : u < 10
    · rw [Lib.nDigits_small hs]; omega
    · rw [Lib.nDigits_big hs]
      have hk : k ≠ 0 := by rintro rfl; simp at h; omega
      have := ih (u / 10) (by rw [Nat.pow_succ] at h; omega)
      omega
theorem dd_len {u : Nat} (h : u ≤ 9223372036854775808) : (dd u).length ≤ 19 := by
  unfold dd
  split
  · simp
  · rw [Lib.decDigits_length]
    have := nDigits_le 19 u (by omega)
    omega
theorem itoa_zero : Lib.itoa 0 = [48] := by decide +kernel
theorem itoa_pos {n : Int} (h : 0 < n) : Lib.itoa n = dd n.natAbs := by
  unfold Lib.itoa; rw [if_neg (by omega), dd_pos (by omega)]; congr 1; omega
theorem itoa_neg {n : Int} (h : n < 0) : Lib.itoa n = 45 :: dd n.natAbs := by
  unfold Lib.itoa; rw [if_pos h, dd_pos (by omega)]
theorem itoa_len {n : Int} (h0 : -9223372036854775808 ≤ n) (h1 : n ≤ 9223372036854775807) : 1 ≤ (Lib.itoa n).length ∧ (Lib.itoa n).length ≤ 20 := by
  have hl := dd_len (u := n.natAbs) (by omega)
  rcases Int.lt_trichotomy n 0 with h | h | h
  · rw [itoa_neg h]; simp; omega
  · subst h; rw [itoa_zero]; simp
  · rw [itoa_pos h]
    refine ⟨?_, by omega⟩
    rw [dd_step (by omega)]; simp
end Go.Proofs.YtfkejnbkglaokaaGreatDoor.Fmt

/-
  CONTRACT of the model's FormatInt: at every integer of 64 bits it returns the decimal numeral; nothing that was there before is changed.
-/
namespace Go.Proofs.YtfkejnbkglaokaaGreatDoor.Fmt
open Go Go.RowKit
set_option linter.unusedVariables false
set_option maxRecDepth 1000000

theorem ret_str {a b : List UInt8} (h : a = b) : Ending.returned (.string ⟨a.toArray⟩) = .returned (.string ⟨b.toArray⟩) := by rw [h]

/-- A byte in a new block of its own, read back as a string. -/
theorem byteback (wr : World) (z : Int) (h0 : 0 ≤ z) (h1 : z ≤ 255) :
    (convert 36 9 (.slice (some ⟨wr.heap.size, 0, none⟩) 1 1)).run Tryz.prog (wr.alloc (.cells #[.int .u8 z] 5)) = .ok (.string ⟨[UInt8.ofNat z.toNat].toArray⟩) (wr.alloc (.cells #[.int .u8 z] 5)) := by
  have h := run_convert_bytes_back (P := Tryz.prog) (wr.alloc (.cells #[.int .u8 z] 5)) 36 9 5 ⟨wr.heap.size, 0, none⟩ 1 [UInt8.ofNat z.toNat] Tryz.underlying36 Tryz.underlying5 Tryz.underlying9 (fun j hj => by
    have hj0 : j = 0 := by simpa using hj
    subst hj0
    have : ((UInt8.ofNat z.toNat).toNat : Int) = z := by
      rw [UInt8.toNat_ofNat']; omega
    show World.cell? _ ⟨wr.heap.size, 0 + 0, none⟩ = _
    rw [World.cell?_alloc_new]
    simp; omega)
  exact h
theorem addone (c : UInt8) (suf : List UInt8) (h : suf.length ≤ 40) (W : World) :
    (Op.stringOp .add ⟨[c].toArray⟩ ⟨suf.toArray⟩).run Tryz.prog W = .ok (.string ⟨(c :: suf).toArray⟩) W := by
  rw [run_string_add_sum W _ _ (by simp [ByteArray.size]; omega)]; rfl

theorem step (u : Nat) (suf : List UInt8) (hz : u ≠ 0) (wr : World) : ∃ c : UInt8, dd (u / 10) ++ (c :: suf) = dd u ++ suf ∧
    (convert 36 9 (.slice (some ⟨wr.heap.size, 0, none⟩) 1 1)).run Tryz.prog (wr.alloc (.cells #[.int .u8 (48 + (u : Int) % 10)] 5)) = .ok (.string ⟨[c].toArray⟩) (wr.alloc (.cells #[.int .u8 (48 + (u : Int) % 10)] 5)) := by
  refine ⟨_, ?_, byteback wr _ (by omega) (by omega)⟩
  rw [dd_step hz, show (48 + (u : Int) % 10).toNat = 48 + u % 10 by omega, List.append_assoc]; rfl
theorem step_len (u m : Nat) (c : UInt8) (suf : List UInt8) (h : m ≤ 9223372036854775808) (e : dd (u / 10) ++ (c :: suf) = dd m) : (c :: suf).length ≤ 19 := by
  have h19 := dd_len h
  rw [← e, List.length_append] at h19
  omega

set_option maxRecDepth 1000000 in
set_option maxHeartbeats 400000 in
theorem spec_pos (n : Int) (h0 : 0 < n) (h1 : n ≤ 9223372036854775807) (w : World) :
    Calls Tryz.prog 61 #[.int .i64 n] w fun e w' => e = .returned (.string ⟨(Lib.itoa n).toArray⟩) ∧ Below w.heap.size w w' := by
  have hn : ¬ n = 0 := by omega
  have hns : ¬ n < 0 := by omega
  have HI := Lib.hid (itoa_pos h0)
  go_enter Tryz.func61, Tryz.ntmps61
  go_wp2
  go_loopw [3, 4] (fun s x wr => ∃ (u : Nat) (suf : List UInt8), x = .int .i64 u ∧ (u : Int) ≤ n ∧ s = .string ⟨suf.toArray⟩ ∧ suf.length ≤ 19 ∧ dd u ++ suf = dd n.natAbs ∧ Below w.heap.size w wr) (fun _ x _ => (intOf x).toNat)
  case atStart => exact ⟨n.natAbs, [], by rw [Int.natAbs_of_nonneg (by omega)], by omega, rfl, by simp, by simp, Below.refl _ _⟩
  case round =>
    obtain ⟨u, suf, rfl, hu, rfl, hsl, hdd, hb⟩ := hrel
    have HD := Lib.hid hdd
    clear hdd
    by_cases hz : u = 0
    · subst hz
      go_wp2
      go_ret
      refine ⟨ret_str ?_, hb⟩
      rw [HI.out, ← HD.out, dd_zero]; rfl
    · have hz' : 0 < (u : Int) := by omega
      obtain ⟨c, hst, hcv⟩ := step u suf hz wr
      have hadd := addone c suf (by omega)
      have HL := Lib.hid (step_len u n.natAbs c suf (by omega) (hst.trans HD.out))
      have HS := Lib.hid (hst.trans HD.out)
      clear hst
      go_wp2
      go_roundw
      case rel => exact ⟨u / 10, _, by go_num, by omega, rfl, HL.out, HS.out, hb.alloc hb.size _⟩
      case measure => simp [intOf]; omega

theorem neg_mod (u : Nat) : (-(u : Int)).tmod 10 = -((u : Int) % 10) := by
  rw [Int.neg_tmod]; congr 1
theorem neg_div (u : Nat) : (-(u : Int)).tdiv 10 = -((u : Int) / 10) := by
  rw [Int.neg_tdiv]; congr 1

set_option maxRecDepth 1000000 in
set_option maxHeartbeats 800000 in
theorem spec_neg (n : Int) (h0 : -9223372036854775808 ≤ n) (h1 : n < 0) (w : World) :
    Calls Tryz.prog 61 #[.int .i64 n] w fun e w' => e = .returned (.string ⟨(Lib.itoa n).toArray⟩) ∧ Below w.heap.size w w' := by
  have hn : ¬ n = 0 := by omega
  have HI := Lib.hid (itoa_neg h1)
  go_enter Tryz.func61, Tryz.ntmps61
  go_wp2
  go_loopw [3, 4] (fun s x wr => ∃ (u : Nat) (suf : List UInt8), x = .int .i64 (-(u : Int)) ∧ n ≤ -(u : Int) ∧ s = .string ⟨suf.toArray⟩ ∧ suf.length ≤ 19 ∧ dd u ++ suf = dd n.natAbs ∧ Below w.heap.size w wr) (fun _ x _ => (-(intOf x)).toNat)
  case atStart => exact ⟨n.natAbs, [], by rw [show -(n.natAbs : Int) = n by omega], by omega, rfl, by simp, by simp, Below.refl _ _⟩
  case round =>
    obtain ⟨u, suf, rfl, hu, rfl, hsl, hdd, hb⟩ := hrel
    have HD := Lib.hid hdd
    clear hdd
    by_cases hz : u = 0
    · subst hz
      have hadd := addone 45 suf (by omega)
      go_wp2
      go_ret
      refine ⟨ret_str ?_, hb⟩
      rw [HI.out, ← HD.out, dd_zero]; rfl
    · have hz' : 0 < (u : Int) := by omega
      obtain ⟨c, hst, hcv⟩ := step u suf hz wr
      have hadd := addone c suf (by omega)
      have HL := Lib.hid (step_len u n.natAbs c suf (by omega) (hst.trans HD.out))
      have HS := Lib.hid (hst.trans HD.out)
      clear hst
      have htm := neg_mod u
      have htd := neg_div u
      by_cases hm : (u : Int) % 10 = 0
      · rw [hm, show (48 : Int) + 0 = 48 from rfl] at hcv
        go_wp2
        go_roundw
        case rel => exact ⟨u / 10, _, by go_num, by omega, rfl, HL.out, HS.out, hb.alloc hb.size _⟩
        case measure => simp [intOf]; omega
      · go_wp2
        go_roundw
        case rel => exact ⟨u / 10, _, by go_num, by omega, rfl, HL.out, HS.out, hb.alloc hb.size _⟩
        case measure => simp [intOf]; omega

theorem spec_zero (w : World) :
    Calls Tryz.prog 61 #[.int .i64 0] w fun e w' => e = .returned (.string ⟨(Lib.itoa 0).toArray⟩) ∧ Below w.heap.size w w' := by
  have HI := Lib.hid itoa_zero
  go_enter Tryz.func61, Tryz.ntmps61
  go_wp2
  go_ret
  exact ⟨by rw [HI.out]; rfl, Below.refl _ _⟩

/-- The model's FormatInt, at every integer of 64 bits. -/
theorem spec_fmt (n : Int) (h0 : -9223372036854775808 ≤ n) (h1 : n ≤ 9223372036854775807) (w : World) :
    Calls Tryz.prog 61 #[.int .i64 n] w fun e w' => e = .returned (.string ⟨(Lib.itoa n).toArray⟩) ∧ Below w.heap.size w w' := by
  rcases Int.lt_trichotomy n 0 with h | h | h
  · exact spec_neg n h0 h w
  · subst h; exact spec_zero w
  · exact spec_pos n h h1 w
end Go.Proofs.YtfkejnbkglaokaaGreatDoor.Fmt

/-
  CONTRACTS of FormatResponse, the model's and the program's: the response as it is written, nothing where it is not valid; nothing that was there before is changed.
-/
namespace Go.Proofs.YtfkejnbkglaokaaGreatDoor.Msg
open Go Go.RowKit
set_option linter.unusedVariables false
set_option maxRecDepth 1000000

def rspTxt (c : Int) (l : List Flds.Fld) (b : List UInt8) : List UInt8 := [72, 84, 84, 80, 47, 49, 46, 49, 32] ++ Lib.itoa c ++ [13, 10] ++ Flds.fmt l ++ [99, 111, 110, 116, 101, 110, 116, 45, 108, 101, 110, 103, 116, 104, 58, 32] ++ Lib.itoa (b.length : Int) ++ [13, 10, 13, 10] ++ b
def rspTxt2 (c : Int) (l : List Flds.Fld) (b : List UInt8) : List UInt8 := [72, 84, 84, 80, 47, 49, 46, 49, 32] ++ Lib.itoa c ++ [13, 10] ++ Flds.fmt l ++ Flds.fmt [(lenName, Lib.itoa (b.length : Int))] ++ [13, 10] ++ b
theorem rspTxt_eq (c : Int) (l : List Flds.Fld) (b : List UInt8) : rspTxt c l b = rspTxt2 c l b := by
  unfold rspTxt rspTxt2 Flds.fmt
  simp [Flds.line, lenName, List.append_assoc]
def fmtRsp (c : Int) (l : List Flds.Fld) (b : List UInt8) : List UInt8 := if rspOk c l b then rspTxt c l b else []
/-- The class of worlds: a response's own block, and all that is old. -/
def BxR (w : World) (c : Int) (v : Value) (b : List UInt8) (u : World) : Prop := (u.cell? ⟨w.heap.size, 0, none⟩ = some (.int .i64 c) ∧ u.cell? ⟨w.heap.size, 1, none⟩ = some v ∧ u.cell? ⟨w.heap.size, 2, none⟩ = some (.string ⟨b.toArray⟩)) ∧ Below w.heap.size w u
theorem bxr_call {w u u' : World} {c : Int} {v : Value} {b : List UInt8} (hs : BxR w c v b u) (hb : Below u.heap.size u u') : BxR w c v b u' := by
  obtain ⟨⟨h0, h1, h2⟩, h4⟩ := hs
  exact ⟨⟨(hb.cell (p := ⟨w.heap.size, 0, none⟩) (Rec.lt_of_cell h0)).trans h0, (hb.cell (p := ⟨w.heap.size, 1, none⟩) (Rec.lt_of_cell h1)).trans h1, (hb.cell (p := ⟨w.heap.size, 2, none⟩) (Rec.lt_of_cell h2)).trans h2⟩, Base.then_below h4 hb⟩
theorem bxr_drew {w u : World} {c : Int} {v : Value} {b : List UInt8} (hs : BxR w c v b u) : BxR w c v b u.drew := ⟨hs.1, Rec.below_drew hs.2⟩
theorem bxr_start (w : World) (c : Int) (v : Value) (b : List UInt8) (T : TypeId) : BxR w c v b (w.alloc (.cells #[.int .i64 c, v, .string ⟨b.toArray⟩] T)) :=
  ⟨⟨by rw [World.cell?_alloc_new]; rfl, by rw [World.cell?_alloc_new]; rfl, by rw [World.cell?_alloc_new]; rfl⟩, (Below.refl _ _).alloc (Nat.le_refl _) _⟩
theorem itl {n : Int} (h : -9223372036854775808 ≤ n ∧ n ≤ 9223372036854775807) : (Lib.itoa n).length ≤ 20 := (Fmt.itoa_len h.1 h.2).2

/-- A field in a block of its own. -/
def FBox (g : Nat) (x y : Value) (w : World) : Prop := w.heap[g]? = some (.cells #[x, y] 48 (0, 0))
theorem box_new (w : World) (x y : Value) : FBox w.heap.size x y (w.alloc (.cells #[x, y] 48)) := heap_alloc_new w _
theorem box_keep {g : Nat} {x y : Value} {w w' : World} (h : FBox g x y w) (hb : Below w.heap.size w w') : FBox g x y w' := by
  have hlt : g < w.heap.size := by
    rcases Nat.lt_or_ge g w.heap.size with h' | h'
    · exact h'
    · unfold FBox at h; rw [Array.getElem?_eq_none h'] at h; cases h
  exact (hb.block g hlt).trans h
theorem box_facts {g : Nat} {x y : Value} {w : World} (h : FBox g x y w) : (w.cell? ⟨g, 0, none⟩ = some x ∧ w.cell? ⟨g, 1, none⟩ = some y) ∧ w.frozen? ⟨g, 0, none⟩ = false ∧ w.frozen? ⟨g, 1, none⟩ = false :=
  ⟨⟨cell_of_row w g 0 _ _ (0, 0) h, cell_of_row w g 1 _ _ (0, 0) h⟩, frozen_of_row w g 0 _ _ h, frozen_of_row w g 1 _ _ h⟩

set_option maxHeartbeats 2000000 in
theorem impl_lenf (c : Int) (v : Value) (b : List UInt8) (w : World) (hbl : b.length ≤ 1048576) (ht : Fmt.Tens w) :
    Calls Tryz.prog 37 #[.agg #[.int .i64 c, v, .string ⟨b.toArray⟩]] w fun e w' => e = .returned (.agg #[.string ⟨lenName.toArray⟩, .string ⟨(Lib.itoa (b.length : Int)).toArray⟩]) ∧ Below w.heap.size w w' := by
  have hsb : (⟨b.toArray⟩ : ByteArray).size = b.length := by simp [ByteArray.size]
  have hb2 : Below w.heap.size w ((w.alloc (.cells #[.int .i64 c, v, .string ⟨b.toArray⟩] 31)).alloc (.cells #[.string ⟨#[]⟩, .string ⟨#[]⟩] 48)) := ((Below.refl _ _).alloc (Nat.le_refl _) _).alloc (by simp) _
  have HB2 := Lib.hid hb2
  have HQ := Lib.hid (Fmt.impl_fmt (b.length : Int) (by omega) (by omega) _ (Fmt.tens_below ht hb2))
  have HK := Lib.hid (box_new ((w.alloc (.cells #[.int .i64 c, v, .string ⟨b.toArray⟩] 31))) (.string ⟨#[]⟩) (.string ⟨#[]⟩))
  generalize Lib.itoa (b.length : Int) = s at HQ
  clear ht hb2
  go_enter Tryz.func37, Tryz.ntmps37
  go_wp2_with (fail)
  go_at_call 64
  refine HQ.out.mono ?_
  rintro e w1 ⟨rfl, hb1⟩
  have HBX := Lib.hid (box_keep HK.out hb1)
  have HB := Lib.hid (HB2.out.trans (hb1.mono HB2.out.size))
  obtain ⟨⟨q0, q1⟩, z0, z1⟩ := box_facts HBX.out
  simp only [World.size_alloc] at q0 q1 z0 z1
  clear hb1 HK
  go_wp2
  refine bodyPost_ret (v := .agg #[.string ⟨lenName.toArray⟩, .string ⟨s.toArray⟩]) (by simp [results, Tryz.results37, go_sem, q0, q1, lenName]) rfl ⟨rfl, ?_⟩
  exact (HB.out.setCell (by simp) _).setCell (by simp) _

set_option maxRecDepth 1000000 in
set_option maxHeartbeats 4000000 in
theorem impl_text_rsp (c : Int) (v : Value) (B : Nat) (l : List Flds.Fld) (b : List UInt8) (w : World) (h : Flds.Holds w B v l) (hB : B ≤ w.heap.size) (hl : Flds.total l ≤ 1048576) (hbl : b.length ≤ 1048576) (hc : -9223372036854775808 ≤ c ∧ c ≤ 9223372036854775807) (ht : Fmt.Tens w) :
    Calls Tryz.prog 43 #[.agg #[.int .i64 c, v, .string ⟨b.toArray⟩]] w (TxtEnd (rspTxt2 c l b) w) := by
  have HS0 := bxr_start w c v b 31
  have HTN := Lib.hid (fun W (hb : Below w.heap.size w W) => Fmt.tens_below ht hb)
  have HP := Lib.hid (fun W (hb : Below w.heap.size w W) => Fmt.impl_fmt c hc.1 hc.2 W (HTN.out W hb))
  have HL := Lib.hid (fun W (hb : Below w.heap.size w W) => impl_lenf c v b W hbl (HTN.out W hb))
  have HF := Lib.hid (fun W (hb : Below w.heap.size w W) => Flds.impl_fmt_any v B l W (Flds.holds_below h (hb.mono hB)) (Nat.le_trans hB hb.size) hl)
  have hn : -9223372036854775808 ≤ (b.length : Int) ∧ (b.length : Int) ≤ 9223372036854775807 := ⟨by omega, by omega⟩
  have l1 := itl hc
  have l2 := fmt_le hl
  have l3 := itl hn
  have HE : Hid (rspTxt2 c l b = [72, 84, 84, 80, 47, 49, 46, 49, 32] ++ Lib.itoa c ++ [13, 10] ++ Flds.fmt l ++ Flds.fmt [(lenName, Lib.itoa (b.length : Int))] ++ [13, 10] ++ b) := Lib.hid rfl
  generalize Lib.itoa (b.length : Int) = s3 at HE HL l3
  have hg : (Flds.fmt [(lenName, s3)]).length ≤ 100 := by simp [Flds.fmt, Flds.line, lenName]; omega
  have HG : Hid (∀ U : World, Calls Tryz.prog 69 #[.slice (some ⟨U.heap.size, 0, none⟩) 1 1] (U.alloc (.cells #[.string ⟨lenName.toArray⟩, .string ⟨s3.toArray⟩] 48)) (Flds.FmtEnd [(lenName, s3)] (U.alloc (.cells #[.string ⟨lenName.toArray⟩, .string ⟨s3.toArray⟩] 48)))) := Lib.hid (fun U => Flds.impl_fmt_any _ _ [(lenName, s3)] _ (Flds.own_holds (lit_field U lenName s3 rfl)) (Nat.le_refl _) (by unfold Flds.total; have e : Flds.wt (lenName, s3) = 14 + s3.length := rfl; simp only [List.map_cons, List.map_nil, List.sum_cons, List.sum_nil, List.length_cons, List.length_nil, e]; omega))
  unfold Flds.FmtEnd at HF HG
  unfold TxtEnd
  generalize Lib.itoa c = s1 at HE HP l1
  generalize Flds.fmt l = f at HE HF l2
  generalize Flds.fmt [(lenName, s3)] = g at HE HG hg
  have a1 := Tx.addtwo ([72, 84, 84, 80, 47, 49, 46, 49, 32]) (s1) (by simp only [List.length_append, List.length_cons, List.length_nil]; omega)
  have a2 := Tx.addtwo ([72, 84, 84, 80, 47, 49, 46, 49, 32] ++ s1) ([13, 10]) (by simp only [List.length_append, List.length_cons, List.length_nil]; omega)
  have a3 := Tx.addtwo ([72, 84, 84, 80, 47, 49, 46, 49, 32] ++ s1 ++ [13, 10]) (f) (by simp only [List.length_append, List.length_cons, List.length_nil]; omega)
  have a4 := Tx.addtwo ([72, 84, 84, 80, 47, 49, 46, 49, 32] ++ s1 ++ [13, 10] ++ f) (g) (by simp only [List.length_append, List.length_cons, List.length_nil]; omega)
  have a5 := Tx.addtwo ([72, 84, 84, 80, 47, 49, 46, 49, 32] ++ s1 ++ [13, 10] ++ f ++ g) ([13, 10]) (by simp only [List.length_append, List.length_cons, List.length_nil]; omega)
  have a6 := Tx.addtwo ([72, 84, 84, 80, 47, 49, 46, 49, 32] ++ s1 ++ [13, 10] ++ f ++ g ++ [13, 10]) (b) (by simp only [List.length_append, List.length_cons, List.length_nil]; omega)
  generalize [72, 84, 84, 80, 47, 49, 46, 49, 32] ++ s1 = z1 at HE a1 a2 a3 a4 a5 a6
  generalize z1 ++ [13, 10] = z2 at HE a2 a3 a4 a5 a6
  generalize z2 ++ f = z3 at HE a3 a4 a5 a6
  generalize z3 ++ g = z4 at HE a4 a5 a6
  generalize z4 ++ [13, 10] = z5 at HE a5 a6
  generalize z5 ++ b = z6 at HE a6
  have HSD : Hid ((w.alloc (.cells #[.int .i64 c, v, .string ⟨b.toArray⟩] 31)).drew.cell? ⟨w.heap.size, 0, none⟩ = some (.int .i64 c) ∧ (w.alloc (.cells #[.int .i64 c, v, .string ⟨b.toArray⟩] 31)).drew.cell? ⟨w.heap.size, 1, none⟩ = some v ∧ (w.alloc (.cells #[.int .i64 c, v, .string ⟨b.toArray⟩] 31)).drew.cell? ⟨w.heap.size, 2, none⟩ = some (.string ⟨b.toArray⟩) ∧ Hid (Below w.heap.size w ((w.alloc (.cells #[.int .i64 c, v, .string ⟨b.toArray⟩] 31)).drew))) := Lib.hid ⟨HS0.1.1, HS0.1.2.1, HS0.1.2.2, Lib.hid (Rec.below_drew HS0.2)⟩
  have SC : Hid (∀ u u' : World, u.cell? ⟨w.heap.size, 0, none⟩ = some (.int .i64 c) → u.cell? ⟨w.heap.size, 1, none⟩ = some v → u.cell? ⟨w.heap.size, 2, none⟩ = some (.string ⟨b.toArray⟩) → Hid (Below w.heap.size w u) → Below u.heap.size u u' → (u'.cell? ⟨w.heap.size, 0, none⟩ = some (.int .i64 c) ∧ u'.cell? ⟨w.heap.size, 1, none⟩ = some v ∧ u'.cell? ⟨w.heap.size, 2, none⟩ = some (.string ⟨b.toArray⟩) ∧ Hid (Below w.heap.size w (u')))) := Lib.hid (fun u u' c0 c1 c2 hb hg => ⟨(hg.cell (p := ⟨w.heap.size, 0, none⟩) (Rec.lt_of_cell c0)).trans c0, (hg.cell (p := ⟨w.heap.size, 1, none⟩) (Rec.lt_of_cell c1)).trans c1, (hg.cell (p := ⟨w.heap.size, 2, none⟩) (Rec.lt_of_cell c2)).trans c2, Lib.hid (Base.then_below hb.out hg)⟩)
  have SA : Hid (∀ (u : World) (o : Obj), u.cell? ⟨w.heap.size, 0, none⟩ = some (.int .i64 c) → u.cell? ⟨w.heap.size, 1, none⟩ = some v → u.cell? ⟨w.heap.size, 2, none⟩ = some (.string ⟨b.toArray⟩) → Hid (Below w.heap.size w u) → ((u.alloc o).cell? ⟨w.heap.size, 0, none⟩ = some (.int .i64 c) ∧ (u.alloc o).cell? ⟨w.heap.size, 1, none⟩ = some v ∧ (u.alloc o).cell? ⟨w.heap.size, 2, none⟩ = some (.string ⟨b.toArray⟩) ∧ Hid (Below w.heap.size w ((u.alloc o))))) := Lib.hid (fun u o c0 c1 c2 hb => SC.out u _ c0 c1 c2 hb ((Below.refl _ _).alloc (Nat.le_refl _) o))
  clear h hl hc hn l1 l2 l3 hg HS0 ht hbl
  go_enter Tryz.func43, Tryz.ntmps43
  go_wp2
  go_region_held_law (fun u => u.cell? ⟨w.heap.size, 0, none⟩ = some (.int .i64 c) ∧ u.cell? ⟨w.heap.size, 1, none⟩ = some v ∧ u.cell? ⟨w.heap.size, 2, none⟩ = some (.string ⟨b.toArray⟩) ∧ Hid (Below w.heap.size w u))
    (first | exact HSD.out | (go_split_ands; refine SA.out _ _ ?_ ?_ ?_ ?_ <;> assumption) | (go_split_ands; refine SC.out _ _ ?_ ?_ ?_ ?_ hb1 <;> assumption) | (go_split_ands; refine SC.out _ _ ?_ ?_ ?_ ?_ hb2 <;> assumption) | (go_split_ands; refine SC.out _ _ ?_ ?_ ?_ ?_ hb3 <;> assumption) | (go_split_ands; refine SC.out _ _ ?_ ?_ ?_ ?_ hb4 <;> assumption) | go_keep)
    (first
      | (go_at_call 64; (with_reducible refine (HP.out _ (by go_split_ands; exact Hid.out (by assumption))).mono ?_); rintro e w1 ⟨rfl, hb1⟩)
      | (go_at_call 37; (with_reducible refine (HL.out _ (by go_split_ands; exact Hid.out (by assumption))).mono ?_); rintro e w3 ⟨rfl, hb3⟩)
      | (go_at_call 69; (with_reducible refine (HF.out _ (by go_split_ands; exact Hid.out (by assumption))).mono ?_); rintro e w2 ⟨rfl, hb2⟩)
      | (go_at_call 69; (with_reducible refine (HG.out _).mono ?_); rintro e w4 ⟨rfl, hb4⟩))
  all_goals (
    go_split_ands
    have HKB := Lib.hid (Hid.out ‹Hid (Below w.heap.size w w4)›)
    go_wp2
    go_ret
    exact ⟨ret_txt HE.out.symm, HKB.out⟩)

set_option maxRecDepth 1000000 in
set_option maxHeartbeats 2000000 in
theorem impl_fmtr (c : Int) (v : Value) (B : Nat) (l : List Flds.Fld) (b : List UInt8) (w : World) (h : Flds.Holds w B v l) (hB : B ≤ w.heap.size) (hl : Flds.total l ≤ 1048576) (hbl : b.length ≤ 1048576) (ht : Fmt.Tens w) :
    Calls Tryz.prog 20 #[.agg #[.int .i64 c, v, .string ⟨b.toArray⟩]] w (TxtEnd (fmtRsp c l b) w) := by
  have HS0 := Lib.hid (bxr_start w c v b 31)
  have HY := Lib.hid h
  have HI := Lib.hid (impl_valid_rsp c v B l b _ (Flds.holds_below h (HS0.out.2.mono hB)) (Nat.le_trans hB HS0.out.2.size) hl hbl)
  unfold TxtEnd
  cases hok : rspOk c l b with
  | false =>
    have HE : Hid (fmtRsp c l b = []) := Lib.hid (by unfold fmtRsp; rw [hok]; rfl)
    rw [hok] at HI
    clear hok h hl hbl
    go_enter Tryz.func20, Tryz.ntmps20
    go_wp2_with (fail)
    go_at_call 38
    refine HI.out.mono ?_
    rintro e w1 ⟨rfl, hb1⟩
    have HB := Lib.hid (bxr_call HS0.out hb1).2
    clear hb1
    go_wp2
    go_ret
    exact ⟨ret_txt HE.out.symm, HB.out⟩
  | true =>
    have HE : Hid (fmtRsp c l b = rspTxt2 c l b) := Lib.hid (by unfold fmtRsp; rw [hok]; rw [rspTxt_eq]; rfl)
    rw [hok] at HI
    have hc : -9223372036854775808 ≤ c ∧ c ≤ 9223372036854775807 := by
      unfold rspOk at hok
      simp only [Bool.and_eq_true, decide_eq_true_eq] at hok
      omega
    have HTX := Lib.hid (fun W (hb : Below w.heap.size w W) => impl_text_rsp c v B l b W (Flds.holds_below h (hb.mono hB)) (Nat.le_trans hB hb.size) hl hbl hc (Fmt.tens_below ht hb))
    unfold TxtEnd at HTX
    generalize rspTxt2 c l b = z at HE HTX
    clear hok h hl hbl hc
    go_enter Tryz.func20, Tryz.ntmps20
    go_wp2_with (fail)
    go_at_call 38
    refine HI.out.mono ?_
    rintro e w1 ⟨rfl, hb1⟩
    have HS1 := bxr_call HS0.out hb1
    have HB := Lib.hid HS1.2
    obtain ⟨⟨b0, b1, b2⟩, _⟩ := HS1
    clear hb1
    go_wp2_with (fail)
    go_at_call 43
    refine (HTX.out _ HB.out).mono ?_
    rintro e w2 ⟨rfl, hb2⟩
    have HB := Lib.hid (Base.then_below HB.out hb2)
    clear hb2 b0 b1 b2
    go_wp2
    go_ret
    exact ⟨ret_txt HE.out.symm, HB.out⟩
end Go.Proofs.YtfkejnbkglaokaaGreatDoor.Msg
