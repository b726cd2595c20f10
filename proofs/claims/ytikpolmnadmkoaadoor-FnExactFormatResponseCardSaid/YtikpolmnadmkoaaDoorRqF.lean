/-
  CONTRACTS of FormatRequest, the model's and the program's: the request as it is written, nothing where it is not valid; nothing that was there before is changed.
-/
import Derived.Test.YtikpolmnadmkoaaDoorRqIsS
import Derived.Test.YtikpolmnadmkoaaDoorFldFmt
import Derived.Test.YtikpolmnadmkoaaDoorRegS
import Derived.Test.YtikpolmnadmkoaaDoorRecApp
import Derived.Deep.AppendLies
import Derived.Deep.RegionHeldLaw
namespace Go.Proofs.YtikpolmnadmkoaaDoor.Msg
open Go Go.RowKit
set_option linter.unusedVariables false

def reqTxt (m h t : List UInt8) (l : List Flds.Fld) : List UInt8 := m ++ [32] ++ t ++ [32, 72, 84, 84, 80, 47, 49, 46, 49, 13, 10, 104, 111, 115, 116, 58, 32] ++ h ++ [13, 10] ++ Flds.fmt l ++ [13, 10]
def fmtReq (m h t : List UInt8) (l : List Flds.Fld) : List UInt8 := if reqOk m h t l then reqTxt m h t l else []
def TxtEnd (x : List UInt8) (w : World) (e : Ending) (w' : World) : Prop := e = .returned (.string ⟨x.toArray⟩) ∧ Below w.heap.size w w'
theorem ret_txt {a b : List UInt8} (h : a = b) : Ending.returned (.string ⟨a.toArray⟩) = .returned (.string ⟨b.toArray⟩) := by rw [h]
theorem fmt_le {l : List Flds.Fld} {n : Nat} (h : Flds.total l ≤ n) : (Flds.fmt l).length ≤ 5 * n := by
  have h1 := Flds.fmt_len l l.length (Nat.le_refl _)
  rw [List.take_length] at h1
  have h2 := Flds.pre_le l l.length
  have h3 := len_total h
  omega
/-- The class of worlds: a request's own block, and all that is old. -/
def BxQ (w : World) (m h t : List UInt8) (v : Value) (u : World) : Prop := (u.cell? ⟨w.heap.size, 0, none⟩ = some (.string ⟨m.toArray⟩) ∧ u.cell? ⟨w.heap.size, 1, none⟩ = some (.string ⟨h.toArray⟩) ∧ u.cell? ⟨w.heap.size, 2, none⟩ = some (.string ⟨t.toArray⟩) ∧ u.cell? ⟨w.heap.size, 3, none⟩ = some v) ∧ Below w.heap.size w u
theorem bxq_call {w u u' : World} {m h t : List UInt8} {v : Value} (hs : BxQ w m h t v u) (hb : Below u.heap.size u u') : BxQ w m h t v u' := by
  obtain ⟨⟨h0, h1, h2, h3⟩, h4⟩ := hs
  exact ⟨⟨(hb.cell (p := ⟨w.heap.size, 0, none⟩) (Rec.lt_of_cell h0)).trans h0, (hb.cell (p := ⟨w.heap.size, 1, none⟩) (Rec.lt_of_cell h1)).trans h1, (hb.cell (p := ⟨w.heap.size, 2, none⟩) (Rec.lt_of_cell h2)).trans h2, (hb.cell (p := ⟨w.heap.size, 3, none⟩) (Rec.lt_of_cell h3)).trans h3⟩, Base.then_below h4 hb⟩
theorem bxq_drew {w u : World} {m h t : List UInt8} {v : Value} (hs : BxQ w m h t v u) : BxQ w m h t v u.drew := ⟨hs.1, Rec.below_drew hs.2⟩
theorem bxq_start (w : World) (m h t : List UInt8) (v : Value) (T : TypeId) : BxQ w m h t v (w.alloc (.cells #[.string ⟨m.toArray⟩, .string ⟨h.toArray⟩, .string ⟨t.toArray⟩, v] T)) :=
  ⟨⟨by rw [World.cell?_alloc_new]; rfl, by rw [World.cell?_alloc_new]; rfl, by rw [World.cell?_alloc_new]; rfl, by rw [World.cell?_alloc_new]; rfl⟩, (Below.refl _ _).alloc (Nat.le_refl _) _⟩

set_option maxRecDepth 100000 in
set_option maxHeartbeats 4000000 in
theorem spec_fmtq (m h t : List UInt8) (v : Value) (B : Nat) (l : List Flds.Fld) (w : World) (hh : Flds.Holds w B v l) (hB : B ≤ w.heap.size) (hl : Flds.total l ≤ 1048576) (hm : m.length ≤ 1048576) (hhl : h.length ≤ 1048576) (ht : t.length ≤ 1048576) :
    Calls Tryd.prog 17 #[.agg #[.string ⟨m.toArray⟩, .string ⟨h.toArray⟩, .string ⟨t.toArray⟩, v]] w (TxtEnd (fmtReq m h t l) w) := by
  have HS0 := Lib.hid (bxq_start w m h t v 29)
  have HY := Lib.hid hh
  have HI := Lib.hid (spec_isq m h t v B l _ (Flds.holds_below hh (HS0.out.2.mono hB)) (Nat.le_trans hB HS0.out.2.size) hl hm hhl ht)
  unfold TxtEnd
  cases hok : reqOk m h t l with
  | false =>
    have HE : Hid (fmtReq m h t l = []) := Lib.hid (by unfold fmtReq; rw [hok]; rfl)
    rw [hok] at HI
    clear hok hh hl hm hhl ht
    go_enter Tryd.func17, Tryd.ntmps17
    go_wp2_with (fail)
    go_at_call 8
    refine HI.out.mono ?_
    rintro e w1 ⟨rfl, hb1⟩
    have HB := Lib.hid (bxq_call HS0.out hb1).2
    clear hb1
    go_wp2
    go_ret
    exact ⟨ret_txt HE.out.symm, HB.out⟩
  | true =>
    have HE : Hid (fmtReq m h t l = reqTxt m h t l) := Lib.hid (by unfold fmtReq; rw [hok]; rfl)
    unfold reqTxt at HE
    rw [hok] at HI
    have lf := fmt_le hl
    have HF := Lib.hid (fun W (hW : Flds.Holds W B v l) => Flds.spec_fmt v B l W hW hl)
    unfold Flds.FmtEnd at HF
    generalize Flds.fmt l = f at HE lf HF
    have a1 := Tx.addtwo m [32] (by simp only [List.length_append, List.length_cons, List.length_nil]; omega)
    have a2 := Tx.addtwo (m ++ [32]) t (by simp only [List.length_append, List.length_cons, List.length_nil]; omega)
    have a3 := Tx.addtwo (m ++ [32] ++ t) [32, 72, 84, 84, 80, 47, 49, 46, 49, 13, 10, 104, 111, 115, 116, 58, 32] (by simp only [List.length_append, List.length_cons, List.length_nil]; omega)
    have a4 := Tx.addtwo (m ++ [32] ++ t ++ [32, 72, 84, 84, 80, 47, 49, 46, 49, 13, 10, 104, 111, 115, 116, 58, 32]) h (by simp only [List.length_append, List.length_cons, List.length_nil]; omega)
    have a5 := Tx.addtwo (m ++ [32] ++ t ++ [32, 72, 84, 84, 80, 47, 49, 46, 49, 13, 10, 104, 111, 115, 116, 58, 32] ++ h) [13, 10] (by simp only [List.length_append, List.length_cons, List.length_nil]; omega)
    have a6 := Tx.addtwo (m ++ [32] ++ t ++ [32, 72, 84, 84, 80, 47, 49, 46, 49, 13, 10, 104, 111, 115, 116, 58, 32] ++ h ++ [13, 10]) f (by simp only [List.length_append, List.length_cons, List.length_nil]; omega)
    have a7 := Tx.addtwo (m ++ [32] ++ t ++ [32, 72, 84, 84, 80, 47, 49, 46, 49, 13, 10, 104, 111, 115, 116, 58, 32] ++ h ++ [13, 10] ++ f) [13, 10] (by simp only [List.length_append, List.length_cons, List.length_nil]; omega)
    generalize m ++ [32] = t1 at HE a1 a2 a3 a4 a5 a6 a7
    generalize t1 ++ t = t2 at HE a2 a3 a4 a5 a6 a7
    generalize t2 ++ [32, 72, 84, 84, 80, 47, 49, 46, 49, 13, 10, 104, 111, 115, 116, 58, 32] = t3 at HE a3 a4 a5 a6 a7
    generalize t3 ++ h = t4 at HE a4 a5 a6 a7
    generalize t4 ++ [13, 10] = t5 at HE a5 a6 a7
    generalize t5 ++ f = t6 at HE a6 a7
    generalize t6 ++ [13, 10] = t7 at HE a7
    clear hok hh hl hm hhl ht lf
    go_enter Tryd.func17, Tryd.ntmps17
    go_wp2_with (fail)
    go_at_call 8
    refine HI.out.mono ?_
    rintro e w1 ⟨rfl, hb1⟩
    have HSD := Lib.hid (bxq_drew (bxq_call HS0.out hb1))
    clear hb1
    have SK : Hid (∀ w0 w1 : World, BxQ w m h t v w0 → Below w0.heap.size w0 w1 → BxQ w m h t v w1) := Lib.hid (fun _ _ h hb => bxq_call h hb)
    have HFW : Hid (∀ u : RegS.In (BxQ w m h t v), Calls Tryd.prog 30 #[v] u.w fun e w' => e = .returned (.string ⟨f.toArray⟩) ∧ Below u.w.heap.size u.w w') := Lib.hid (fun u => HF.out u.w (Flds.holds_below HY.out (u.h.2.mono hB)))
    have f0 : ∀ u : RegS.In (BxQ w m h t v), u.w.cell? ⟨w.heap.size, 0, none⟩ = some (.string ⟨m.toArray⟩) := fun u => u.h.1.1
    have f1 : ∀ u : RegS.In (BxQ w m h t v), u.w.cell? ⟨w.heap.size, 1, none⟩ = some (.string ⟨h.toArray⟩) := fun u => u.h.1.2.1
    have f2 : ∀ u : RegS.In (BxQ w m h t v), u.w.cell? ⟨w.heap.size, 2, none⟩ = some (.string ⟨t.toArray⟩) := fun u => u.h.1.2.2.1
    have f3 : ∀ u : RegS.In (BxQ w m h t v), u.w.cell? ⟨w.heap.size, 3, none⟩ = some v := fun u => u.h.1.2.2.2
    go_wp2
    refine RegS.region (BxQ w m h t v) (by kernel_rfl) (by kernel_rfl) HSD.out ?_
    haveI : Nonempty (RegS.In (BxQ w m h t v)) := ⟨⟨_, HSD.out⟩⟩
    repeat (first | go_big_quiet_step ((go_at_call 30; with_reducible exact RegS.call (HFW.out _) (fun e w' he => ⟨he.1, SK.out _ _ (RegS.In.h _) he.2⟩))) | quiet_step (fail))
    refine wpQuiet_nil ?_
    intro wz hw'
    obtain ⟨⟨wq, hS⟩, hw''⟩ := hw'
    subst hw''
    have HBB := Lib.hid hS.2
    clear hS
    go_wp2
    go_ret
    exact ⟨ret_txt HE.out.symm, HBB.out⟩

/-! The program's. -/
abbrev fcs1 (f : Flds.Fld) : List Value := [Flds.sv f.1, Flds.sv f.2]
theorem fcs1_len (f : Flds.Fld) : (fcs1 f).length = 2 := rfl
theorem fcs1_one (f : Flds.Fld) : ∀ u ∈ fcs1 f, u.oneCell' = true := Flds.two_one f
theorem rec_holds {w : World} {B : Nat} {v : Value} {l : List Flds.Fld} (h : Flds.Holds w B v l) : Rec.Holds 2 fcs1 Flds.nofld w B v l := by
  rcases h with h | ⟨h0, b, off, cap, rfl, hB, hc, h1⟩
  · exact Or.inl h
  · refine Or.inr ⟨h0, b, off, cap, rfl, hB, hc, fun j hj i u hu => ?_⟩
    match i, hu with
    | 0, hu => rw [← Option.some.inj hu]; exact (h1 j hj).1
    | 1, hu => rw [← Option.some.inj hu]; exact (h1 j hj).2
theorem small_of {l : List Flds.Fld} (h : ownOk l = true) : Flds.total l ≤ 5784 := by
  unfold ownOk at h
  rw [Bool.and_eq_true, Bool.and_eq_true, decide_eq_true_eq] at h
  obtain ⟨h1, h2, _⟩ := h
  unfold Flds.fldsOk at h1
  rw [Bool.and_eq_true, List.all_eq_true] at h1
  have key : ∀ m : List Flds.Fld, (∀ f ∈ m, Flds.fldOk f = true) → Flds.total m ≤ 241 * m.length := by
    intro m hm
    induction m with
    | nil => simp [Flds.total]
    | cons a r ih =>
      have h3 := ih (fun f hf => hm f (by simp [hf]))
      have h4 := hm a (by simp)
      unfold Flds.fldOk Tx.nameOk Tx.token Tx.valOk at h4
      simp only [Bool.and_eq_true, decide_eq_true_eq] at h4
      have h5 : a.1.length ≤ 40 := by omega
      have h6 : a.2.length ≤ 200 := by omega
      have h7 : Flds.wt a = a.1.length + a.2.length := rfl
      unfold Flds.total at h3 ⊢
      simp only [List.map_cons, List.sum_cons, List.length_cons, h7]
      omega
  have h3 := key l h1.1
  omega
def reqTxt2 (m h t : List UInt8) (l : List Flds.Fld) : List UInt8 := m ++ [32] ++ t ++ [32] ++ [72, 84, 84, 80, 47, 49, 46, 49] ++ [13, 10] ++ Flds.fmt ([(hostName, h)] ++ l) ++ [13, 10]
theorem reqTxt_eq (m h t : List UInt8) (l : List Flds.Fld) : reqTxt m h t l = reqTxt2 m h t l := by
  unfold reqTxt reqTxt2 Flds.fmt
  rw [List.flatMap_append]
  simp [Flds.line, hostName, List.append_assoc]
theorem lit_field (w : World) (a b : List UInt8) : w.heap.size = w.heap.size → (w.alloc (.cells #[.string ⟨a.toArray⟩, .string ⟨b.toArray⟩] 59)).ownsRow w.heap.size 59 2 (.slice (some ⟨w.heap.size, 0, none⟩) 1 1) [(a, b)].length (Rec.flat fcs1 [(a, b)]) := fun _ => World.ownsRow_lit w #[.string ⟨a.toArray⟩, .string ⟨b.toArray⟩] 1 (Nat.le_refl _) (by decide) rfl

set_option maxRecDepth 100000 in
set_option maxHeartbeats 4000000 in
theorem impl_text_req (m h t : List UInt8) (v : Value) (B : Nat) (l : List Flds.Fld) (w : World) (hh : Flds.Holds w B v l) (hB : B ≤ w.heap.size) (hl : Flds.total l ≤ 5784) (hm : m.length ≤ 1048576) (hhl : h.length ≤ 1000) (ht : t.length ≤ 1048576) :
    Calls Tryd.prog 31 #[.agg #[.string ⟨m.toArray⟩, .string ⟨h.toArray⟩, .string ⟨t.toArray⟩, v]] w (TxtEnd (reqTxt2 m h t l) w) := by
  obtain ⟨i0, hi, hz0, hz1, hz2⟩ := info_parts Flds.info_fld
  have hll := len_total hl
  have HS0 := bxq_start w m h t v 29
  have hz : (w.alloc (.cells #[.string ⟨m.toArray⟩, .string ⟨h.toArray⟩, .string ⟨t.toArray⟩, v] 29)).heap.size = w.heap.size + 1 := by simp
  generalize hw0 : w.alloc (.cells #[.string ⟨m.toArray⟩, .string ⟨h.toArray⟩, .string ⟨t.toArray⟩, v] 29) = w0 at HS0 hz
  have hA : Below w0.heap.size w0 (w0.alloc (.cells #[.string ⟨hostName.toArray⟩, .string ⟨h.toArray⟩] 59)) := (Below.refl _ _).alloc (Nat.le_refl _) _
  have HS1 := bxq_drew (bxq_call HS0 hA)
  have hown : World.ownsRow (w0.alloc (.cells #[.string ⟨hostName.toArray⟩, .string ⟨h.toArray⟩] 59)).drew w0.heap.size 59 2 (.slice (some ⟨w0.heap.size, 0, none⟩) 1 1) [(hostName, h)].length (Rec.flat fcs1 [(hostName, h)]) := lit_field w0 hostName h rfl
  have hm2 : Rec.Holds 2 fcs1 Flds.nofld (w0.alloc (.cells #[.string ⟨hostName.toArray⟩, .string ⟨h.toArray⟩] 59)).drew B v l := rec_holds (Flds.holds_below hh (HS1.2.mono hB))
  have hbase : w0.heap.size ≤ (w0.alloc (.cells #[.string ⟨hostName.toArray⟩, .string ⟨h.toArray⟩] 59)).drew.heap.size := by show w0.heap.size ≤ (w0.alloc _).heap.size; simp
  have HT : Hid (Flds.total ([(hostName, h)] ++ l) ≤ 1048576) := Lib.hid (by
    unfold Flds.total at hl ⊢
    have e : Flds.wt (hostName, h) = 4 + h.length := rfl
    simp only [List.cons_append, List.nil_append, List.map_cons, List.sum_cons, List.length_cons, e]; omega)
  have HFM := Lib.hid (fun W v' (hW : Flds.Own W w0.heap.size v' ([(hostName, h)] ++ l)) => Flds.impl_fmt_any v' W.heap.size ([(hostName, h)] ++ l) W (Flds.own_holds hW) (Nat.le_refl _) HT.out)
  have HE : Hid (reqTxt2 m h t l = m ++ [32] ++ t ++ [32] ++ [72, 84, 84, 80, 47, 49, 46, 49] ++ [13, 10] ++ Flds.fmt ([(hostName, h)] ++ l) ++ [13, 10]) := Lib.hid rfl
  have lf := fmt_le HT.out
  unfold Flds.FmtEnd at HFM
  have HOW : Hid (∀ (w' : World) (v' : Value), World.ownsRow w' w0.heap.size 59 2 v' ([(hostName, h)] ++ l).length (Rec.flat fcs1 ([(hostName, h)] ++ l)) → Flds.Own w' w0.heap.size v' ([(hostName, h)] ++ l)) := Lib.hid (fun _ _ h => h)
  generalize Flds.fmt ([(hostName, h)] ++ l) = f at HE lf HFM
  have a1 := Tx.addtwo m [32] (by simp only [List.length_append, List.length_cons, List.length_nil]; omega)
  have a2 := Tx.addtwo (m ++ [32]) t (by simp only [List.length_append, List.length_cons, List.length_nil]; omega)
  have a3 := Tx.addtwo (m ++ [32] ++ t) [32] (by simp only [List.length_append, List.length_cons, List.length_nil]; omega)
  have a4 := Tx.addtwo (m ++ [32] ++ t ++ [32]) [72, 84, 84, 80, 47, 49, 46, 49] (by simp only [List.length_append, List.length_cons, List.length_nil]; omega)
  have a5 := Tx.addtwo (m ++ [32] ++ t ++ [32] ++ [72, 84, 84, 80, 47, 49, 46, 49]) [13, 10] (by simp only [List.length_append, List.length_cons, List.length_nil]; omega)
  have a6 := Tx.addtwo (m ++ [32] ++ t ++ [32] ++ [72, 84, 84, 80, 47, 49, 46, 49] ++ [13, 10]) f (by simp only [List.length_append, List.length_cons, List.length_nil]; omega)
  have a7 := Tx.addtwo (m ++ [32] ++ t ++ [32] ++ [72, 84, 84, 80, 47, 49, 46, 49] ++ [13, 10] ++ f) [13, 10] (by simp only [List.length_append, List.length_cons, List.length_nil]; omega)
  generalize m ++ [32] = t1 at HE a1 a2 a3 a4 a5 a6 a7
  generalize t1 ++ t = t2 at HE a2 a3 a4 a5 a6 a7
  generalize t2 ++ [32] = t3 at HE a3 a4 a5 a6 a7
  generalize t3 ++ [72, 84, 84, 80, 47, 49, 46, 49] = t4 at HE a4 a5 a6 a7
  generalize t4 ++ [13, 10] = t5 at HE a5 a6 a7
  generalize t5 ++ f = t6 at HE a6 a7
  generalize t6 ++ [13, 10] = t7 at HE a7
  have HSA := Lib.hid HS0
  have HSB := Lib.hid HS1
  have HH0 : Hid (w0.cell? ⟨w.heap.size, 1, none⟩ = some (.string ⟨h.toArray⟩)) := Lib.hid HS0.1.2.1
  have HZ := Lib.hid hz
  have HOWN := Lib.hid hown
  have HM2 := Lib.hid hm2
  have HBS := Lib.hid hbase
  have HLL := Lib.hid hll
  have HB1 := Lib.hid HS1.2
  obtain ⟨⟨b0, b1, b2, b3⟩, _⟩ := HS1
  have HW0 := Lib.hid hw0
  have HSD : Hid ((w0.alloc (.cells #[.string ⟨hostName.toArray⟩, .string ⟨h.toArray⟩] 59)).drew.cell? ⟨w.heap.size, 0, none⟩ = some (.string ⟨m.toArray⟩) ∧ (w0.alloc (.cells #[.string ⟨hostName.toArray⟩, .string ⟨h.toArray⟩] 59)).drew.cell? ⟨w.heap.size, 2, none⟩ = some (.string ⟨t.toArray⟩) ∧ (w0.alloc (.cells #[.string ⟨hostName.toArray⟩, .string ⟨h.toArray⟩] 59)).drew.cell? ⟨w.heap.size, 3, none⟩ = some v ∧ Hid (Below w.heap.size w (w0.alloc (.cells #[.string ⟨hostName.toArray⟩, .string ⟨h.toArray⟩] 59)).drew)) := Lib.hid ⟨b0, b2, b3, HB1⟩
  have SK : Hid (∀ u u' : World, u.cell? ⟨w.heap.size, 0, none⟩ = some (.string ⟨m.toArray⟩) → u.cell? ⟨w.heap.size, 2, none⟩ = some (.string ⟨t.toArray⟩) → u.cell? ⟨w.heap.size, 3, none⟩ = some v → Hid (Below w.heap.size w u) → u.grownBy u' (some w0.heap.size) → (u'.cell? ⟨w.heap.size, 0, none⟩ = some (.string ⟨m.toArray⟩) ∧ u'.cell? ⟨w.heap.size, 2, none⟩ = some (.string ⟨t.toArray⟩) ∧ u'.cell? ⟨w.heap.size, 3, none⟩ = some v ∧ Hid (Below w.heap.size w u'))) := Lib.hid (fun u u' c0 c2 c3 hb hg => by
    have hne : ∀ o, (some (⟨w.heap.size, o, none⟩ : Addr).block) ≠ some w0.heap.size := fun o e => by have := Option.some.inj e; rw [HZ.out] at this; simp at this
    exact ⟨hg.cell c0 (hne _), hg.cell c2 (hne _), hg.cell c3 (hne _), Lib.hid (hb.out.grown hg hb.out.size (fun k e => by cases e; rw [HZ.out]; omega))⟩)
  have SC : Hid (∀ u u' : World, u.cell? ⟨w.heap.size, 0, none⟩ = some (.string ⟨m.toArray⟩) → u.cell? ⟨w.heap.size, 2, none⟩ = some (.string ⟨t.toArray⟩) → u.cell? ⟨w.heap.size, 3, none⟩ = some v → Hid (Below w.heap.size w u) → Below u.heap.size u u' → (u'.cell? ⟨w.heap.size, 0, none⟩ = some (.string ⟨m.toArray⟩) ∧ u'.cell? ⟨w.heap.size, 2, none⟩ = some (.string ⟨t.toArray⟩) ∧ u'.cell? ⟨w.heap.size, 3, none⟩ = some v ∧ Hid (Below w.heap.size w u'))) := Lib.hid (fun u u' c0 c2 c3 hb hg => ⟨(hg.cell (p := ⟨w.heap.size, 0, none⟩) (Rec.lt_of_cell c0)).trans c0, (hg.cell (p := ⟨w.heap.size, 2, none⟩) (Rec.lt_of_cell c2)).trans c2, (hg.cell (p := ⟨w.heap.size, 3, none⟩) (Rec.lt_of_cell c3)).trans c3, Lib.hid (Base.then_below hb.out hg)⟩)
  clear hh hl hm hhl ht lf hll HS0 hz hown hm2 hbase hA b0 b1 b2 b3
  subst hw0
  simp only [World.size_alloc] at HSA HSB HH0 HZ HOWN HM2 HBS HB1 HSD SK SC HFM HOW
  go_enter Tryd.func31, Tryd.ntmps31
  go_wp2
  go_region_held_law (fun u => u.cell? ⟨w.heap.size, 0, none⟩ = some (.string ⟨m.toArray⟩) ∧ u.cell? ⟨w.heap.size, 2, none⟩ = some (.string ⟨t.toArray⟩) ∧ u.cell? ⟨w.heap.size, 3, none⟩ = some v ∧ Hid (Below w.heap.size w u))
    (first | exact HSD.out | go_keep | (go_split_ands; refine SK.out _ _ ?_ ?_ ?_ ?_ hgrow <;> assumption) | (go_split_ands; refine SC.out _ _ ?_ ?_ ?_ ?_ hb4 <;> assumption))
    (first | (go_at_call 45; refine (HFM.out _ _ (HOW.out _ _ hown1)).mono ?_; rintro e w4 ⟨rfl, hb4⟩) | (refine Rec.step_holds fcs1_len fcs1_one (by rfl) (.tmp 17) (.tmp 19) 27 59 (by rfl) Tryd.underlying27 hi hz0 hz1 hz2 (by rfl) (by decide) (by rfl) (by rfl) HOWN.out HM2.out (by have := HLL.out; unfold maxLen; simp; omega) (by have := HLL.out; simp; omega) HBS.out ?_; intro v1 w3 hown1 hgrow))
  all_goals (
    go_split_ands
    have HKB := Lib.hid (Hid.out ‹Hid (Below w.heap.size w w4)›)
    clear hown1 hgrow hb4
    go_wp2
    go_ret
    exact ⟨ret_txt HE.out.symm, HKB.out⟩)

set_option maxRecDepth 100000 in
set_option maxHeartbeats 2000000 in
theorem impl_fmtq (m h t : List UInt8) (v : Value) (B : Nat) (l : List Flds.Fld) (w : World) (hh : Flds.Holds w B v l) (hB : B ≤ w.heap.size) (hl : Flds.total l ≤ 1048576) (hm : m.length ≤ 1048576) (hhl : h.length ≤ 1048576) (ht : t.length ≤ 1048576) :
    Calls Tryd.prog 18 #[.agg #[.string ⟨m.toArray⟩, .string ⟨h.toArray⟩, .string ⟨t.toArray⟩, v]] w (TxtEnd (fmtReq m h t l) w) := by
  have HS0 := Lib.hid (bxq_start w m h t v 29)
  have HY := Lib.hid hh
  have HI := Lib.hid (impl_valid_req m h t v B l _ (Flds.holds_below hh (HS0.out.2.mono hB)) (Nat.le_trans hB HS0.out.2.size) hl hm hhl ht)
  unfold TxtEnd
  cases hok : reqOk m h t l with
  | false =>
    have HE : Hid (fmtReq m h t l = []) := Lib.hid (by unfold fmtReq; rw [hok]; rfl)
    rw [hok] at HI
    clear hok hh hl hm hhl ht
    go_enter Tryd.func18, Tryd.ntmps18
    go_wp2_with (fail)
    go_at_call 27
    refine HI.out.mono ?_
    rintro e w1 ⟨rfl, hb1⟩
    have HB := Lib.hid (bxq_call HS0.out hb1).2
    clear hb1
    go_wp2
    go_ret
    exact ⟨ret_txt HE.out.symm, HB.out⟩
  | true =>
    have HE : Hid (fmtReq m h t l = reqTxt2 m h t l) := Lib.hid (by unfold fmtReq; rw [hok, ← reqTxt_eq]; rfl)
    rw [hok] at HI
    have hsm : Flds.total l ≤ 5784 ∧ h.length ≤ 40 := by
      unfold reqOk hostOk at hok
      simp only [Bool.and_eq_true, decide_eq_true_eq] at hok
      exact ⟨small_of hok.2.1, hok.1.1.2.2.2⟩
    have HTX := Lib.hid (fun W (hW : Flds.Holds W B v l) (hBW : B ≤ W.heap.size) => impl_text_req m h t v B l W hW hBW hsm.1 hm (by omega) ht)
    unfold TxtEnd at HTX
    generalize reqTxt2 m h t l = z at HE HTX
    clear hok hh hl hm hhl ht hsm
    go_enter Tryd.func18, Tryd.ntmps18
    go_wp2_with (fail)
    go_at_call 27
    refine HI.out.mono ?_
    rintro e w1 ⟨rfl, hb1⟩
    have HS1 := bxq_call HS0.out hb1
    have HB := Lib.hid HS1.2
    obtain ⟨⟨b0, b1, b2, b3⟩, _⟩ := HS1
    clear hb1
    go_wp2_with (fail)
    go_at_call 31
    refine (HTX.out _ (Flds.holds_below HY.out (HB.out.mono hB)) (Nat.le_trans hB HB.out.size)).mono ?_
    rintro e w2 ⟨rfl, hb2⟩
    have HB := Lib.hid (Base.then_below HB.out hb2)
    clear hb2 b0 b1 b2 b3
    go_wp2
    go_ret
    exact ⟨ret_txt HE.out.symm, HB.out⟩
end Go.Proofs.YtikpolmnadmkoaaDoor.Msg
