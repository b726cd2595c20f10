/-
  CONTRACT of the model's SelectingOf; nothing that was there before is changed.
-/
import Derived.Test.YtcpagkbfcfeocaaDoorSel
import Derived.Test.YtcpagkbfcfeocaaDoorFlds
import Derived.Deep.RegionHeldLaw
import Derived.Deep.AppendLies
namespace Go.Proofs.YtcpagkbfcfeocaaDoor.Sel
open Go Go.RowKit
set_option linter.unusedVariables false

/-- The selecting fields of the request's fields l for the names ns. -/
def sof (l : List Flds.Fld) (ns : List (List UInt8)) : List Flds.Fld := ns.map (fun n => (n, selv n l))
theorem sof_len (l : List Flds.Fld) (ns : List (List UInt8)) : (sof l ns).length = ns.length := by unfold sof; simp
theorem sof_more {l : List Flds.Fld} {ns : List (List UInt8)} {k : Nat} (h : k < ns.length) : sof l (ns.take (k + 1)) = sof l (ns.take k) ++ [(ns.getD k [], selv (ns.getD k []) l)] := by
  unfold sof; rw [List.take_succ_eq_append_getElem h, List.map_append]; simp [List.getD, h]
def SofEnd (m : List Flds.Fld) (w : World) (e : Ending) (w' : World) : Prop := ∃ z, e = .returned z ∧ Flds.Own w' w.heap.size z m ∧ Below w.heap.size w w'
theorem str_shape {w : World} {B : Nat} {v : Value} {ns : List (List UInt8)} (h : Strs.Holds w B v ns) : ∃ a cap, v = .slice a ns.length cap ∧ (0 < ns.length → ∃ b off, a = some ⟨b, off, none⟩ ∧ b < B ∧ Strs.At w b off ns) := by
  rcases h with ⟨rfl, a, cap, rfl⟩ | ⟨h0, b, off, cap, rfl, hb, _, hc⟩
  · exact ⟨a, cap, rfl, fun h => by simp at h⟩
  · exact ⟨_, cap, rfl, fun _ => ⟨b, off, rfl, hb, hc⟩⟩

set_option maxHeartbeats 4000000 in
set_option maxRecDepth 100000 in
theorem spec_sof (m ho t : List UInt8) (v : Value) (B : Nat) (l : List Flds.Fld) (v2 : Value) (B2 : Nat) (ns : List (List UInt8)) (w : World) (h : Flds.Holds w B v l) (hB : B ≤ w.heap.size) (hl : Flds.total l ≤ 1048576)
    (h2 : Strs.Holds w B2 v2 ns) (hB2 : B2 ≤ w.heap.size) (hn : ns.length ≤ 1048576) :
    Calls Tryd.prog 18 #[.agg #[.string ⟨m.toArray⟩, .string ⟨ho.toArray⟩, .string ⟨t.toArray⟩, v], v2] w (SofEnd (sof l ns) w) := by
  obtain ⟨i0, hi, hz0, hz1, hz2⟩ := info_parts Flds.info_fld
  obtain ⟨a, cap, rfl, hat0⟩ := str_shape h2
  have HAT := Lib.hid hat0
  have HBA : Hid (Below w.heap.size w (w.alloc (.cells #[.string ⟨m.toArray⟩, .string ⟨ho.toArray⟩, .string ⟨t.toArray⟩, v] 39))) := Lib.hid ((Below.refl _ _).alloc (Nat.le_refl _) _)
  have hbb : Below (w.alloc (.cells #[.string ⟨m.toArray⟩, .string ⟨ho.toArray⟩, .string ⟨t.toArray⟩, v] 39)).heap.size (w.alloc (.cells #[.string ⟨m.toArray⟩, .string ⟨ho.toArray⟩, .string ⟨t.toArray⟩, v] 39)) ((w.alloc (.cells #[.string ⟨m.toArray⟩, .string ⟨ho.toArray⟩, .string ⟨t.toArray⟩, v] 39)).alloc (.cells #[] 55)) := (Below.refl _ _).alloc (Nat.le_refl _) _
  have HO1 : Hid (Flds.Own ((w.alloc (.cells #[.string ⟨m.toArray⟩, .string ⟨ho.toArray⟩, .string ⟨t.toArray⟩, v] 39)).alloc (.cells #[] 55)) (w.heap.size + 1) (.slice (some ⟨w.heap.size + 1, 0, none⟩) 0 0) []) := Lib.hid (by have h9 := Flds.own_lit_nil (w.alloc (.cells #[.string ⟨m.toArray⟩, .string ⟨ho.toArray⟩, .string ⟨t.toArray⟩, v] 39)); rw [World.size_alloc] at h9; exact h9)
  have HX2 : Hid (((w.alloc (.cells #[.string ⟨m.toArray⟩, .string ⟨ho.toArray⟩, .string ⟨t.toArray⟩, v] 39)).alloc (.cells #[] 55)).cell? ⟨w.heap.size, 3, none⟩ = some v) := Lib.hid ((hbb.cell (p := ⟨w.heap.size, 3, none⟩) (by simp)).trans (by rw [World.cell?_alloc_new]; rfl))
  have HB2 := Lib.hid (HBA.out.trans (hbb.mono (by simp)))
  have HG := Lib.hid (fun n W (hb : Below w.heap.size w W) => Flds.spec_lget v B l n W (Flds.holds_below h (hb.mono hB)) (by omega))
  have HSP := Lib.hid (fun n W => Tx.spec_split ⟨(Flds.got n l).toArray⟩ W (big n hl).1)
  have HJ := Lib.hid (fun n u B W (h : Strs.Holds W B u (Tx.split (Flds.got n l))) => Tx.spec_join u B _ W h (big n hl).2)
  have HSM := Lib.hid (fun k (h : k < ns.length) => sof_more (l := l) h)
  have HALL : Hid (sof l (ns.take ns.length) = sof l ns) := Lib.hid (by rw [List.take_length])
  have HLN := Lib.hid (fun k => sof_len l (ns.take k))
  unfold Flds.GotEnd at HG
  unfold Tx.SplitEnd at HSP
  unfold Tx.JoinEnd at HJ
  have he : ∀ n, (⟨(Flds.got n l).toArray⟩ : ByteArray).data.toList = Flds.got n l := fun n => by simp
  simp only [he] at HSP
  clear h h2 he hl hbb HBA hat0
  unfold SofEnd
  go_enter Tryd.func18, Tryd.ntmps18
  go_wp2
  go_loopw [5, 6] (fun u i wr => ∃ (k : Nat) (r : List Flds.Fld), k ≤ ns.length ∧ i = .int .i64 k ∧ Hid (r = sof l (ns.take k)) ∧ wr.ownsRow (w.heap.size + 1) 55 2 u r.length (Flds.fcs r) ∧ Hid (wr.cell? ⟨w.heap.size, 3, none⟩ = some v) ∧ Hid (Below w.heap.size w wr)) (fun _ i _ => ns.length - (intOf i).toNat)
  case atStart => exact ⟨0, [], Nat.zero_le _, rfl, Lib.hid (by simp [sof]), HO1.out, HX2, HB2⟩
  case round =>
    clear HO1 HX2 HB2
    obtain ⟨k, r, hk, rfl, HR, hown, HQ, HB⟩ := hrel
    have HO : Hid (Flds.Own wr (w.heap.size + 1) u5 r) := Lib.hid hown
    have hrl : r.length = k := by rw [HR.out, HLN.out, List.length_take]; omega
    clear hown
    by_cases hlt : k < ns.length
    · obtain ⟨b, off, rfl, hbB, hc⟩ := HAT.out (by omega)
      have HBW : Hid (b < w.heap.size) := Lib.hid (Nat.lt_of_lt_of_le hbB hB2)
      have c0 := Strs.at_below hc HB.out HBW.out k hlt
      have HM := Lib.hid (HSM.out k hlt)
      rw [← HR.out] at HM
      unfold Strs.sv at c0
      generalize ns.getD k [] = x at c0 HM
      have HGx := Lib.hid (HG.out x)
      have HSPx := Lib.hid (HSP.out x)
      have HJx := Lib.hid (HJ.out x)
      have hsv : Tx.join (Tx.split (Flds.got x l)) = selv x l := rfl
      rw [hsv] at HJx
      clear HG HSP HJ hsv HSM HALL HLN hc HAT HR
      generalize selv x l = s at HJx HM
      generalize Flds.got x l = g at HGx HSPx HJx
      generalize Tx.split g = xs at HSPx HJx
      have q0 := HQ.out
      have HGB : Hid (∀ g, u5.ownBlock = some g → w.heap.size + 1 ≤ g) := Lib.hid (fun g hg => (HO.out.lt g hg).1)
      have HSD : Hid (wr.drew.cell? ⟨w.heap.size, 3, none⟩ = some v ∧ wr.drew.cell? ⟨b, off + k, none⟩ = some (.string ⟨x.toArray⟩) ∧ Hid (Below w.heap.size w wr.drew)) := Lib.hid ⟨q0, c0, Lib.hid (Rec.below_drew HB.out)⟩
      have HBD := Lib.hid (Rec.below_drew HB.out)
      have HOD : Hid (Flds.Own wr.drew (w.heap.size + 1) u5 r) := Lib.hid HO.out
      have SC : Hid (∀ u u' : World, u.cell? ⟨w.heap.size, 3, none⟩ = some v → u.cell? ⟨b, off + k, none⟩ = some (.string ⟨x.toArray⟩) → Hid (Below w.heap.size w u) → Below u.heap.size u u' → (u'.cell? ⟨w.heap.size, 3, none⟩ = some v ∧ u'.cell? ⟨b, off + k, none⟩ = some (.string ⟨x.toArray⟩) ∧ Hid (Below w.heap.size w u'))) := Lib.hid (fun u u' a0 a1 hb hg => ⟨(hg.cell (p := ⟨w.heap.size, 3, none⟩) (Rec.lt_of_cell a0)).trans a0, (hg.cell (p := ⟨b, off + k, none⟩) (Rec.lt_of_cell a1)).trans a1, Lib.hid (Base.then_below hb.out hg)⟩)
      have SA : Hid (∀ (u : World) (o : Obj), u.cell? ⟨w.heap.size, 3, none⟩ = some v → u.cell? ⟨b, off + k, none⟩ = some (.string ⟨x.toArray⟩) → Hid (Below w.heap.size w u) → ((u.alloc o).cell? ⟨w.heap.size, 3, none⟩ = some v ∧ (u.alloc o).cell? ⟨b, off + k, none⟩ = some (.string ⟨x.toArray⟩) ∧ Hid (Below w.heap.size w (u.alloc o)))) := Lib.hid (fun u o a0 a1 hb => SC.out u (u.alloc o) a0 a1 hb ((Below.refl _ _).alloc (Nat.le_refl _) _))
      have SK : Hid (∀ u u' : World, u.cell? ⟨w.heap.size, 3, none⟩ = some v → u.cell? ⟨b, off + k, none⟩ = some (.string ⟨x.toArray⟩) → Hid (Below w.heap.size w u) → u.grownBy u' u5.ownBlock → (u'.cell? ⟨w.heap.size, 3, none⟩ = some v ∧ u'.cell? ⟨b, off + k, none⟩ = some (.string ⟨x.toArray⟩) ∧ Hid (Below w.heap.size w u'))) := Lib.hid (fun u u' a0 a1 hb hg => ⟨hg.cell a0 (fun e => Nat.not_succ_le_self _ (HGB.out _ e.symm)), hg.cell a1 (fun e => by have h9 : w.heap.size + 1 ≤ b := HGB.out _ e.symm; have := HBW.out; omega), Lib.hid (hb.out.grown hg hb.out.size (fun k e => by have := HGB.out k e; omega))⟩)
      have hki : (k : Int) < (ns.length : Int) := by omega
      have hki0 : (0 : Int) ≤ (k : Int) := by omega
      have hL := Flds.fcs_len r
      have hwz : w.heap.size < wr.heap.size := Rec.lt_of_cell q0
      have hdz : wr.drew.heap.size = wr.heap.size := rfl
      clear c0 q0 HO
      go_wp2_with (fail)
      go_region_held_law (fun u => u.cell? ⟨w.heap.size, 3, none⟩ = some v ∧ u.cell? ⟨b, off + k, none⟩ = some (.string ⟨x.toArray⟩) ∧ Hid (Below w.heap.size w u))
        (first | exact HSD.out | (go_split_ands; refine SC.out _ _ ?_ ?_ ?_ hb1 <;> assumption) | (go_split_ands; refine SC.out _ _ ?_ ?_ ?_ hb2 <;> assumption) | (go_split_ands; refine SC.out _ _ ?_ ?_ ?_ hb3 <;> assumption) | (go_split_ands; refine SA.out _ _ ?_ ?_ ?_ <;> assumption) | (go_split_ands; refine SK.out _ _ ?_ ?_ ?_ hgrow <;> assumption) | go_keep)
        (first | (go_at_call 31; refine (HGx.out _ HBD.out).mono ?_; rintro e w1 ⟨rfl, hb1⟩; have HO1 := Lib.hid (Flds.own_below HOD.out hb1); have hz1' := hb1.size) | (go_at_call 30; refine (HSPx.out _).mono ?_; rintro e w2 ⟨u2, rfl, ho2, hb2⟩; have HO2 := Lib.hid (Flds.own_below HO1.out hb2); have hz2' := hb2.size) | (go_at_call 40; refine (HJx.out _ _ _ (Strs.own_holds ho2)).mono ?_; rintro e w3 ⟨rfl, hb3⟩; have HO3 := Lib.hid (Flds.own_below HO2.out hb3); have hz3 := hb3.size) | (refine step_append_lies _ (by rfl) (.tmp 14) (.tmp 29) 27 (by rfl) (w.heap.size + 1) 55 i0 (.agg #[.string ⟨#[]⟩, .string ⟨#[]⟩]) 2 32 Tryd.underlying27 hi hz0 hz1 hz2 (by rfl) (by decide) _ _ _ (by rfl) (HO3.out.alloc _) ⟨w3.heap.size, 0, none⟩ 1 1 [Flds.sv x, Flds.sv s] (by rfl) (by rfl) (Flds.news_two _ _ _ _) (Flds.two_one (x, s)) (by decide) (by unfold maxLen; omega) (by omega) (by first | omega | (simp; omega) | simp) _ rfl ?_; intro g gcap w4 hown1 hgrow hat hglt))
      all_goals (
        go_split_ands
        have HKB := Lib.hid (Hid.out ‹Hid (Below w.heap.size w w4)›)
        have HKQ : Hid (w4.cell? ⟨w.heap.size, 3, none⟩ = some v) := Lib.hid (by assumption)
        have HOW := Lib.hid hown1
        clear hown1 hgrow hat hglt
        go_wp2
        go_roundw
        case rel => exact ⟨k + 1, r ++ [(x, s)], by omega, by go_num, Lib.hid HM.out.symm, by have h9 := HOW.out; rw [List.length_append, Flds.fcs_more]; rw [hrl] at h9 ⊢; exact h9, HKQ, HKB⟩
        case measure => simp [intOf]; omega)
    · have HE : Hid (r = sof l ns) := Lib.hid (by rw [HR.out, show k = ns.length by omega, HALL.out])
      have hke : ¬ (k : Int) < (ns.length : Int) := by omega
      go_wp2
      go_ret
      exact ⟨_, rfl, by rw [← HE.out]; exact Flds.own_mono HO.out (Nat.le_succ _), HB.out⟩
end Go.Proofs.YtcpagkbfcfeocaaDoor.Sel
