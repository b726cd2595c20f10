/-
  CONTRACTS AND PLAIN FACTS, several texts in one; each says in its own words what it proves.
-/
import Derived.Test.YtindnhmigljkaaaGreatDoorPrO
import Derived.Test.YtindnhmigljkaaaGreatDoorPrP
import Derived.Test.YtindnhmigljkaaaGreatDoorPrM
import Derived.Test.YtindnhmigljkaaaGreatDoorPrR
import Derived.Test.YtindnhmigljkaaaGreatDoorPrD
import Derived.Test.YtindnhmigljkaaaGreatDoorPrA

/-
  CONTRACT of the model's NormalTarget; nothing that was there before is changed.
-/
namespace Go.Proofs.YtindnhmigljkaaaGreatDoor.Nt
open Go Go.RowKit
set_option linter.unusedVariables false
set_option maxRecDepth 1000000
set_option maxRecDepth 1000000

theorem pre_byte {l : List UInt8} (h : 0 < (⟨l.toArray⟩ : ByteArray).size) : [47].isPrefixOf l = true ↔ (⟨l.toArray⟩ : ByteArray)[0] = 47 := by
  cases l with
  | nil => exact absurd h (by decide)
  | cons x r =>
    show ((47 : UInt8) == x && true) = true ↔ x = 47
    simp only [Bool.and_true, beq_iff_eq]; exact eq_comm
theorem pre_size {l : List UInt8} (h : ¬ 0 < (⟨l.toArray⟩ : ByteArray).size) : [47].isPrefixOf l = false := by
  cases l with
  | nil => rfl
  | cons x r => rw [bs_len] at h; simp at h
set_option maxHeartbeats 8000000 in
theorem spec_nt (l : List UInt8) (w : World) (hl : l.length ≤ 4194200) :
    Calls Tryz.prog 21 #[.string ⟨l.toArray⟩] w (PairEnd (ntar l) w) := by
  have hc := cut_len 63 l
  have HC := Lib.hid (Tx.spec_tgt l w (by omega))
  have HN : Hid (ntar l = if (normp (Tx.cutAt 63 l).1).2 = true ∧ (normp (Tx.cutAt 63 l).2.1).2 = true ∧ [47].isPrefixOf (normp (Tx.cutAt 63 l).1).1 = true then
    (if query (normp (Tx.cutAt 63 l).2.1).1 = [] then pathd (normp (Tx.cutAt 63 l).1).1 else pathd (normp (Tx.cutAt 63 l).1).1 ++ [63] ++ query (normp (Tx.cutAt 63 l).2.1).1, true)
    else ([], false)) := Lib.hid rfl
  unfold Tx.CutEnd at HC
  unfold PairEnd
  generalize ntar l = res at *
  obtain ⟨r1, r2⟩ := res
  generalize Tx.cutAt 63 l = ct at *
  obtain ⟨p, q, b⟩ := ct
  simp only at *
  have HP := Lib.hid (fun W => spec_plain ⟨p.toArray⟩ W (by rw [bs_len]; omega))
  have HQ := Lib.hid (fun W => spec_plain ⟨q.toArray⟩ W (by rw [bs_len]; omega))
  have hpl := normp_len p
  have hql := normp_len q
  unfold PairEnd at HP HQ
  rw [show (⟨p.toArray⟩ : ByteArray).data.toList = p from rfl] at HP
  rw [show (⟨q.toArray⟩ : ByteArray).data.toList = q from rfl] at HQ
  generalize normp p = np at *
  generalize normp q = nq at *
  obtain ⟨p1, pb⟩ := np
  obtain ⟨q1, qb⟩ := nq
  simp only at *
  have HPD := Lib.hid (fun W (h : 1 ≤ (⟨p1.toArray⟩ : ByteArray).size) => spec_path ⟨p1.toArray⟩ W h (by rw [bs_len]; omega))
  have HSO := Lib.hid (fun W => spec_query ⟨q1.toArray⟩ W (by rw [bs_len]; omega))
  have HB1 := @pre_byte p1
  have HB0 := @pre_size p1
  unfold StrEnd at HPD HSO
  rw [show (⟨p1.toArray⟩ : ByteArray).data.toList = p1 from rfl] at HPD
  rw [show (⟨q1.toArray⟩ : ByteArray).data.toList = q1 from rfl] at HSO
  have hdl := pathd_len p1
  have hul := query_len q1
  have hps := bs_len p1
  generalize pathd p1 = t at *
  generalize query q1 = u at *
  generalize hpre : [47].isPrefixOf p1 = pre at *
  have HTL : Hid (t.length ≤ 4194300) := Lib.hid (by omega)
  have HUL : Hid (u.length ≤ 4194300) := Lib.hid (by omega)
  have hpz : (⟨p1.toArray⟩ : ByteArray).size ≤ 4194304 := by omega
  generalize (⟨p1.toArray⟩ : ByteArray) = P at *
  clear hpre hps hc hpl hql hdl hul hl
  cases pb
  case false =>
    have HE : Hid ((r1, r2) = ([], false)) := Lib.hid (by rw [HN.out]; exact if_neg (fun h => Bool.noConfusion h.1))
    clear HN HB1 HB0
    go_enter Tryz.func21, Tryz.ntmps21
    go_wp2_with (fail)
    go_at_call 32
    refine (HC.out).mono ?_
    rintro e w1 ⟨rfl, hb1⟩
    have HB1w := Lib.hid hb1
    clear hb1
    go_wp2_with (fail)
    go_at_call 33
    refine (HP.out _).mono ?_
    rintro e w2 ⟨rfl, hb2⟩
    have HB2w := Lib.hid (Base.then_below HB1w.out hb2)
    clear hb2
    go_wp2_with (fail)
    go_at_call 33
    refine (HQ.out _).mono ?_
    rintro e w3 ⟨rfl, hb3⟩
    have HB3w := Lib.hid (Base.then_below HB2w.out hb3)
    clear hb3
    go_wp2
    all_goals first | go_region | skip
    all_goals go_wp2
    go_ret2
    all_goals exact ⟨ret_qn HE.out.symm, by first | exact HB3w.out | exact HB3w.out.drew | exact Rec.below_drewN HB3w.out _⟩
  cases qb
  case false =>
    have HE : Hid ((r1, r2) = ([], false)) := Lib.hid (by rw [HN.out]; exact if_neg (fun h => Bool.noConfusion h.2.1))
    clear HN HB1 HB0
    go_enter Tryz.func21, Tryz.ntmps21
    go_wp2_with (fail)
    go_at_call 32
    refine (HC.out).mono ?_
    rintro e w1 ⟨rfl, hb1⟩
    have HB1w := Lib.hid hb1
    clear hb1
    go_wp2_with (fail)
    go_at_call 33
    refine (HP.out _).mono ?_
    rintro e w2 ⟨rfl, hb2⟩
    have HB2w := Lib.hid (Base.then_below HB1w.out hb2)
    clear hb2
    go_wp2_with (fail)
    go_at_call 33
    refine (HQ.out _).mono ?_
    rintro e w3 ⟨rfl, hb3⟩
    have HB3w := Lib.hid (Base.then_below HB2w.out hb3)
    clear hb3
    go_wp2
    all_goals first | go_region | skip
    all_goals go_wp2
    go_ret2
    all_goals exact ⟨ret_qn HE.out.symm, by first | exact HB3w.out | exact HB3w.out.drew | exact Rec.below_drewN HB3w.out _⟩
  by_cases h0 : 0 < P.size
  case neg =>
    have h00 : P.size = 0 := by omega
    have HE : Hid ((r1, r2) = ([], false)) := Lib.hid (by rw [HN.out, HB0 h0]; exact if_neg (fun h => Bool.noConfusion h.2.2))
    have hz : ((P.size : Int) == 0) = true := by rw [h00]; rfl
    clear HN HB1 HB0 h0
    go_enter Tryz.func21, Tryz.ntmps21
    go_wp2_with (fail)
    go_at_call 32
    refine (HC.out).mono ?_
    rintro e w1 ⟨rfl, hb1⟩
    have HB1w := Lib.hid hb1
    clear hb1
    go_wp2_with (fail)
    go_at_call 33
    refine (HP.out _).mono ?_
    rintro e w2 ⟨rfl, hb2⟩
    have HB2w := Lib.hid (Base.then_below HB1w.out hb2)
    clear hb2
    go_wp2_with (fail)
    go_at_call 33
    refine (HQ.out _).mono ?_
    rintro e w3 ⟨rfl, hb3⟩
    have HB3w := Lib.hid (Base.then_below HB2w.out hb3)
    clear hb3
    go_wp2
    all_goals first | go_region | skip
    all_goals go_wp2
    go_ret2
    all_goals exact ⟨ret_qn HE.out.symm, by first | exact HB3w.out | exact HB3w.out.drew | exact Rec.below_drewN HB3w.out _⟩
  have hz : ((P.size : Int) == 0) = false := beq_eq_false_iff_ne.2 (by omega)
  have hi0 : (0 : Int) < (P.size : Int) := by omega
  by_cases hx : P[0] = 47
  case neg =>
    have hx1 := byn' (n := 47) 47 rfl hx
    have hpf : pre = false := by cases pre with | false => rfl | true => exact absurd ((HB1 h0).1 rfl) hx
    have HE : Hid ((r1, r2) = ([], false)) := Lib.hid (by rw [HN.out, hpf]; exact if_neg (fun h => Bool.noConfusion h.2.2))
    clear HN HB1 HB0 hx hpf
    go_enter Tryz.func21, Tryz.ntmps21
    go_wp2_with (fail)
    go_at_call 32
    refine (HC.out).mono ?_
    rintro e w1 ⟨rfl, hb1⟩
    have HB1w := Lib.hid hb1
    clear hb1
    go_wp2_with (fail)
    go_at_call 33
    refine (HP.out _).mono ?_
    rintro e w2 ⟨rfl, hb2⟩
    have HB2w := Lib.hid (Base.then_below HB1w.out hb2)
    clear hb2
    go_wp2_with (fail)
    go_at_call 33
    refine (HQ.out _).mono ?_
    rintro e w3 ⟨rfl, hb3⟩
    have HB3w := Lib.hid (Base.then_below HB2w.out hb3)
    clear hb3
    go_wp2
    all_goals first | go_region | skip
    all_goals go_wp2
    go_ret2
    all_goals exact ⟨ret_qn HE.out.symm, by first | exact HB3w.out | exact HB3w.out.drew | exact Rec.below_drewN HB3w.out _⟩
  have hx1 := bye' (n := 47) 47 rfl hx
  have HE : Hid ((r1, r2) = (if u = [] then t else t ++ [63] ++ u, true)) := Lib.hid (by rw [HN.out]; exact if_pos ⟨rfl, rfl, (HB1 h0).2 hx⟩)
  have a1 := Tx.addtwo t [63] (by have := HTL.out; simp only [List.length_cons, List.length_nil]; omega)
  have a2 := Tx.addtwo (t ++ [63]) u (by have := HTL.out; have := HUL.out; simp only [List.length_append, List.length_cons, List.length_nil]; omega)
  have H1 : Hid (1 ≤ P.size) := Lib.hid h0
  clear HN HB1 HB0 hx
  by_cases hu : u = []
  · subst hu
    rw [if_pos rfl] at HE
    clear a1 a2
    go_enter Tryz.func21, Tryz.ntmps21
    go_wp2_with (fail)
    go_at_call 32
    refine (HC.out).mono ?_
    rintro e w1 ⟨rfl, hb1⟩
    have HB1w := Lib.hid hb1
    clear hb1
    go_wp2_with (fail)
    go_at_call 33
    refine (HP.out _).mono ?_
    rintro e w2 ⟨rfl, hb2⟩
    have HB2w := Lib.hid (Base.then_below HB1w.out hb2)
    clear hb2
    go_wp2_with (fail)
    go_at_call 33
    refine (HQ.out _).mono ?_
    rintro e w3 ⟨rfl, hb3⟩
    have HB3w := Lib.hid (Base.then_below HB2w.out hb3)
    clear hb3
    go_wp2_with (fail)
    go_at_call 34
    refine (HPD.out _ H1.out).mono ?_
    rintro e w4 ⟨rfl, hb4⟩
    have HB4w := Lib.hid (Base.then_below HB3w.out hb4)
    clear hb4
    go_wp2_with (fail)
    go_at_call 35
    refine (HSO.out _).mono ?_
    rintro e w5 ⟨rfl, hb5⟩
    have HB5w := Lib.hid (Base.then_below HB4w.out hb5)
    clear hb5
    go_wp2
    all_goals first | go_region | skip
    all_goals go_wp2
    go_ret2
    all_goals exact ⟨ret_qn HE.out.symm, by first | exact HB5w.out | exact HB5w.out.drew | exact Rec.below_drewN HB5w.out _⟩
  · rw [if_neg hu] at HE
    have hu1 : (u == []) = false := by simpa using hu
    have hu2 : u.isEmpty = false := by
      cases u with
      | nil => exact absurd rfl hu
      | cons x r => rfl
    clear hu
    generalize t ++ [63] = t1 at *
    generalize t1 ++ u = t2 at *
    go_enter Tryz.func21, Tryz.ntmps21
    go_wp2_with (fail)
    go_at_call 32
    refine (HC.out).mono ?_
    rintro e w1 ⟨rfl, hb1⟩
    have HB1w := Lib.hid hb1
    clear hb1
    go_wp2_with (fail)
    go_at_call 33
    refine (HP.out _).mono ?_
    rintro e w2 ⟨rfl, hb2⟩
    have HB2w := Lib.hid (Base.then_below HB1w.out hb2)
    clear hb2
    go_wp2_with (fail)
    go_at_call 33
    refine (HQ.out _).mono ?_
    rintro e w3 ⟨rfl, hb3⟩
    have HB3w := Lib.hid (Base.then_below HB2w.out hb3)
    clear hb3
    go_wp2_with (fail)
    go_at_call 34
    refine (HPD.out _ H1.out).mono ?_
    rintro e w4 ⟨rfl, hb4⟩
    have HB4w := Lib.hid (Base.then_below HB3w.out hb4)
    clear hb4
    go_wp2_with (fail)
    go_at_call 35
    refine (HSO.out _).mono ?_
    rintro e w5 ⟨rfl, hb5⟩
    have HB5w := Lib.hid (Base.then_below HB4w.out hb5)
    clear hb5
    go_wp2
    all_goals first | go_region | skip
    all_goals go_wp2
    go_ret2
    all_goals exact ⟨ret_qn HE.out.symm, by first | exact HB5w.out | exact HB5w.out.drew | exact Rec.below_drewN HB5w.out _⟩
end Go.Proofs.YtindnhmigljkaaaGreatDoor.Nt

/-
  PLAIN FACTS: a block of cells that the call has laid, read behind what only adds, behind a write into it, and behind a write elsewhere.
-/
namespace Go.Proofs.YtindnhmigljkaaaGreatDoor.Kept
open Go Go.RowKit
set_option linter.unusedVariables false
set_option maxRecDepth 1000000

/-- The block g holds these values, and may be written. -/
structure Box (W : World) (g : Nat) (xs : List Value) : Prop where
  cell : ∀ j u, xs[j]? = some u → W.cell? ⟨g, j, none⟩ = some u
  frz : ∀ j, W.frozen? ⟨g, j, none⟩ = false
  lt : g < W.heap.size
theorem Box.new {w : World} {T : TypeId} {a : Array Value} : Box (w.alloc (.cells a T)) w.heap.size a.toList :=
  ⟨fun j u h => by rw [World.cell?_alloc_new]; simpa using h, fun j => by simp [go_sem], by simp⟩
theorem Box.below {W W' : World} {g : Nat} {xs : List Value} (h : Box W g xs) (hb : Below W.heap.size W W') : Box W' g xs :=
  ⟨fun j u e => (hb.cell (p := ⟨g, j, none⟩) h.lt).trans (h.cell j u e), fun j => (hb.frozen (p := ⟨g, j, none⟩) h.lt).trans (h.frz j), Nat.lt_of_lt_of_le h.lt hb.size⟩
theorem Box.alloc {W : World} {g : Nat} {xs : List Value} (h : Box W g xs) (o : Obj) : Box (W.alloc o) g xs := h.below ((Below.refl _ _).alloc (Nat.le_refl _) _)
theorem Box.same {W : World} {g k : Nat} {xs : List Value} (h : Box W g xs) (hk : k < xs.length) (v : Value) : Box (W.setCell ⟨g, k, none⟩ v) g (xs.set k v) :=
  ⟨fun j u e => by
    by_cases hj : j = k
    · subst hj
      obtain ⟨u0, hu0⟩ : ∃ u0, xs[j]? = some u0 := ⟨xs[j], by simp [hk]⟩
      rw [World.cell?_setCell_same _ _ _ (h.cell j u0 hu0)]
      simpa [hk] using e
    · rw [World.cell?_setCell_other _ _ _ _ (fun e => hj (by cases e; rfl))]
      exact h.cell j u (by rw [List.getElem?_set_ne (fun e => hj e.symm)] at e; exact e), fun j => by rw [World.frozen?_setCell]; exact h.frz j, by rw [World.size_setCell]; exact h.lt⟩
theorem Box.other {W : World} {g g' k : Nat} {xs : List Value} (h : Box W g xs) (hne : g' ≠ g) (v : Value) : Box (W.setCell ⟨g', k, none⟩ v) g xs :=
  ⟨fun j u e => by rw [World.cell?_setCell_other _ _ _ _ (fun e => hne (by cases e; rfl))]; exact h.cell j u e, fun j => by rw [World.frozen?_setCell]; exact h.frz j, by rw [World.size_setCell]; exact h.lt⟩
end Go.Proofs.YtindnhmigljkaaaGreatDoor.Kept
