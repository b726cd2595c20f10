/-
  CONTRACTS AND PLAIN FACTS, several texts in one; each says in its own words what it proves.
-/
import Derived.Test.YtojmkdggkaocdaaGreatDoorPvR
import Derived.Test.YtojmkdggkaocdaaGreatDoorPvQ
import Derived.Test.YtojmkdggkaocdaaGreatDoorPvS
import Derived.Test.YtojmkdggkaocdaaGreatDoorPvM

/-
  CONTRACT of the model's ParseQualities: the qualities of a text, in memory of their own; nothing that was there before is changed.
-/
namespace Go.Proofs.YtojmkdggkaocdaaGreatDoor.Qua
open Go Go.RowKit
set_option linter.unusedVariables false
set_option maxRecDepth 1000000
set_option maxRecDepth 1000000

theorem pair_s {x a b : List UInt8} {q : Bool} (hp : Tx.pairs x = (a, b, q)) (hl : x.length ≤ 1048576) (W : World) : Calls Tryz.prog 133 #[.string ⟨x.toArray⟩] W fun e w' => e = .returned (.tuple #[.string ⟨a.toArray⟩, .string ⟨b.toArray⟩, .bool q]) ∧ Below W.heap.size W w' := by
  have h := Tx.spec_pair ⟨x.toArray⟩ W (by simp [ByteArray.size]; omega)
  unfold Tx.PairEnd at h
  rw [show (⟨x.toArray⟩ : ByteArray).data.toList = x from rfl, hp] at h
  exact h
theorem tok_s (a : List UInt8) (hl : a.length ≤ 1048576) {q : Bool} (hq : Tx.token a = q) (W : World) : Calls Tryz.prog 103 #[.string ⟨a.toArray⟩] W fun e w' => e = .returned (.bool q) ∧ W = w' := by subst hq; exact Tx.spec_token ⟨a.toArray⟩ W (by simp [ByteArray.size]; omega)
theorem low_s (a : List UInt8) (hl : a.length ≤ 1048576) (W : World) : Calls Tryz.prog 131 #[.string ⟨a.toArray⟩] W fun e w' => e = .returned (.string ⟨(Tx.lower a).toArray⟩) ∧ Below W.heap.size W w' := Tx.spec_lower ⟨a.toArray⟩ W (by simp [ByteArray.size]; omega)
theorem low_len (a : List UInt8) : (Tx.lower a).length = a.length := by unfold Tx.lower; simp
theorem trim_s (a : List UInt8) (hl : a.length ≤ 1048576) (W : World) : Calls Tryz.prog 132 #[.string ⟨a.toArray⟩] W fun e w' => e = .returned (.string ⟨(Tx.trim a).toArray⟩) ∧ Below W.heap.size W w' := by
  refine (Tx.spec_trim ⟨a.toArray⟩ W (by simp [ByteArray.size]; omega)).mono ?_
  rintro e w' ⟨rfl, h⟩
  exact ⟨rfl, by first | exact h | (subst h; exact Below.refl _ _)⟩
theorem spl_s (x : List UInt8) (hl : x.length ≤ 1048576) (W : World) : Calls Tryz.prog 117 #[.string ⟨x.toArray⟩, .int .u8 59] W fun e w' => ∃ v, e = .returned v ∧ Strs.Own w' W.heap.size v (Spc.spl 59 x) ∧ Below W.heap.size W w' := Spc.spec_spl 59 ⟨x.toArray⟩ W (by simp [ByteArray.size]; omega)
theorem weight_s (b : List UInt8) (hl : b.length ≤ 1048576) (W : World) : Calls Tryz.prog 134 #[.string ⟨b.toArray⟩] W fun e w' => e = .returned (.int .i64 (wint b)) ∧ W = w' := spec_weight_s ⟨b.toArray⟩ W (by simp [ByteArray.size]; omega)


set_option maxHeartbeats 8000000 in
theorem spec_pqs (l : List UInt8) (w : World) (hl : l.length ≤ 1048576) :
    Calls Tryz.prog 97 #[.string ⟨l.toArray⟩] w (Parsed l w) := by
  obtain ⟨i0, hi, hz0, hz1, hz2⟩ := info_parts info_r
  have HS := Lib.hid (fun W => Tx.spec_split ⟨l.toArray⟩ W (Nat.le_trans hl (by decide)))
  have HEL := Lib.hid (Tx.split_elem l)
  have HCN := Lib.hid (Tx.split_count l)
  have HDP : Hid (pqs l = quals (Tx.split l)) := Lib.hid rfl
  go_enter Tryz.func97, Tryz.ntmps97
  go_wp2_with (fail)
  go_at_call 102
  refine (HS.out _).mono ?_
  rintro e w1 ⟨vx, rfl, ox, hb1⟩
  have HOX0 : Hid (w1.ownsRow w.heap.size 9 1 vx (Tx.split l).length (Strs.svs (Tx.split l))) := Lib.hid ox
  have HO0 := Lib.hid (own_lit_nil w1)
  have HB0 := Lib.hid hb1
  have HOX1 := Lib.hid (Rec.row_below HOX0.out ((Below.refl w1.heap.size w1).alloc (Nat.le_refl _) (.cells #[] 152)))
  have HB1 := Lib.hid (HB0.out.alloc HB0.out.size (.cells #[] 152))
  have HO1 : Hid (Own (w1.alloc (.cells #[] 152)) w.heap.size (.slice (some ⟨w1.heap.size, 0, none⟩) 0 0) []) := Lib.hid (own_mono HO0.out hb1.size)
  clear ox hb1 HS HOX0 HO0 HB0
  generalize Tx.split l = xs at *
  obtain ⟨ax, cx, rfl, hax⟩ := Rec.shape_at HOX1.out
  have HAX := Lib.hid hax
  have hxl : xs.length ≤ 1048577 := by have := HCN.out; omega
  clear hax
  go_wp2
  go_loopw [4, 5] (fun u i wr => ∃ k : Nat, k ≤ xs.length ∧ i = .int .i64 (k : Int) ∧ wr.ownsRow w.heap.size 152 2 u (quals (xs.take k)).length (fcs (quals (xs.take k))) ∧ wr.ownsRow w.heap.size 9 1 (.slice ax xs.length cx) xs.length (Strs.svs xs) ∧ Below w.heap.size w wr) (fun _ i _ => xs.length - (intOf i).toNat)
  case atStart => exact ⟨0, Nat.zero_le _, rfl, HO1.out, HOX1.out, HB1.out⟩
  case round =>
    clear HO1 HOX1 HB1
    obtain ⟨k, hk, rfl, hown, hox, hb⟩ := hrel
    have HB := Lib.hid hb
    have HOX := Lib.hid hox
    have HO := Lib.hid hown
    clear hown hox hb
    by_cases hlt : k < xs.length
    · obtain ⟨gx, rfl⟩ := HAX.out (by omega)
      have c0 := Strs.own_cell HOX.out hlt
      have HXL : Hid ((xs.getD k []).length ≤ 1048576) := Lib.hid (Nat.le_trans (HEL.out _ (Rec.getD_mem (z := []) hlt)) hl)
      have HDL : Hid ((quals (xs.take k)).length ≤ 1048577) := Lib.hid (by have h1 := quals_len (xs.take k); rw [List.length_take] at h1; omega)
      unfold Strs.sv at c0
      have HR : Hid (∀ d, qel (xs.getD k []) = some d → quals (xs.take (k + 1)) = quals (xs.take k) ++ [d]) := Lib.hid (fun d hd => quals_yes hlt hd)
      have HN : Hid (qel (xs.getD k []) = none → quals (xs.take (k + 1)) = quals (xs.take k)) := Lib.hid (fun hd => quals_no hlt hd)
      generalize xs.getD k [] = x at c0 HXL HR HN
      generalize quals (xs.take k) = ds at HO HDL HR HN
      have hL := fcs_len ds
      have HSP := Lib.hid (spl_s x HXL.out)
      have hmem : ∀ y ∈ Spc.spl 59 x, y.length ≤ 1048576 := fun y hy => Nat.le_trans (Spc.spl_mem 59 x y hy) HXL.out
      have hne : 0 < (Spc.spl 59 x).length := List.length_pos_iff.2 (Spc.spl_ne 59 x)
      obtain ⟨P, hP⟩ : ∃ P, Spc.spl 59 x = P := ⟨_, rfl⟩
      have HQ := Lib.hid (qel_eq hP)
      rw [hP] at HSP hmem hne
      generalize qel x = r at *
      have hl0 : (P.getD 0 []).length ≤ 1048576 := hmem _ (Rec.getD_mem (z := []) hne)
      have HT := Lib.hid (trim_s (P.getD 0 []) hl0)
      have hlt0 : (Tx.trim (P.getD 0 [])).length ≤ 1048576 := Nat.le_trans (Tx.trim_short _) hl0
      have HLW := Lib.hid (low_s (Tx.trim (P.getD 0 [])) hlt0)
      have HTK := Lib.hid (tok_s (Tx.lower (Tx.trim (P.getD 0 []))) (by rw [low_len]; exact hlt0) (Dir.token_low _))
      clear hP hlt0 hl0
      obtain ⟨p0, hp0⟩ : ∃ p0, P.getD 0 [] = p0 := ⟨_, rfl⟩
      rw [hp0] at HT HLW HTK HQ
      generalize Tx.trim p0 = nm at *
      generalize Tx.lower nm = lw at *
      generalize Tx.token nm = tk at *
      have hpi : 0 < (P.length : Int) := by omega
      by_cases h1 : 1 < (P.length : Int)
      case neg =>
        have h1n : ¬ P.length = 2 := by omega
        cases htk : tk with
        | false =>
          have HM := Lib.hid (HN.out (HQ.out.trans (if_neg (fun h => by rw [htk] at h; exact Bool.noConfusion h.1))))
          rw [htk] at HTK
          clear HR HN HQ htk h1n
          go_wp2_with (fail)
          go_at_call 117
          refine (HSP.out _).mono ?_
          rintro e w1 ⟨vp, rfl, op, b1⟩
          have HO := Lib.hid (row_below HO.out b1)
          have HOX := Lib.hid (Rec.row_below HOX.out b1)
          have HB := Lib.hid (Base.then_below HB.out b1)
          have HOP := Lib.hid op
          obtain ⟨ap, cp, rfl, hap⟩ := Rec.shape_at HOP.out
          obtain ⟨gp, rfl⟩ := hap hne
          have c0 := Strs.own_cell HOP.out hne
          rw [hp0] at c0
          unfold Strs.sv at c0
          clear b1 op
          go_wp2_with (fail)
          go_at_call 132
          refine (HT.out _).mono ?_
          rintro e w2 ⟨rfl, b2⟩
          have HO := Lib.hid (row_below HO.out b2)
          have HOX := Lib.hid (Rec.row_below HOX.out b2)
          have HB := Lib.hid (Base.then_below HB.out b2)
          have HOP := Lib.hid (Rec.row_below HOP.out b2)
          clear b2 c0
          go_wp2_with (fail)
          go_at_call 131
          refine (HLW.out _).mono ?_
          rintro e w3 ⟨rfl, b3⟩
          have HO3 := Lib.hid (row_below HO.out b3)
          have HOX3 := Lib.hid (Rec.row_below HOX.out b3)
          have HB3 := Lib.hid (Base.then_below HB.out b3)
          have HOP := Lib.hid (Rec.row_below HOP.out b3)
          clear b3 HO HOX HB
          have HBX : Hid (Kept.Box (w3.alloc (.cells #[.string ⟨lw.toArray⟩, .int .i64 1000] 152)) w3.heap.size [.string ⟨lw.toArray⟩, .int .i64 1000]) := Lib.hid Kept.Box.new
          have HBZ : Hid (Below w3.heap.size w3 (w3.alloc (.cells #[.string ⟨lw.toArray⟩, .int .i64 1000] 152))) := Lib.hid ((Below.refl _ _).alloc (Nat.le_refl _) _)
          go_wp2_with (fail)
          go_at_call 103
          refine (HTK.out _).mono ?_
          rintro e w9 ⟨rfl, rfl⟩
          have y0 := HBX.out.cell 0 _ rfl
          have y1 := HBX.out.cell 1 _ rfl
          go_wp2
          go_roundw
          case rel => exact ⟨k + 1, by omega, by go_num, by rw [HM.out]; exact row_below HO3.out HBZ.out, Rec.row_below HOX3.out HBZ.out, Base.then_below HB3.out HBZ.out⟩
          case measure => simp [intOf]; omega
        | true =>
          have HM := Lib.hid (HR.out (lw, 1000) (HQ.out.trans ((if_pos ⟨htk, by omega⟩).trans (if_neg h1n))))
          rw [htk] at HTK
          clear HR HN HQ htk h1n
          go_wp2_with (fail)
          go_at_call 117
          refine (HSP.out _).mono ?_
          rintro e w1 ⟨vp, rfl, op, b1⟩
          have HO := Lib.hid (row_below HO.out b1)
          have HOX := Lib.hid (Rec.row_below HOX.out b1)
          have HB := Lib.hid (Base.then_below HB.out b1)
          have HOP := Lib.hid op
          obtain ⟨ap, cp, rfl, hap⟩ := Rec.shape_at HOP.out
          obtain ⟨gp, rfl⟩ := hap hne
          have c0 := Strs.own_cell HOP.out hne
          rw [hp0] at c0
          unfold Strs.sv at c0
          clear b1 op
          go_wp2_with (fail)
          go_at_call 132
          refine (HT.out _).mono ?_
          rintro e w2 ⟨rfl, b2⟩
          have HO := Lib.hid (row_below HO.out b2)
          have HOX := Lib.hid (Rec.row_below HOX.out b2)
          have HB := Lib.hid (Base.then_below HB.out b2)
          have HOP := Lib.hid (Rec.row_below HOP.out b2)
          clear b2 c0
          go_wp2_with (fail)
          go_at_call 131
          refine (HLW.out _).mono ?_
          rintro e w3 ⟨rfl, b3⟩
          have HO3 := Lib.hid (row_below HO.out b3)
          have HOX3 := Lib.hid (Rec.row_below HOX.out b3)
          have HB3 := Lib.hid (Base.then_below HB.out b3)
          have HOP := Lib.hid (Rec.row_below HOP.out b3)
          clear b3 HO HOX HB
          have HBX : Hid (Kept.Box (w3.alloc (.cells #[.string ⟨lw.toArray⟩, .int .i64 1000] 152)) w3.heap.size [.string ⟨lw.toArray⟩, .int .i64 1000]) := Lib.hid Kept.Box.new
          have HBZ : Hid (Below w3.heap.size w3 (w3.alloc (.cells #[.string ⟨lw.toArray⟩, .int .i64 1000] 152))) := Lib.hid ((Below.refl _ _).alloc (Nat.le_refl _) _)
          go_wp2_with (fail)
          go_at_call 103
          refine (HTK.out _).mono ?_
          rintro e w9 ⟨rfl, rfl⟩
          have y0 := HBX.out.cell 0 _ rfl
          have y1 := HBX.out.cell 1 _ rfl
          have hown := row_below HO3.out HBZ.out
          have HOX := Lib.hid (Rec.row_below HOX3.out HBZ.out)
          have HB := Lib.hid (Base.then_below HB3.out HBZ.out)
          have HNE := Lib.hid (Rec.row_apart HOX.out hown (by decide))
          have HNW := Lib.hid (Rec.news (w3.alloc (.cells #[.string ⟨lw.toArray⟩, .int .i64 1000] 152)) [.string ⟨lw.toArray⟩, .int .i64 1000] 152)
          go_wp2_with (at_builtin; refine wpList_append_own _ rfl (.tmp 66) (.tmp 68) 126 rfl w.heap.size 152 i0 (.agg #[.string ⟨#[]⟩, .int .i64 0]) 2 24 Tryz.underlying126 hi hz0 hz1 hz2 rfl (by decide) _ _ _ rfl (hown.alloc _) ⟨w3.heap.size + 1, 0, none⟩ 1 1 [.string ⟨lw.toArray⟩, .int .i64 1000] rfl rfl (by have h := HNW.out; (try rw [World.size_alloc] at h); exact h) (cs_one (lw, 1000)) (by have := HDL.out; unfold maxLen; omega) (by have := HDL.out; omega) (by have := HB.out.size; simp at this ⊢; omega) ?_; intro v1 wa hown1 hg1 _)
          have R := Lib.hid (push_own (f := (lw, 1000)) hown HB.out (Nat.le_refl _) hown1 hg1)
          have ROX := Lib.hid (Rec.row_grown (Rec.row_below HOX.out ((Below.refl _ _).alloc (Nat.le_refl _) (.cells #[.string ⟨lw.toArray⟩, .int .i64 1000] 152))) hg1 HNE.out)
          clear hown hown1 hg1
          go_wp2
          go_roundw
          case rel => exact ⟨k + 1, by omega, by go_num, by rw [HM.out]; exact R.out.1, ROX.out, R.out.2⟩
          case measure => simp [intOf]; omega
      have hone : 1 < P.length := by omega
      have hl1 : (P.getD 1 []).length ≤ 1048576 := hmem _ (Rec.getD_mem (z := []) hone)
      obtain ⟨p1, hp1⟩ : ∃ p1, P.getD 1 [] = p1 := ⟨_, rfl⟩
      rw [hp1] at HQ hl1
      obtain ⟨a, b, q, hp⟩ : ∃ a b q, Tx.pairs p1 = (a, b, q) := ⟨_, _, _, rfl⟩
      have hab : a.length ≤ 1048576 ∧ b.length ≤ 1048576 := by
        have h1 := Tx.cutAt_len 61 p1
        have h2 := Tx.trim_short (Tx.cutAt 61 p1).1
        have h3 := Tx.trim_short (Tx.cutAt 61 p1).2.1
        unfold Tx.pairs at hp
        cases hp
        omega
      have hqb : q = false → b = [] := fun h => by have := pairs_no (s := p1) (by rw [hp]; exact h); rw [hp] at this; exact this
      have hqp : qpar p1 = if Tx.lower a = [113] then wgt b else none := by unfold qpar; rw [hp]
      rw [hqp] at HQ
      have HPR := Lib.hid (pair_s hp hl1)
      have HWG := Lib.hid (weight_s b hab.2)
      have HLA := Lib.hid (low_s a hab.1)
      have HWN := Lib.hid (fun h => wint_none (s := b) h)
      have HWS := Lib.hid (fun m (h : wgt b = some m) => wint_some h)
      have hwn : q = false → wgt b = none := fun h => by rw [hqb h]; rfl
      generalize Tx.lower a = la at *
      generalize wgt b = wb at *
      generalize wint b = n at *
      clear hp hqp hl1 hab hqb
      cases q with
      | false =>
        have HM := Lib.hid (HN.out (HQ.out.trans (by rw [hwn rfl]; rcases Decidable.em (tk = true ∧ P.length ≤ 2) with hc | hc; (rw [if_pos hc, if_pos (show P.length = 2 by have := hc.2; omega), ite_self]; rfl); exact if_neg hc)))
        clear HR HN HQ HWN HWS hwn HLA
        go_wp2_with (fail)
        go_at_call 117
        refine (HSP.out _).mono ?_
        rintro e w1 ⟨vp, rfl, op, b1⟩
        have HO := Lib.hid (row_below HO.out b1)
        have HOX := Lib.hid (Rec.row_below HOX.out b1)
        have HB := Lib.hid (Base.then_below HB.out b1)
        have HOP := Lib.hid op
        obtain ⟨ap, cp, rfl, hap⟩ := Rec.shape_at HOP.out
        obtain ⟨gp, rfl⟩ := hap hne
        have c0 := Strs.own_cell HOP.out hne
        rw [hp0] at c0
        unfold Strs.sv at c0
        clear b1 op
        go_wp2_with (fail)
        go_at_call 132
        refine (HT.out _).mono ?_
        rintro e w2 ⟨rfl, b2⟩
        have HO := Lib.hid (row_below HO.out b2)
        have HOX := Lib.hid (Rec.row_below HOX.out b2)
        have HB := Lib.hid (Base.then_below HB.out b2)
        have HOP := Lib.hid (Rec.row_below HOP.out b2)
        clear b2 c0
        go_wp2_with (fail)
        go_at_call 131
        refine (HLW.out _).mono ?_
        rintro e w3 ⟨rfl, b3⟩
        have HO3 := Lib.hid (row_below HO.out b3)
        have HOX3 := Lib.hid (Rec.row_below HOX.out b3)
        have HB3 := Lib.hid (Base.then_below HB.out b3)
        have HOP := Lib.hid (Rec.row_below HOP.out b3)
        clear b3 HO HOX HB
        have HBX : Hid (Kept.Box (w3.alloc (.cells #[.string ⟨lw.toArray⟩, .int .i64 1000] 152)) w3.heap.size [.string ⟨lw.toArray⟩, .int .i64 1000]) := Lib.hid Kept.Box.new
        have HBZ : Hid (Below w3.heap.size w3 (w3.alloc (.cells #[.string ⟨lw.toArray⟩, .int .i64 1000] 152))) := Lib.hid ((Below.refl _ _).alloc (Nat.le_refl _) _)
        have HOP := Lib.hid (Rec.row_below HOP.out HBZ.out)
        have c1 := Strs.own_cell HOP.out hone
        rw [hp1] at c1
        unfold Strs.sv at c1
        go_wp2_with (fail)
        go_at_call 133
        refine (HPR.out _).mono ?_
        rintro e w4 ⟨rfl, b4⟩
        have HBX := Lib.hid (HBX.out.below b4)
        have HBZ := Lib.hid (HBZ.out.trans (b4.mono HBZ.out.size))
        clear b4 c1 HOP
        have x0 := HBX.out.cell 0 _ rfl
        have x1 := HBX.out.cell 1 _ rfl
        have x2 := HBX.out.frz 1
        go_wp2_with (fail)
        go_at_call 134
        refine (HWG.out _).mono ?_
        rintro e w5 ⟨rfl, rfl⟩
        have HBX := Lib.hid (HBX.out.same (k := 1) (show 1 < 2 by decide) (.int .i64 n))
        have HBZ := Lib.hid (HBZ.out.setCell (p := ⟨w3.heap.size, 1, none⟩) (Nat.le_refl _) (.int .i64 n))
        simp only [List.set_cons_succ, List.set_cons_zero] at HBX
        have HBX := Lib.hid (HBX.out.same (k := 1) (show 1 < 2 by decide) (.int .i64 (-1)))
        have HBZ := Lib.hid (HBZ.out.setCell (p := ⟨w3.heap.size, 1, none⟩) (Nat.le_refl _) (.int .i64 (-1)))
        simp only [List.set_cons_succ, List.set_cons_zero] at HBX
        cases tk
        all_goals
          go_wp2_with (fail)
          go_at_call 103
          refine (HTK.out _).mono ?_
          rintro e w9 ⟨rfl, rfl⟩
          have y0 := HBX.out.cell 0 _ rfl
          have y1 := HBX.out.cell 1 _ rfl
          go_wp2
          go_roundw
          case rel => exact ⟨k + 1, by omega, by go_num, by rw [HM.out]; exact row_below HO3.out HBZ.out, Rec.row_below HOX3.out HBZ.out, Base.then_below HB3.out HBZ.out⟩
          case measure => simp [intOf]; omega
      | true =>
        by_cases hla : la = [113]
        case neg =>
          have HM := Lib.hid (HN.out (HQ.out.trans (by rw [if_neg hla]; rcases Decidable.em (tk = true ∧ P.length ≤ 2) with hc | hc; (rw [if_pos hc, if_pos (show P.length = 2 by have := hc.2; omega)]; rfl); exact if_neg hc)))
          have hq : (la == [113]) = false := beq_eq_false_iff_ne.2 hla
          have hq2 : (!la == [113]) = true := by rw [hq]; rfl
          clear HR HN HQ HWN HWS hwn
          go_wp2_with (fail)
          go_at_call 117
          refine (HSP.out _).mono ?_
          rintro e w1 ⟨vp, rfl, op, b1⟩
          have HO := Lib.hid (row_below HO.out b1)
          have HOX := Lib.hid (Rec.row_below HOX.out b1)
          have HB := Lib.hid (Base.then_below HB.out b1)
          have HOP := Lib.hid op
          obtain ⟨ap, cp, rfl, hap⟩ := Rec.shape_at HOP.out
          obtain ⟨gp, rfl⟩ := hap hne
          have c0 := Strs.own_cell HOP.out hne
          rw [hp0] at c0
          unfold Strs.sv at c0
          clear b1 op
          go_wp2_with (fail)
          go_at_call 132
          refine (HT.out _).mono ?_
          rintro e w2 ⟨rfl, b2⟩
          have HO := Lib.hid (row_below HO.out b2)
          have HOX := Lib.hid (Rec.row_below HOX.out b2)
          have HB := Lib.hid (Base.then_below HB.out b2)
          have HOP := Lib.hid (Rec.row_below HOP.out b2)
          clear b2 c0
          go_wp2_with (fail)
          go_at_call 131
          refine (HLW.out _).mono ?_
          rintro e w3 ⟨rfl, b3⟩
          have HO3 := Lib.hid (row_below HO.out b3)
          have HOX3 := Lib.hid (Rec.row_below HOX.out b3)
          have HB3 := Lib.hid (Base.then_below HB.out b3)
          have HOP := Lib.hid (Rec.row_below HOP.out b3)
          clear b3 HO HOX HB
          have HBX : Hid (Kept.Box (w3.alloc (.cells #[.string ⟨lw.toArray⟩, .int .i64 1000] 152)) w3.heap.size [.string ⟨lw.toArray⟩, .int .i64 1000]) := Lib.hid Kept.Box.new
          have HBZ : Hid (Below w3.heap.size w3 (w3.alloc (.cells #[.string ⟨lw.toArray⟩, .int .i64 1000] 152))) := Lib.hid ((Below.refl _ _).alloc (Nat.le_refl _) _)
          have HOP := Lib.hid (Rec.row_below HOP.out HBZ.out)
          have c1 := Strs.own_cell HOP.out hone
          rw [hp1] at c1
          unfold Strs.sv at c1
          go_wp2_with (fail)
          go_at_call 133
          refine (HPR.out _).mono ?_
          rintro e w4 ⟨rfl, b4⟩
          have HBX := Lib.hid (HBX.out.below b4)
          have HBZ := Lib.hid (HBZ.out.trans (b4.mono HBZ.out.size))
          clear b4 c1 HOP
          have x0 := HBX.out.cell 0 _ rfl
          have x1 := HBX.out.cell 1 _ rfl
          have x2 := HBX.out.frz 1
          go_wp2_with (fail)
          go_at_call 134
          refine (HWG.out _).mono ?_
          rintro e w5 ⟨rfl, rfl⟩
          have HBX := Lib.hid (HBX.out.same (k := 1) (show 1 < 2 by decide) (.int .i64 n))
          have HBZ := Lib.hid (HBZ.out.setCell (p := ⟨w3.heap.size, 1, none⟩) (Nat.le_refl _) (.int .i64 n))
          simp only [List.set_cons_succ, List.set_cons_zero] at HBX
          go_wp2_with (fail)
          go_at_call 131
          refine (HLA.out _).mono ?_
          rintro e w6 ⟨rfl, b6⟩
          have HBX := Lib.hid (HBX.out.below b6)
          have HBZ := Lib.hid (HBZ.out.trans (b6.mono HBZ.out.size))
          clear b6 x0 x1 x2
          have x0 := HBX.out.cell 0 _ rfl
          have x1 := HBX.out.cell 1 _ rfl
          have x2 := HBX.out.frz 1
          have HBX := Lib.hid (HBX.out.same (k := 1) (show 1 < 2 by decide) (.int .i64 (-1)))
          have HBZ := Lib.hid (HBZ.out.setCell (p := ⟨w3.heap.size, 1, none⟩) (Nat.le_refl _) (.int .i64 (-1)))
          simp only [List.set_cons_succ, List.set_cons_zero] at HBX
          cases tk
          all_goals
            go_wp2_with (fail)
            go_at_call 103
            refine (HTK.out _).mono ?_
            rintro e w9 ⟨rfl, rfl⟩
            have y0 := HBX.out.cell 0 _ rfl
            have y1 := HBX.out.cell 1 _ rfl
            go_wp2
            go_roundw
            case rel => exact ⟨k + 1, by omega, by go_num, by rw [HM.out]; exact row_below HO3.out HBZ.out, Rec.row_below HOX3.out HBZ.out, Base.then_below HB3.out HBZ.out⟩
            case measure => simp [intOf]; omega
        subst hla
        by_cases h2 : 2 < (P.length : Int)
        case pos =>
          have HM := Lib.hid (HN.out (HQ.out.trans (if_neg (fun h => by have := h.2; omega))))
          clear HR HN HQ HWN HWS hwn
          go_wp2_with (fail)
          go_at_call 117
          refine (HSP.out _).mono ?_
          rintro e w1 ⟨vp, rfl, op, b1⟩
          have HO := Lib.hid (row_below HO.out b1)
          have HOX := Lib.hid (Rec.row_below HOX.out b1)
          have HB := Lib.hid (Base.then_below HB.out b1)
          have HOP := Lib.hid op
          obtain ⟨ap, cp, rfl, hap⟩ := Rec.shape_at HOP.out
          obtain ⟨gp, rfl⟩ := hap hne
          have c0 := Strs.own_cell HOP.out hne
          rw [hp0] at c0
          unfold Strs.sv at c0
          clear b1 op
          go_wp2_with (fail)
          go_at_call 132
          refine (HT.out _).mono ?_
          rintro e w2 ⟨rfl, b2⟩
          have HO := Lib.hid (row_below HO.out b2)
          have HOX := Lib.hid (Rec.row_below HOX.out b2)
          have HB := Lib.hid (Base.then_below HB.out b2)
          have HOP := Lib.hid (Rec.row_below HOP.out b2)
          clear b2 c0
          go_wp2_with (fail)
          go_at_call 131
          refine (HLW.out _).mono ?_
          rintro e w3 ⟨rfl, b3⟩
          have HO3 := Lib.hid (row_below HO.out b3)
          have HOX3 := Lib.hid (Rec.row_below HOX.out b3)
          have HB3 := Lib.hid (Base.then_below HB.out b3)
          have HOP := Lib.hid (Rec.row_below HOP.out b3)
          clear b3 HO HOX HB
          have HBX : Hid (Kept.Box (w3.alloc (.cells #[.string ⟨lw.toArray⟩, .int .i64 1000] 152)) w3.heap.size [.string ⟨lw.toArray⟩, .int .i64 1000]) := Lib.hid Kept.Box.new
          have HBZ : Hid (Below w3.heap.size w3 (w3.alloc (.cells #[.string ⟨lw.toArray⟩, .int .i64 1000] 152))) := Lib.hid ((Below.refl _ _).alloc (Nat.le_refl _) _)
          have HOP := Lib.hid (Rec.row_below HOP.out HBZ.out)
          have c1 := Strs.own_cell HOP.out hone
          rw [hp1] at c1
          unfold Strs.sv at c1
          go_wp2_with (fail)
          go_at_call 133
          refine (HPR.out _).mono ?_
          rintro e w4 ⟨rfl, b4⟩
          have HBX := Lib.hid (HBX.out.below b4)
          have HBZ := Lib.hid (HBZ.out.trans (b4.mono HBZ.out.size))
          clear b4 c1 HOP
          have x0 := HBX.out.cell 0 _ rfl
          have x1 := HBX.out.cell 1 _ rfl
          have x2 := HBX.out.frz 1
          go_wp2_with (fail)
          go_at_call 134
          refine (HWG.out _).mono ?_
          rintro e w5 ⟨rfl, rfl⟩
          have HBX := Lib.hid (HBX.out.same (k := 1) (show 1 < 2 by decide) (.int .i64 n))
          have HBZ := Lib.hid (HBZ.out.setCell (p := ⟨w3.heap.size, 1, none⟩) (Nat.le_refl _) (.int .i64 n))
          simp only [List.set_cons_succ, List.set_cons_zero] at HBX
          go_wp2_with (fail)
          go_at_call 131
          refine (HLA.out _).mono ?_
          rintro e w6 ⟨rfl, b6⟩
          have HBX := Lib.hid (HBX.out.below b6)
          have HBZ := Lib.hid (HBZ.out.trans (b6.mono HBZ.out.size))
          clear b6 x0 x1 x2
          have x0 := HBX.out.cell 0 _ rfl
          have x1 := HBX.out.cell 1 _ rfl
          have x2 := HBX.out.frz 1
          have HBX := Lib.hid (HBX.out.same (k := 1) (show 1 < 2 by decide) (.int .i64 (-1)))
          have HBZ := Lib.hid (HBZ.out.setCell (p := ⟨w3.heap.size, 1, none⟩) (Nat.le_refl _) (.int .i64 (-1)))
          simp only [List.set_cons_succ, List.set_cons_zero] at HBX
          cases tk
          all_goals
            go_wp2_with (fail)
            go_at_call 103
            refine (HTK.out _).mono ?_
            rintro e w9 ⟨rfl, rfl⟩
            have y0 := HBX.out.cell 0 _ rfl
            have y1 := HBX.out.cell 1 _ rfl
            go_wp2
            go_roundw
            case rel => exact ⟨k + 1, by omega, by go_num, by rw [HM.out]; exact row_below HO3.out HBZ.out, Rec.row_below HOX3.out HBZ.out, Base.then_below HB3.out HBZ.out⟩
            case measure => simp [intOf]; omega
        have hP2 : P.length = 2 := by omega
        cases wb with
        | none =>
          have HM := Lib.hid (HN.out (HQ.out.trans (by rw [if_pos rfl]; rcases Decidable.em (tk = true ∧ P.length ≤ 2) with hc | hc; (rw [if_pos hc, if_pos hP2]; rfl); exact if_neg hc)))
          obtain rfl := HWN.out rfl
          clear HR HN HQ HWN HWS hwn hP2
          go_wp2_with (fail)
          go_at_call 117
          refine (HSP.out _).mono ?_
          rintro e w1 ⟨vp, rfl, op, b1⟩
          have HO := Lib.hid (row_below HO.out b1)
          have HOX := Lib.hid (Rec.row_below HOX.out b1)
          have HB := Lib.hid (Base.then_below HB.out b1)
          have HOP := Lib.hid op
          obtain ⟨ap, cp, rfl, hap⟩ := Rec.shape_at HOP.out
          obtain ⟨gp, rfl⟩ := hap hne
          have c0 := Strs.own_cell HOP.out hne
          rw [hp0] at c0
          unfold Strs.sv at c0
          clear b1 op
          go_wp2_with (fail)
          go_at_call 132
          refine (HT.out _).mono ?_
          rintro e w2 ⟨rfl, b2⟩
          have HO := Lib.hid (row_below HO.out b2)
          have HOX := Lib.hid (Rec.row_below HOX.out b2)
          have HB := Lib.hid (Base.then_below HB.out b2)
          have HOP := Lib.hid (Rec.row_below HOP.out b2)
          clear b2 c0
          go_wp2_with (fail)
          go_at_call 131
          refine (HLW.out _).mono ?_
          rintro e w3 ⟨rfl, b3⟩
          have HO3 := Lib.hid (row_below HO.out b3)
          have HOX3 := Lib.hid (Rec.row_below HOX.out b3)
          have HB3 := Lib.hid (Base.then_below HB.out b3)
          have HOP := Lib.hid (Rec.row_below HOP.out b3)
          clear b3 HO HOX HB
          have HBX : Hid (Kept.Box (w3.alloc (.cells #[.string ⟨lw.toArray⟩, .int .i64 1000] 152)) w3.heap.size [.string ⟨lw.toArray⟩, .int .i64 1000]) := Lib.hid Kept.Box.new
          have HBZ : Hid (Below w3.heap.size w3 (w3.alloc (.cells #[.string ⟨lw.toArray⟩, .int .i64 1000] 152))) := Lib.hid ((Below.refl _ _).alloc (Nat.le_refl _) _)
          have HOP := Lib.hid (Rec.row_below HOP.out HBZ.out)
          have c1 := Strs.own_cell HOP.out hone
          rw [hp1] at c1
          unfold Strs.sv at c1
          go_wp2_with (fail)
          go_at_call 133
          refine (HPR.out _).mono ?_
          rintro e w4 ⟨rfl, b4⟩
          have HBX := Lib.hid (HBX.out.below b4)
          have HBZ := Lib.hid (HBZ.out.trans (b4.mono HBZ.out.size))
          clear b4 c1 HOP
          have x0 := HBX.out.cell 0 _ rfl
          have x1 := HBX.out.cell 1 _ rfl
          have x2 := HBX.out.frz 1
          go_wp2_with (fail)
          go_at_call 134
          refine (HWG.out _).mono ?_
          rintro e w5 ⟨rfl, rfl⟩
          have HBX := Lib.hid (HBX.out.same (k := 1) (show 1 < 2 by decide) (.int .i64 (-1)))
          have HBZ := Lib.hid (HBZ.out.setCell (p := ⟨w3.heap.size, 1, none⟩) (Nat.le_refl _) (.int .i64 (-1)))
          simp only [List.set_cons_succ, List.set_cons_zero] at HBX
          go_wp2_with (fail)
          go_at_call 131
          refine (HLA.out _).mono ?_
          rintro e w6 ⟨rfl, b6⟩
          have HBX := Lib.hid (HBX.out.below b6)
          have HBZ := Lib.hid (HBZ.out.trans (b6.mono HBZ.out.size))
          clear b6 x0 x1 x2
          have x0 := HBX.out.cell 0 _ rfl
          have x1 := HBX.out.cell 1 _ rfl
          have x2 := HBX.out.frz 1
          cases tk
          all_goals
            go_wp2_with (fail)
            go_at_call 103
            refine (HTK.out _).mono ?_
            rintro e w9 ⟨rfl, rfl⟩
            have y0 := HBX.out.cell 0 _ rfl
            have y1 := HBX.out.cell 1 _ rfl
            go_wp2
            go_roundw
            case rel => exact ⟨k + 1, by omega, by go_num, by rw [HM.out]; exact row_below HO3.out HBZ.out, Rec.row_below HOX3.out HBZ.out, Base.then_below HB3.out HBZ.out⟩
            case measure => simp [intOf]; omega
        | some m =>
          obtain rfl := HWS.out m rfl
          have hmi : 0 ≤ (m : Int) := by omega
          cases htk : tk with
          | false =>
            have HM := Lib.hid (HN.out (HQ.out.trans (if_neg (fun h => by rw [htk] at h; exact Bool.noConfusion h.1))))
            rw [htk] at HTK
            clear HR HN HQ HWN HWS hwn hP2 htk
            go_wp2_with (fail)
            go_at_call 117
            refine (HSP.out _).mono ?_
            rintro e w1 ⟨vp, rfl, op, b1⟩
            have HO := Lib.hid (row_below HO.out b1)
            have HOX := Lib.hid (Rec.row_below HOX.out b1)
            have HB := Lib.hid (Base.then_below HB.out b1)
            have HOP := Lib.hid op
            obtain ⟨ap, cp, rfl, hap⟩ := Rec.shape_at HOP.out
            obtain ⟨gp, rfl⟩ := hap hne
            have c0 := Strs.own_cell HOP.out hne
            rw [hp0] at c0
            unfold Strs.sv at c0
            clear b1 op
            go_wp2_with (fail)
            go_at_call 132
            refine (HT.out _).mono ?_
            rintro e w2 ⟨rfl, b2⟩
            have HO := Lib.hid (row_below HO.out b2)
            have HOX := Lib.hid (Rec.row_below HOX.out b2)
            have HB := Lib.hid (Base.then_below HB.out b2)
            have HOP := Lib.hid (Rec.row_below HOP.out b2)
            clear b2 c0
            go_wp2_with (fail)
            go_at_call 131
            refine (HLW.out _).mono ?_
            rintro e w3 ⟨rfl, b3⟩
            have HO3 := Lib.hid (row_below HO.out b3)
            have HOX3 := Lib.hid (Rec.row_below HOX.out b3)
            have HB3 := Lib.hid (Base.then_below HB.out b3)
            have HOP := Lib.hid (Rec.row_below HOP.out b3)
            clear b3 HO HOX HB
            have HBX : Hid (Kept.Box (w3.alloc (.cells #[.string ⟨lw.toArray⟩, .int .i64 1000] 152)) w3.heap.size [.string ⟨lw.toArray⟩, .int .i64 1000]) := Lib.hid Kept.Box.new
            have HBZ : Hid (Below w3.heap.size w3 (w3.alloc (.cells #[.string ⟨lw.toArray⟩, .int .i64 1000] 152))) := Lib.hid ((Below.refl _ _).alloc (Nat.le_refl _) _)
            have HOP := Lib.hid (Rec.row_below HOP.out HBZ.out)
            have c1 := Strs.own_cell HOP.out hone
            rw [hp1] at c1
            unfold Strs.sv at c1
            go_wp2_with (fail)
            go_at_call 133
            refine (HPR.out _).mono ?_
            rintro e w4 ⟨rfl, b4⟩
            have HBX := Lib.hid (HBX.out.below b4)
            have HBZ := Lib.hid (HBZ.out.trans (b4.mono HBZ.out.size))
            clear b4 c1 HOP
            have x0 := HBX.out.cell 0 _ rfl
            have x1 := HBX.out.cell 1 _ rfl
            have x2 := HBX.out.frz 1
            go_wp2_with (fail)
            go_at_call 134
            refine (HWG.out _).mono ?_
            rintro e w5 ⟨rfl, rfl⟩
            have HBX := Lib.hid (HBX.out.same (k := 1) (show 1 < 2 by decide) (.int .i64 (m : Int)))
            have HBZ := Lib.hid (HBZ.out.setCell (p := ⟨w3.heap.size, 1, none⟩) (Nat.le_refl _) (.int .i64 (m : Int)))
            simp only [List.set_cons_succ, List.set_cons_zero] at HBX
            go_wp2_with (fail)
            go_at_call 131
            refine (HLA.out _).mono ?_
            rintro e w6 ⟨rfl, b6⟩
            have HBX := Lib.hid (HBX.out.below b6)
            have HBZ := Lib.hid (HBZ.out.trans (b6.mono HBZ.out.size))
            clear b6 x0 x1 x2
            have x0 := HBX.out.cell 0 _ rfl
            have x1 := HBX.out.cell 1 _ rfl
            have x2 := HBX.out.frz 1
            go_wp2_with (fail)
            go_at_call 103
            refine (HTK.out _).mono ?_
            rintro e w9 ⟨rfl, rfl⟩
            have y0 := HBX.out.cell 0 _ rfl
            have y1 := HBX.out.cell 1 _ rfl
            go_wp2
            go_roundw
            case rel => exact ⟨k + 1, by omega, by go_num, by rw [HM.out]; exact row_below HO3.out HBZ.out, Rec.row_below HOX3.out HBZ.out, Base.then_below HB3.out HBZ.out⟩
            case measure => simp [intOf]; omega
          | true =>
            have HM := Lib.hid (HR.out (lw, (m : Int)) (HQ.out.trans ((if_pos ⟨htk, by omega⟩).trans ((if_pos hP2).trans (by rw [if_pos rfl]; rfl)))))
            rw [htk] at HTK
            clear HR HN HQ HWN HWS hwn hP2 htk
            go_wp2_with (fail)
            go_at_call 117
            refine (HSP.out _).mono ?_
            rintro e w1 ⟨vp, rfl, op, b1⟩
            have HO := Lib.hid (row_below HO.out b1)
            have HOX := Lib.hid (Rec.row_below HOX.out b1)
            have HB := Lib.hid (Base.then_below HB.out b1)
            have HOP := Lib.hid op
            obtain ⟨ap, cp, rfl, hap⟩ := Rec.shape_at HOP.out
            obtain ⟨gp, rfl⟩ := hap hne
            have c0 := Strs.own_cell HOP.out hne
            rw [hp0] at c0
            unfold Strs.sv at c0
            clear b1 op
            go_wp2_with (fail)
            go_at_call 132
            refine (HT.out _).mono ?_
            rintro e w2 ⟨rfl, b2⟩
            have HO := Lib.hid (row_below HO.out b2)
            have HOX := Lib.hid (Rec.row_below HOX.out b2)
            have HB := Lib.hid (Base.then_below HB.out b2)
            have HOP := Lib.hid (Rec.row_below HOP.out b2)
            clear b2 c0
            go_wp2_with (fail)
            go_at_call 131
            refine (HLW.out _).mono ?_
            rintro e w3 ⟨rfl, b3⟩
            have HO3 := Lib.hid (row_below HO.out b3)
            have HOX3 := Lib.hid (Rec.row_below HOX.out b3)
            have HB3 := Lib.hid (Base.then_below HB.out b3)
            have HOP := Lib.hid (Rec.row_below HOP.out b3)
            clear b3 HO HOX HB
            have HBX : Hid (Kept.Box (w3.alloc (.cells #[.string ⟨lw.toArray⟩, .int .i64 1000] 152)) w3.heap.size [.string ⟨lw.toArray⟩, .int .i64 1000]) := Lib.hid Kept.Box.new
            have HBZ : Hid (Below w3.heap.size w3 (w3.alloc (.cells #[.string ⟨lw.toArray⟩, .int .i64 1000] 152))) := Lib.hid ((Below.refl _ _).alloc (Nat.le_refl _) _)
            have HOP := Lib.hid (Rec.row_below HOP.out HBZ.out)
            have c1 := Strs.own_cell HOP.out hone
            rw [hp1] at c1
            unfold Strs.sv at c1
            go_wp2_with (fail)
            go_at_call 133
            refine (HPR.out _).mono ?_
            rintro e w4 ⟨rfl, b4⟩
            have HBX := Lib.hid (HBX.out.below b4)
            have HBZ := Lib.hid (HBZ.out.trans (b4.mono HBZ.out.size))
            clear b4 c1 HOP
            have x0 := HBX.out.cell 0 _ rfl
            have x1 := HBX.out.cell 1 _ rfl
            have x2 := HBX.out.frz 1
            go_wp2_with (fail)
            go_at_call 134
            refine (HWG.out _).mono ?_
            rintro e w5 ⟨rfl, rfl⟩
            have HBX := Lib.hid (HBX.out.same (k := 1) (show 1 < 2 by decide) (.int .i64 (m : Int)))
            have HBZ := Lib.hid (HBZ.out.setCell (p := ⟨w3.heap.size, 1, none⟩) (Nat.le_refl _) (.int .i64 (m : Int)))
            simp only [List.set_cons_succ, List.set_cons_zero] at HBX
            go_wp2_with (fail)
            go_at_call 131
            refine (HLA.out _).mono ?_
            rintro e w6 ⟨rfl, b6⟩
            have HBX := Lib.hid (HBX.out.below b6)
            have HBZ := Lib.hid (HBZ.out.trans (b6.mono HBZ.out.size))
            clear b6 x0 x1 x2
            have x0 := HBX.out.cell 0 _ rfl
            have x1 := HBX.out.cell 1 _ rfl
            have x2 := HBX.out.frz 1
            go_wp2_with (fail)
            go_at_call 103
            refine (HTK.out _).mono ?_
            rintro e w9 ⟨rfl, rfl⟩
            have y0 := HBX.out.cell 0 _ rfl
            have y1 := HBX.out.cell 1 _ rfl
            have hown := row_below HO3.out HBZ.out
            have HOX := Lib.hid (Rec.row_below HOX3.out HBZ.out)
            have HB := Lib.hid (Base.then_below HB3.out HBZ.out)
            have HNE := Lib.hid (Rec.row_apart HOX.out hown (by decide))
            have HNW := Lib.hid (Rec.news w6 [.string ⟨lw.toArray⟩, .int .i64 (m : Int)] 152)
            go_wp2_with (at_builtin; refine wpList_append_own _ rfl (.tmp 66) (.tmp 68) 126 rfl w.heap.size 152 i0 (.agg #[.string ⟨#[]⟩, .int .i64 0]) 2 24 Tryz.underlying126 hi hz0 hz1 hz2 rfl (by decide) _ _ _ rfl (hown.alloc _) ⟨w6.heap.size, 0, none⟩ 1 1 [.string ⟨lw.toArray⟩, .int .i64 (m : Int)] rfl rfl (by have h := HNW.out; (try rw [World.size_alloc] at h); exact h) (cs_one (lw, (m : Int))) (by have := HDL.out; unfold maxLen; omega) (by have := HDL.out; omega) (by have := HB.out.size; simp at this ⊢; omega) ?_; intro v1 wa hown1 hg1 _)
            have R := Lib.hid (push_own (f := (lw, (m : Int))) hown HB.out (Nat.le_refl _) hown1 hg1)
            have ROX := Lib.hid (Rec.row_grown (Rec.row_below HOX.out ((Below.refl _ _).alloc (Nat.le_refl _) (.cells #[.string ⟨lw.toArray⟩, .int .i64 (m : Int)] 152))) hg1 HNE.out)
            clear hown hown1 hg1
            go_wp2
            go_roundw
            case rel => exact ⟨k + 1, by omega, by go_num, by rw [HM.out]; exact R.out.1, ROX.out, R.out.2⟩
            case measure => simp [intOf]; omega
    · have HE : Hid (quals (xs.take k) = pqs l) := Lib.hid (by rw [HDP.out, List.take_of_length_le (by omega)])
      go_wp2
      go_ret
      exact ret_parsed HE.out HO.out HB.out
end Go.Proofs.YtojmkdggkaocdaaGreatDoor.Qua
