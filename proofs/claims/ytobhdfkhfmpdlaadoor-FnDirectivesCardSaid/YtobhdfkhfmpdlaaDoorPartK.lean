/-
  CONTRACTS AND PLAIN FACTS, several texts in one; each says in its own words what it proves.
-/
import Derived.Test.YtobhdfkhfmpdlaaDoorPartH
import Derived.LoopTactic
import Derived.Deep.QuietTactic
import Derived.BigQuiet
import Derived.Test.YtobhdfkhfmpdlaaDoorPartG
import Derived.Test.YtobhdfkhfmpdlaaDoorPartJ
import Derived.Test.YtobhdfkhfmpdlaaDoorPartI
import Derived.Outline
set_option linter.unusedSimpArgs false
set_option linter.unusedVariables false

/-
  CONTRACT of the model's UnquoteText: at every text it returns what a quoted string means and whether the text is just one; nothing that was there before is changed.
-/
namespace Go.Proofs.YtobhdfkhfmpdlaaDoor.Tx
open Go Go.RowKit Bys
set_option linter.unusedVariables false
set_option maxRecDepth 1000000

set_option maxRecDepth 1000000 in
set_option maxHeartbeats 2000000 in
theorem spec_unquote (s : ByteArray) (w : World) (hs : s.size ≤ 1048576) :
    Calls Tryd.prog 33 #[.string s] w (Unq s.data.toList w) := by
  obtain ⟨i0, hi, hz0, hz1, hz2⟩ := info_parts info_byte
  have HO := Lib.hid (own_lit_nil w)
  go_enter Tryd.func33, Tryd.ntmps33
  go_wp2
  go_loopw [4, 5] (fun v i wr => ∃ (k : Nat) (l : List UInt8), 1 ≤ k ∧ k ≤ s.size + 1 ∧ i = .int .i64 k ∧ Own wr w.heap.size v l ∧ UQ s k l ∧ Below w.heap.size w wr) (fun _ i _ => s.size + 1 - (intOf i).toNat)
  case atStart => exact ⟨1, [], by omega, by omega, rfl, HO.out, uq_start s, (Below.refl _ _).alloc (Nat.le_refl _) _⟩
  case round =>
    clear HO
    obtain ⟨k, l, hk1, hk, rfl, hown, hq, hb⟩ := hrel
    have HL := Lib.hid hq.2.2
    have HQ := Lib.hid hq
    clear hq
    by_cases hlt : k < s.size
    · by_cases hc : s[k] = 34
      · have hz : 0 < s.size := by omega
        have HE := Lib.hid (uq_quote HQ.out hlt hc hz)
        have h34 : ((s[k].toNat : Int) == 34) = true := by rw [e34]; simp [hc]
        have hcv : ∀ n, (convert 22 9 u4).run Tryd.prog (wr.drewN n) = .ok (.string ⟨l.toArray⟩) (wr.drewN n) := fun n => own_str (w := wr.drewN n) (B := w.heap.size) hown
        have HB := Lib.hid hb
        clear hc hown hb
        by_cases h0 : s[0] = 34
        · have g0 : ((s[0].toNat : Int) == 34) = true := by rw [e34]; simp [h0]
          rcases hg1 : ((k : Int) == (s.size : Int) - 1) with _ | _
          all_goals
            rw [hg1, h0] at HE
            clear h0
            go_wp2
            go_quiet (fail)
            go_wp2
            go_ret2
            exact unq_ret HE.out (below_drewN HB.out _) rfl
        · have g0 : ((s[0].toNat : Int) == 34) = false := by rw [e34]; simpa using h0
          have g1 : (s[0] == 34) = false := by simpa using h0
          rw [g1, Bool.false_and] at HE
          clear h0 g1
          go_wp2
          go_quiet (fail)
          go_wp2
          go_ret2
          exact unq_ret HE.out (below_drewN HB.out _) rfl
      · have h34 : ((s[k].toNat : Int) == 34) = false := by rw [e34]; simpa using hc
        by_cases he : s[k] = 92
        · have h92 : ((s[k].toNat : Int) == 92) = true := by rw [e92]; simp [he]
          by_cases hlt1 : k + 1 < s.size
          · have HE := Lib.hid (uq_esc HQ.out hlt hlt1 he)
            have hlt2 : ((k : Int) + 1 < (s.size : Int)) := by omega
            clear hc he
            go_wp2_with (at_builtin; refine wpList_append_own _ rfl (.tmp 50) (.tmp 54) 22 rfl w.heap.size 5 i0 (.int .u8 0) 1 1 Tryd.underlying22 hi hz0 hz1 hz2 rfl (by decide) _ _ _ rfl (hown.alloc _) ⟨wr.heap.size, 0, none⟩ 1 1 [.int .u8 (s[k + 1].toNat : Int)] rfl rfl (news_one _ _ _) (bvl_one _) (by have := HL.out; unfold maxLen; omega) (by have := HL.out; omega) (by have := hb.size; simp; omega) ?_; intro v1 w1 hown1 hg1 _)
            have R := Lib.hid (push_own (c := s[k + 1]) hown hb (Nat.le_refl _) hown1 hg1)
            clear hown hown1 hg1 hb
            go_wp2
            go_roundw
            case rel => exact ⟨k + 1 + 1, _, by omega, by omega, by go_num, R.out.1, HE.out, R.out.2⟩
            case measure => simp [intOf]; omega
          · have HE := Lib.hid (uq_plain HQ.out hlt hc (Or.inr (by omega)))
            have hlt2 : ¬ ((k : Int) + 1 < (s.size : Int)) := by omega
            clear hc he
            go_wp2_with (at_builtin; refine wpList_append_own _ rfl (.tmp 13) (.tmp 17) 22 rfl w.heap.size 5 i0 (.int .u8 0) 1 1 Tryd.underlying22 hi hz0 hz1 hz2 rfl (by decide) _ _ _ rfl (hown.alloc _) ⟨wr.heap.size, 0, none⟩ 1 1 [.int .u8 (s[k].toNat : Int)] rfl rfl (news_one _ _ _) (bvl_one _) (by have := HL.out; unfold maxLen; omega) (by have := HL.out; omega) (by have := hb.size; simp; omega) ?_; intro v1 w1 hown1 hg1 _)
            have R := Lib.hid (push_own (c := s[k]) hown hb (Nat.le_refl _) hown1 hg1)
            clear hown hown1 hg1 hb
            go_wp2
            go_roundw
            case rel => exact ⟨k + 1, _, by omega, by omega, by go_num, R.out.1, HE.out, R.out.2⟩
            case measure => simp [intOf]; omega
        · have h92 : ((s[k].toNat : Int) == 92) = false := by rw [e92]; simpa using he
          have HE := Lib.hid (uq_plain HQ.out hlt hc (Or.inl he))
          clear hc he
          go_wp2_with (at_builtin; refine wpList_append_own _ rfl (.tmp 13) (.tmp 17) 22 rfl w.heap.size 5 i0 (.int .u8 0) 1 1 Tryd.underlying22 hi hz0 hz1 hz2 rfl (by decide) _ _ _ rfl (hown.alloc _) ⟨wr.heap.size, 0, none⟩ 1 1 [.int .u8 (s[k].toNat : Int)] rfl rfl (news_one _ _ _) (bvl_one _) (by have := HL.out; unfold maxLen; omega) (by have := HL.out; omega) (by have := hb.size; simp; omega) ?_; intro v1 w1 hown1 hg1 _)
          have R := Lib.hid (push_own (c := s[k]) hown hb (Nat.le_refl _) hown1 hg1)
          clear hown hown1 hg1 hb
          go_wp2
          go_roundw
          case rel => exact ⟨k + 1, _, by omega, by omega, by go_num, R.out.1, HE.out, R.out.2⟩
          case measure => simp [intOf]; omega
    · have HE := Lib.hid (uq_end HQ.out (by omega))
      have hcv := own_str hown
      have HB := Lib.hid hb
      clear hown hb
      go_wp2
      go_ret2
      exact unq_ret HE.out HB.out rfl
end Go.Proofs.YtobhdfkhfmpdlaaDoor.Tx

/-
  CONTRACT of the model's ParseDirectives: the directives of a text, in memory of its own; nothing that was there before is changed.
-/
namespace Go.Proofs.YtobhdfkhfmpdlaaDoor.Dir
open Go Go.RowKit
set_option linter.unusedVariables false
set_option maxRecDepth 1000000

def ParsedS (s : List UInt8) (w : World) (e : Ending) (w' : World) : Prop := ∃ v, e = .returned v ∧ Own w' w.heap.size v (dparse s) ∧ Below w.heap.size w w'
theorem ret_parsed_s {s : List UInt8} {w wr : World} {u : Value} {l : List T} (he : l = dparse s) (ho : Own wr w.heap.size u l) (hb : Below w.heap.size w wr) : ParsedS s w (.returned u) wr := by subst he; exact ⟨u, rfl, ho, hb⟩
theorem pair_s {x a b : List UInt8} {q : Bool} (hp : Tx.pairs x = (a, b, q)) (hl : x.length ≤ 1048576) (W : World) : Calls Tryd.prog 31 #[.string ⟨x.toArray⟩] W fun e w' => e = .returned (.tuple #[.string ⟨a.toArray⟩, .string ⟨b.toArray⟩, .bool q]) ∧ Below W.heap.size W w' := by
  have h := Tx.spec_pair ⟨x.toArray⟩ W (by simp [ByteArray.size]; omega)
  unfold Tx.PairEnd at h
  rw [show (⟨x.toArray⟩ : ByteArray).data.toList = x from rfl, hp] at h
  exact h
theorem tok_s (a : List UInt8) (hl : a.length ≤ 1048576) {q : Bool} (hq : Tx.token a = q) (W : World) : Calls Tryd.prog 34 #[.string ⟨a.toArray⟩] W fun e w' => e = .returned (.bool q) ∧ W = w' := by subst hq; exact Tx.spec_token ⟨a.toArray⟩ W (by simp [ByteArray.size]; omega)
theorem low_s (a : List UInt8) (hl : a.length ≤ 1048576) (W : World) : Calls Tryd.prog 32 #[.string ⟨a.toArray⟩] W fun e w' => e = .returned (.string ⟨(Tx.lower a).toArray⟩) ∧ Below W.heap.size W w' := Tx.spec_lower ⟨a.toArray⟩ W (by simp [ByteArray.size]; omega)
theorem unq_s (a : List UInt8) (hl : a.length ≤ 1048576) {q : Bool} (hq : Tx.unqOk a = q) (W : World) : Calls Tryd.prog 33 #[.string ⟨a.toArray⟩] W fun e w' => e = .returned (.tuple #[.string ⟨(Tx.unqText a).toArray⟩, .bool q]) ∧ Below W.heap.size W w' := by subst hq; exact Tx.spec_unquote ⟨a.toArray⟩ W (by simp [ByteArray.size]; omega)
theorem low_len (a : List UInt8) : (Tx.lower a).length = a.length := by unfold Tx.lower; simp
/-- A struct that was just made is there behind what a call did. -/
theorem made_kept {w w1 : World} {T : TypeId} {x y z : Value} (hb : Below (w.alloc (.cells #[x, y, z] T)).heap.size (w.alloc (.cells #[x, y, z] T)) w1) :
    w1.cell? ⟨w.heap.size, 0, none⟩ = some x ∧ w1.cell? ⟨w.heap.size, 1, none⟩ = some y ∧ w1.cell? ⟨w.heap.size, 2, none⟩ = some z ∧ w1.frozen? ⟨w.heap.size, 1, none⟩ = false := by
  refine ⟨?_, ?_, ?_, ?_⟩
  · rw [hb.cell (p := ⟨w.heap.size, 0, none⟩) (by simp), World.cell?_alloc_new]; rfl
  · rw [hb.cell (p := ⟨w.heap.size, 1, none⟩) (by simp), World.cell?_alloc_new]; rfl
  · rw [hb.cell (p := ⟨w.heap.size, 2, none⟩) (by simp), World.cell?_alloc_new]; rfl
  · rw [hb.frozen (p := ⟨w.heap.size, 1, none⟩) (by simp)]; simp [go_sem]

set_option maxRecDepth 1000000 in
set_option maxHeartbeats 8000000 in
theorem spec_parse (l : List UInt8) (w : World) (hl : l.length ≤ 1048576) :
    Calls Tryd.prog 8 #[.string ⟨l.toArray⟩] w (ParsedS l w) := by
  obtain ⟨i0, hi, hz0, hz1, hz2⟩ := info_parts info_r
  have HS := Lib.hid (fun W => Tx.spec_split ⟨l.toArray⟩ W (Nat.le_trans hl (by decide)))
  have HEL := Lib.hid (Tx.split_elem l)
  have HCN := Lib.hid (Tx.split_count l)
  have HDP : Hid (dparse l = dparts (Tx.split l)) := Lib.hid rfl
  go_enter Tryd.func8, Tryd.ntmps8
  go_wp2_with (fail)
  go_at_call 30
  refine (HS.out _).mono ?_
  rintro e w1 ⟨vx, rfl, ox, hb1⟩
  have HOX0 : Hid (w1.ownsRow w.heap.size 9 1 vx (Tx.split l).length (Strs.svs (Tx.split l))) := Lib.hid ox
  have HO0 := Lib.hid (own_lit_nil w1)
  have HB0 := Lib.hid hb1
  have HOX1 := Lib.hid (Rec.row_below HOX0.out ((Below.refl w1.heap.size w1).alloc (Nat.le_refl _) (.cells #[] 29)))
  have HB1 := Lib.hid (HB0.out.alloc HB0.out.size (.cells #[] 29))
  have HO1 : Hid (Own (w1.alloc (.cells #[] 29)) w.heap.size (.slice (some ⟨w1.heap.size, 0, none⟩) 0 0) []) := Lib.hid (own_mono HO0.out hb1.size)
  clear ox hb1 HS HOX0 HO0 HB0
  generalize Tx.split l = xs at *
  obtain ⟨ax, cx, rfl, hax⟩ := Rec.shape_at HOX1.out
  have HAX := Lib.hid hax
  have hxl : xs.length ≤ 1048577 := by have := HCN.out; omega
  clear hax
  go_wp2
  go_loopw [4, 5] (fun u i wr => ∃ k : Nat, k ≤ xs.length ∧ i = .int .i64 (k : Int) ∧ wr.ownsRow w.heap.size 29 3 u (dparts (xs.take k)).length (fcs (dparts (xs.take k))) ∧ wr.ownsRow w.heap.size 9 1 (.slice ax xs.length cx) xs.length (Strs.svs xs) ∧ Below w.heap.size w wr) (fun _ i _ => xs.length - (intOf i).toNat)
  case atStart => exact ⟨0, Nat.zero_le _, rfl, HO1.out, HOX1.out, HB1.out⟩
  case round =>
    clear HO1 HOX1 HB1
    obtain ⟨k, hk, rfl, hown, hox, hb⟩ := hrel
    have HB := Lib.hid hb
    have HOX := Lib.hid hox
    have HO := Lib.hid hown
    clear hown hox hb
    by_cases hlt : k < xs.length
    · obtain ⟨gx, rfl⟩ := HAX.out (by omega)
      have c0 := Strs.own_cell HOX.out hlt
      have HXL : Hid ((xs.getD k []).length ≤ 1048576) := Lib.hid (Nat.le_trans (HEL.out _ (Rec.getD_mem (z := []) hlt)) hl)
      have HDL : Hid ((dparts (xs.take k)).length ≤ 1048577) := Lib.hid (by have h1 := dparts_len (xs.take k); rw [List.length_take] at h1; omega)
      unfold Strs.sv at c0
      have HR : Hid (∀ d, dread (xs.getD k []) = some d → dparts (xs.take (k + 1)) = dparts (xs.take k) ++ [d]) := Lib.hid (fun d hd => dparts_yes hlt hd)
      have HN : Hid (dread (xs.getD k []) = none → dparts (xs.take (k + 1)) = dparts (xs.take k)) := Lib.hid (fun hd => dparts_no hlt hd)
      generalize xs.getD k [] = x at c0 HXL HR HN
      generalize dparts (xs.take k) = ds at HO HDL HR HN
      obtain ⟨a, b, q, hp⟩ : ∃ a b q, Tx.pairs x = (a, b, q) := ⟨_, _, _, rfl⟩
      have hpl := pairs_len x
      have hpn : q = false → b = [] := fun h => by have := pairs_no (x := x) (by rw [hp]; exact h); rw [hp] at this; exact this
      have hde := dread_eq hp
      rw [hp] at hpl
      simp only at hpl
      have HLA : Hid (a.length ≤ 1048576) := Lib.hid (by have := HXL.out; omega)
      have HLB : Hid (b.length ≤ 1048576) := Lib.hid (by have := HXL.out; omega)
      have HP := Lib.hid (pair_s hp HXL.out)
      have HW := Lib.hid (low_s a HLA.out)
      have HDE := Lib.hid hde
      have HTA := Lib.hid (token_low a)
      have HLL := Lib.hid (low_len a)
      have hL := fcs_len ds
      clear hp hpl hde
      cases q with
      | false =>
        obtain rfl := hpn rfl
        cases hta : Tx.token a with
        | true =>
          have HM := Lib.hid (HR.out (Tx.lower a, [], false) (by rw [HDE.out, hta]; rfl))
          have HT := Lib.hid (tok_s (Tx.lower a) (by rw [HLL.out]; exact HLA.out) (HTA.out.trans hta))
          clear hta HR HN hpn HDE HTA
          generalize Tx.lower a = la at *
          go_wp2_with (fail)
          go_at_call 31
          refine (HP.out _).mono ?_
          rintro e w2 ⟨rfl, hb2⟩
          have HO := Lib.hid (row_below HO.out hb2)
          have HOX := Lib.hid (Rec.row_below HOX.out hb2)
          have HB := Lib.hid (Base.then_below HB.out hb2)
          clear hb2
          go_wp2_with (fail)
          go_at_call 32
          refine (HW.out _).mono ?_
          rintro e w3 ⟨rfl, hb3⟩
          have HO := Lib.hid (row_below HO.out hb3)
          have HOX := Lib.hid (Rec.row_below HOX.out hb3)
          have HB := Lib.hid (Base.then_below HB.out hb3)
          clear hb3
          have HAL : Hid (Below w3.heap.size w3 (w3.alloc (.cells #[.string ⟨la.toArray⟩, .string ⟨([]).toArray⟩, .bool false] 29))) := Lib.hid ((Below.refl _ _).alloc (Nat.le_refl _) _)
          have HO3 := HO
          have HOX3 := HOX
          have HB3 := HB
          have HO := Lib.hid (row_below HO.out HAL.out)
          have HOX := Lib.hid (Rec.row_below HOX.out HAL.out)
          have HB := Lib.hid (Base.then_below HB.out HAL.out)
          go_wp2_with (fail)
          go_at_call 34
          refine (HT.out _).mono ?_
          rintro e w9 ⟨rfl, rfl⟩
          have hown := HO.out
          have HNE := Lib.hid (Rec.row_apart HOX.out hown (by decide))
          clear HO
          go_wp2_with (at_builtin; refine wpList_append_own _ rfl (.tmp 64) (.tmp 66) 24 rfl w.heap.size 29 i0 (.agg #[.string ⟨#[]⟩, .string ⟨#[]⟩, .bool false]) 3 40 Tryd.underlying24 hi hz0 hz1 hz2 rfl (by decide) _ _ _ rfl (hown.alloc _) ⟨w3.heap.size + 1, 0, none⟩ 1 1 [.string ⟨la.toArray⟩, .string ⟨#[]⟩, .bool false] rfl rfl (by have h := Rec.news (w3.alloc (.cells #[.string ⟨la.toArray⟩, .string ⟨#[]⟩, .bool false] 29)) [.string ⟨la.toArray⟩, .string ⟨#[]⟩, .bool false] 29; rw [World.size_alloc] at h; exact h) (cs_one (la, [], false)) (by have := HDL.out; unfold maxLen; omega) (by have := HDL.out; omega) (by have := HB.out.size; simp at this ⊢; omega) ?_; intro v1 w8 hown1 hg1 _)
          have R := Lib.hid (push_own (f := (la, [], false)) hown HB.out (Nat.le_refl _) hown1 hg1)
          have ROX := Lib.hid (Rec.row_grown (Rec.row_below HOX.out ((Below.refl _ _).alloc (Nat.le_refl _) (.cells #[.string ⟨la.toArray⟩, .string ⟨#[]⟩, .bool false] 29))) hg1 HNE.out)
          clear hown hown1 hg1
          go_wp2
          go_roundw
          case rel => exact ⟨k + 1, by omega, by go_num, by rw [HM.out]; exact R.out.1, ROX.out, R.out.2⟩
          case measure => simp [intOf]; omega
        | false =>
          have HM := Lib.hid (HN.out (by rw [HDE.out, hta]; rfl))
          have HT := Lib.hid (tok_s (Tx.lower a) (by rw [HLL.out]; exact HLA.out) (HTA.out.trans hta))
          clear hta HR HN hpn HDE HTA
          generalize Tx.lower a = la at *
          go_wp2_with (fail)
          go_at_call 31
          refine (HP.out _).mono ?_
          rintro e w2 ⟨rfl, hb2⟩
          have HO := Lib.hid (row_below HO.out hb2)
          have HOX := Lib.hid (Rec.row_below HOX.out hb2)
          have HB := Lib.hid (Base.then_below HB.out hb2)
          clear hb2
          go_wp2_with (fail)
          go_at_call 32
          refine (HW.out _).mono ?_
          rintro e w3 ⟨rfl, hb3⟩
          have HO := Lib.hid (row_below HO.out hb3)
          have HOX := Lib.hid (Rec.row_below HOX.out hb3)
          have HB := Lib.hid (Base.then_below HB.out hb3)
          clear hb3
          have HAL : Hid (Below w3.heap.size w3 (w3.alloc (.cells #[.string ⟨la.toArray⟩, .string ⟨([]).toArray⟩, .bool false] 29))) := Lib.hid ((Below.refl _ _).alloc (Nat.le_refl _) _)
          have HO3 := HO
          have HOX3 := HOX
          have HB3 := HB
          have HO := Lib.hid (row_below HO.out HAL.out)
          have HOX := Lib.hid (Rec.row_below HOX.out HAL.out)
          have HB := Lib.hid (Base.then_below HB.out HAL.out)
          go_wp2_with (fail)
          go_at_call 34
          refine (HT.out _).mono ?_
          rintro e w9 ⟨rfl, rfl⟩
          go_wp2
          go_roundw
          case rel => exact ⟨k + 1, by omega, by go_num, by rw [HM.out]; exact HO.out, HOX.out, HB.out⟩
          case measure => simp [intOf]; omega
      | true =>
        clear hpn
        cases b with
        | nil =>
          have HM := Lib.hid (HN.out (by rw [HDE.out]; cases Tx.token a <;> rfl))
          have HB9 := Lib.hid (tok_s [] (by decide) token_nil)
          clear HR HN HDE HTA
          generalize Tx.lower a = la at *
          go_wp2_with (fail)
          go_at_call 31
          refine (HP.out _).mono ?_
          rintro e w2 ⟨rfl, hb2⟩
          have HO := Lib.hid (row_below HO.out hb2)
          have HOX := Lib.hid (Rec.row_below HOX.out hb2)
          have HB := Lib.hid (Base.then_below HB.out hb2)
          clear hb2
          go_wp2_with (fail)
          go_at_call 32
          refine (HW.out _).mono ?_
          rintro e w3 ⟨rfl, hb3⟩
          have HO := Lib.hid (row_below HO.out hb3)
          have HOX := Lib.hid (Rec.row_below HOX.out hb3)
          have HB := Lib.hid (Base.then_below HB.out hb3)
          clear hb3
          have HAL : Hid (Below w3.heap.size w3 (w3.alloc (.cells #[.string ⟨la.toArray⟩, .string ⟨([]).toArray⟩, .bool true] 29))) := Lib.hid ((Below.refl _ _).alloc (Nat.le_refl _) _)
          have HO3 := HO
          have HOX3 := HOX
          have HB3 := HB
          have HO := Lib.hid (row_below HO.out HAL.out)
          have HOX := Lib.hid (Rec.row_below HOX.out HAL.out)
          have HB := Lib.hid (Base.then_below HB.out HAL.out)
          go_wp2_with (fail)
          go_at_call 34
          refine (HB9.out _).mono ?_
          rintro e w9 ⟨rfl, rfl⟩
          go_wp2
          go_roundw
          case rel => exact ⟨k + 1, by omega, by go_num, by rw [HM.out]; exact HO.out, HOX.out, HB.out⟩
          case measure => simp [intOf]; omega
        | cons c r =>
          by_cases hc : c = 34
          · subst hc
            cases hu : Tx.unqOk (34 :: r) with
            | false =>
              have HM := Lib.hid (HN.out (by rw [HDE.out, quote_token, hu]; cases Tx.token a <;> rfl))
              have HU := Lib.hid (unq_s (34 :: r) HLB.out hu)
              clear hu HR HN HDE HTA
              generalize Tx.lower a = la at *
              generalize Tx.unqText (34 :: r) = ut at HU
              go_wp2_with (fail)
              go_at_call 31
              refine (HP.out _).mono ?_
              rintro e w2 ⟨rfl, hb2⟩
              have HO := Lib.hid (row_below HO.out hb2)
              have HOX := Lib.hid (Rec.row_below HOX.out hb2)
              have HB := Lib.hid (Base.then_below HB.out hb2)
              clear hb2
              go_wp2_with (fail)
              go_at_call 32
              refine (HW.out _).mono ?_
              rintro e w3 ⟨rfl, hb3⟩
              have HO := Lib.hid (row_below HO.out hb3)
              have HOX := Lib.hid (Rec.row_below HOX.out hb3)
              have HB := Lib.hid (Base.then_below HB.out hb3)
              clear hb3
              have HAL : Hid (Below w3.heap.size w3 (w3.alloc (.cells #[.string ⟨la.toArray⟩, .string ⟨(34 :: r).toArray⟩, .bool true] 29))) := Lib.hid ((Below.refl _ _).alloc (Nat.le_refl _) _)
              have HO3 := HO
              have HOX3 := HOX
              have HB3 := HB
              have HO := Lib.hid (row_below HO.out HAL.out)
              have HOX := Lib.hid (Rec.row_below HOX.out HAL.out)
              have HB := Lib.hid (Base.then_below HB.out HAL.out)
              go_wp2_with (fail)
              go_at_call 33
              refine (HU.out _).mono ?_
              rintro e w5 ⟨rfl, hb5⟩
              have HO := Lib.hid (row_below HO.out hb5)
              have HOX := Lib.hid (Rec.row_below HOX.out hb5)
              have HB := Lib.hid (Base.then_below HB.out hb5)
              clear hb5
              go_wp2
              go_roundw
              case rel => exact ⟨k + 1, by omega, by go_num, by rw [HM.out]; exact HO.out, HOX.out, HB.out⟩
              case measure => simp [intOf]; omega
            | true =>
              have HU := Lib.hid (unq_s (34 :: r) HLB.out hu)
              cases hta : Tx.token a with
              | true =>
                have HM := Lib.hid (HR.out (Tx.lower a, Tx.unqText (34 :: r), true) (by rw [HDE.out, quote_token, hu, hta]; rfl))
                have HT := Lib.hid (tok_s (Tx.lower a) (by rw [HLL.out]; exact HLA.out) (HTA.out.trans hta))
                clear hta hu HR HN HDE HTA
                generalize Tx.lower a = la at *
                generalize Tx.unqText (34 :: r) = ut at *
                go_wp2_with (fail)
                go_at_call 31
                refine (HP.out _).mono ?_
                rintro e w2 ⟨rfl, hb2⟩
                have HO := Lib.hid (row_below HO.out hb2)
                have HOX := Lib.hid (Rec.row_below HOX.out hb2)
                have HB := Lib.hid (Base.then_below HB.out hb2)
                clear hb2
                go_wp2_with (fail)
                go_at_call 32
                refine (HW.out _).mono ?_
                rintro e w3 ⟨rfl, hb3⟩
                have HO := Lib.hid (row_below HO.out hb3)
                have HOX := Lib.hid (Rec.row_below HOX.out hb3)
                have HB := Lib.hid (Base.then_below HB.out hb3)
                clear hb3
                have HAL : Hid (Below w3.heap.size w3 (w3.alloc (.cells #[.string ⟨la.toArray⟩, .string ⟨(34 :: r).toArray⟩, .bool true] 29))) := Lib.hid ((Below.refl _ _).alloc (Nat.le_refl _) _)
                have HO3 := HO
                have HOX3 := HOX
                have HB3 := HB
                have HO := Lib.hid (row_below HO.out HAL.out)
                have HOX := Lib.hid (Rec.row_below HOX.out HAL.out)
                have HB := Lib.hid (Base.then_below HB.out HAL.out)
                go_wp2_with (fail)
                go_at_call 33
                refine (HU.out _).mono ?_
                rintro e w5 ⟨rfl, hb5⟩
                have HO := Lib.hid (row_below HO.out hb5)
                have HOX := Lib.hid (Rec.row_below HOX.out hb5)
                have HB := Lib.hid (Base.then_below HB.out hb5)
                obtain ⟨q1, q2, q3, q4⟩ := made_kept hb5
                have HLT : Hid (∀ g, u4.ownBlock = some g → g < w3.heap.size) := Lib.hid (fun g hg => (HO3.out.lt g hg).2)
                have HLX : Hid (∀ g, (Value.slice (some ⟨gx, 0, none⟩) xs.length cx).ownBlock = some g → g < w3.heap.size) := Lib.hid (fun g hg => (HOX3.out.lt g hg).2)
                clear hb5
                have HO := Lib.hid (Rec.own_set HO.out HLT.out 1 (.string ⟨ut.toArray⟩))
                have HOX := Lib.hid (Rec.own_set HOX.out HLX.out 1 (.string ⟨ut.toArray⟩))
                have HWS : Hid (w.heap.size ≤ w3.heap.size) := Lib.hid (by have h1 := HAL.out.size; have h2 := HB3.out.size; omega)
                have HB := Lib.hid (HB.out.setCell (p := ⟨w3.heap.size, 1, none⟩) HWS.out (.string ⟨ut.toArray⟩))
                clear HO3 HOX3
                go_wp2_with (fail)
                go_at_call 34
                refine (HT.out _).mono ?_
                rintro e w9 ⟨rfl, rfl⟩
                have hown := HO.out
                have HNE := Lib.hid (Rec.row_apart HOX.out hown (by decide))
                clear HO
                go_wp2_with (at_builtin; refine wpList_append_own _ rfl (.tmp 64) (.tmp 66) 24 rfl w.heap.size 29 i0 (.agg #[.string ⟨#[]⟩, .string ⟨#[]⟩, .bool false]) 3 40 Tryd.underlying24 hi hz0 hz1 hz2 rfl (by decide) _ _ _ rfl (hown.alloc _) ⟨w5.heap.size, 0, none⟩ 1 1 [.string ⟨la.toArray⟩, .string ⟨ut.toArray⟩, .bool true] rfl rfl (by have h := Rec.news (w5.setCell ⟨w3.heap.size, 1, none⟩ (.string ⟨ut.toArray⟩)) [.string ⟨la.toArray⟩, .string ⟨ut.toArray⟩, .bool true] 29; rw [World.size_setCell] at h; exact h) (cs_one (la, ut, true)) (by have := HDL.out; unfold maxLen; omega) (by have := HDL.out; omega) (by have := HB.out.size; simp at this ⊢; omega) ?_; intro v1 w8 hown1 hg1 _)
                have R := Lib.hid (push_own (f := (la, ut, true)) hown HB.out (Nat.le_refl _) hown1 hg1)
                have ROX := Lib.hid (Rec.row_grown (Rec.row_below HOX.out ((Below.refl _ _).alloc (Nat.le_refl _) (.cells #[.string ⟨la.toArray⟩, .string ⟨ut.toArray⟩, .bool true] 29))) hg1 HNE.out)
                clear hown hown1 hg1
                go_wp2
                go_roundw
                case rel => exact ⟨k + 1, by omega, by go_num, by rw [HM.out]; exact R.out.1, ROX.out, R.out.2⟩
                case measure => simp [intOf]; omega
              | false =>
                have HM := Lib.hid (HN.out (by rw [HDE.out, hta]; rfl))
                have HT := Lib.hid (tok_s (Tx.lower a) (by rw [HLL.out]; exact HLA.out) (HTA.out.trans hta))
                clear hta hu HR HN HDE HTA
                generalize Tx.lower a = la at *
                generalize Tx.unqText (34 :: r) = ut at *
                go_wp2_with (fail)
                go_at_call 31
                refine (HP.out _).mono ?_
                rintro e w2 ⟨rfl, hb2⟩
                have HO := Lib.hid (row_below HO.out hb2)
                have HOX := Lib.hid (Rec.row_below HOX.out hb2)
                have HB := Lib.hid (Base.then_below HB.out hb2)
                clear hb2
                go_wp2_with (fail)
                go_at_call 32
                refine (HW.out _).mono ?_
                rintro e w3 ⟨rfl, hb3⟩
                have HO := Lib.hid (row_below HO.out hb3)
                have HOX := Lib.hid (Rec.row_below HOX.out hb3)
                have HB := Lib.hid (Base.then_below HB.out hb3)
                clear hb3
                have HAL : Hid (Below w3.heap.size w3 (w3.alloc (.cells #[.string ⟨la.toArray⟩, .string ⟨(34 :: r).toArray⟩, .bool true] 29))) := Lib.hid ((Below.refl _ _).alloc (Nat.le_refl _) _)
                have HO3 := HO
                have HOX3 := HOX
                have HB3 := HB
                have HO := Lib.hid (row_below HO.out HAL.out)
                have HOX := Lib.hid (Rec.row_below HOX.out HAL.out)
                have HB := Lib.hid (Base.then_below HB.out HAL.out)
                go_wp2_with (fail)
                go_at_call 33
                refine (HU.out _).mono ?_
                rintro e w5 ⟨rfl, hb5⟩
                have HO := Lib.hid (row_below HO.out hb5)
                have HOX := Lib.hid (Rec.row_below HOX.out hb5)
                have HB := Lib.hid (Base.then_below HB.out hb5)
                obtain ⟨q1, q2, q3, q4⟩ := made_kept hb5
                have HLT : Hid (∀ g, u4.ownBlock = some g → g < w3.heap.size) := Lib.hid (fun g hg => (HO3.out.lt g hg).2)
                have HLX : Hid (∀ g, (Value.slice (some ⟨gx, 0, none⟩) xs.length cx).ownBlock = some g → g < w3.heap.size) := Lib.hid (fun g hg => (HOX3.out.lt g hg).2)
                clear hb5
                have HO := Lib.hid (Rec.own_set HO.out HLT.out 1 (.string ⟨ut.toArray⟩))
                have HOX := Lib.hid (Rec.own_set HOX.out HLX.out 1 (.string ⟨ut.toArray⟩))
                have HWS : Hid (w.heap.size ≤ w3.heap.size) := Lib.hid (by have h1 := HAL.out.size; have h2 := HB3.out.size; omega)
                have HB := Lib.hid (HB.out.setCell (p := ⟨w3.heap.size, 1, none⟩) HWS.out (.string ⟨ut.toArray⟩))
                clear HO3 HOX3
                go_wp2_with (fail)
                go_at_call 34
                refine (HT.out _).mono ?_
                rintro e w9 ⟨rfl, rfl⟩
                go_wp2
                go_roundw
                case rel => exact ⟨k + 1, by omega, by go_num, by rw [HM.out]; exact HO.out, HOX.out, HB.out⟩
                case measure => simp [intOf]; omega
          · have h34 : ((c.toNat : Int) == 34) = false := by rw [Tx.e34]; simpa using hc
            have HUQ := Lib.hid (unq_head (r := r) hc)
            have hz0' : 0 < (⟨(c :: r).toArray⟩ : ByteArray).size := by show 0 < (c :: r).toArray.size; simp
            have h34x : ((((⟨(c :: r).toArray⟩ : ByteArray)[0]'hz0').toNat : Int) == 34) = false := h34
            clear hc
            cases htb : Tx.token (c :: r) with
            | false =>
              have HM := Lib.hid (HN.out (by rw [HDE.out, htb, HUQ.out]; cases Tx.token a <;> rfl))
              have HB9 := Lib.hid (tok_s (c :: r) HLB.out htb)
              clear htb HR HN HDE HTA HUQ
              generalize Tx.lower a = la at *
              go_wp2_with (fail)
              go_at_call 31
              refine (HP.out _).mono ?_
              rintro e w2 ⟨rfl, hb2⟩
              have HO := Lib.hid (row_below HO.out hb2)
              have HOX := Lib.hid (Rec.row_below HOX.out hb2)
              have HB := Lib.hid (Base.then_below HB.out hb2)
              clear hb2
              go_wp2_with (fail)
              go_at_call 32
              refine (HW.out _).mono ?_
              rintro e w3 ⟨rfl, hb3⟩
              have HO := Lib.hid (row_below HO.out hb3)
              have HOX := Lib.hid (Rec.row_below HOX.out hb3)
              have HB := Lib.hid (Base.then_below HB.out hb3)
              clear hb3
              have HAL : Hid (Below w3.heap.size w3 (w3.alloc (.cells #[.string ⟨la.toArray⟩, .string ⟨(c :: r).toArray⟩, .bool true] 29))) := Lib.hid ((Below.refl _ _).alloc (Nat.le_refl _) _)
              have HO3 := HO
              have HOX3 := HOX
              have HB3 := HB
              have HO := Lib.hid (row_below HO.out HAL.out)
              have HOX := Lib.hid (Rec.row_below HOX.out HAL.out)
              have HB := Lib.hid (Base.then_below HB.out HAL.out)
              go_wp2_with (fail)
              go_at_call 34
              refine (HB9.out _).mono ?_
              rintro e w9 ⟨rfl, rfl⟩
              go_wp2
              go_roundw
              case rel => exact ⟨k + 1, by omega, by go_num, by rw [HM.out]; exact HO.out, HOX.out, HB.out⟩
              case measure => simp [intOf]; omega
            | true =>
              have HB9 := Lib.hid (tok_s (c :: r) HLB.out htb)
              cases hta : Tx.token a with
              | true =>
                have HM := Lib.hid (HR.out (Tx.lower a, c :: r, true) (by rw [HDE.out, htb, hta]; rfl))
                have HT := Lib.hid (tok_s (Tx.lower a) (by rw [HLL.out]; exact HLA.out) (HTA.out.trans hta))
                clear hta htb HR HN HDE HTA HUQ
                generalize Tx.lower a = la at *
                go_wp2_with (fail)
                go_at_call 31
                refine (HP.out _).mono ?_
                rintro e w2 ⟨rfl, hb2⟩
                have HO := Lib.hid (row_below HO.out hb2)
                have HOX := Lib.hid (Rec.row_below HOX.out hb2)
                have HB := Lib.hid (Base.then_below HB.out hb2)
                clear hb2
                go_wp2_with (fail)
                go_at_call 32
                refine (HW.out _).mono ?_
                rintro e w3 ⟨rfl, hb3⟩
                have HO := Lib.hid (row_below HO.out hb3)
                have HOX := Lib.hid (Rec.row_below HOX.out hb3)
                have HB := Lib.hid (Base.then_below HB.out hb3)
                clear hb3
                have HAL : Hid (Below w3.heap.size w3 (w3.alloc (.cells #[.string ⟨la.toArray⟩, .string ⟨(c :: r).toArray⟩, .bool true] 29))) := Lib.hid ((Below.refl _ _).alloc (Nat.le_refl _) _)
                have HO3 := HO
                have HOX3 := HOX
                have HB3 := HB
                have HO := Lib.hid (row_below HO.out HAL.out)
                have HOX := Lib.hid (Rec.row_below HOX.out HAL.out)
                have HB := Lib.hid (Base.then_below HB.out HAL.out)
                go_wp2_with (fail)
                go_at_call 34
                refine (HB9.out _).mono ?_
                rintro e w9 ⟨rfl, rfl⟩
                go_wp2_with (fail)
                go_at_call 34
                refine (HT.out _).mono ?_
                rintro e w9 ⟨rfl, rfl⟩
                have hown := HO.out
                have HNE := Lib.hid (Rec.row_apart HOX.out hown (by decide))
                clear HO
                go_wp2_with (at_builtin; refine wpList_append_own _ rfl (.tmp 64) (.tmp 66) 24 rfl w.heap.size 29 i0 (.agg #[.string ⟨#[]⟩, .string ⟨#[]⟩, .bool false]) 3 40 Tryd.underlying24 hi hz0 hz1 hz2 rfl (by decide) _ _ _ rfl (hown.alloc _) ⟨w3.heap.size + 1, 0, none⟩ 1 1 [.string ⟨la.toArray⟩, .string ⟨(c :: r).toArray⟩, .bool true] rfl rfl (by have h := Rec.news (w3.alloc (.cells #[.string ⟨la.toArray⟩, .string ⟨(c :: r).toArray⟩, .bool true] 29)) [.string ⟨la.toArray⟩, .string ⟨(c :: r).toArray⟩, .bool true] 29; rw [World.size_alloc] at h; exact h) (cs_one (la, c :: r, true)) (by have := HDL.out; unfold maxLen; omega) (by have := HDL.out; omega) (by have := HB.out.size; simp at this ⊢; omega) ?_; intro v1 w8 hown1 hg1 _)
                have R := Lib.hid (push_own (f := (la, c :: r, true)) hown HB.out (Nat.le_refl _) hown1 hg1)
                have ROX := Lib.hid (Rec.row_grown (Rec.row_below HOX.out ((Below.refl _ _).alloc (Nat.le_refl _) (.cells #[.string ⟨la.toArray⟩, .string ⟨(c :: r).toArray⟩, .bool true] 29))) hg1 HNE.out)
                clear hown hown1 hg1
                go_wp2
                go_roundw
                case rel => exact ⟨k + 1, by omega, by go_num, by rw [HM.out]; exact R.out.1, ROX.out, R.out.2⟩
                case measure => simp [intOf]; omega
              | false =>
                have HM := Lib.hid (HN.out (by rw [HDE.out, hta]; rfl))
                have HT := Lib.hid (tok_s (Tx.lower a) (by rw [HLL.out]; exact HLA.out) (HTA.out.trans hta))
                clear hta htb HR HN HDE HTA HUQ
                generalize Tx.lower a = la at *
                go_wp2_with (fail)
                go_at_call 31
                refine (HP.out _).mono ?_
                rintro e w2 ⟨rfl, hb2⟩
                have HO := Lib.hid (row_below HO.out hb2)
                have HOX := Lib.hid (Rec.row_below HOX.out hb2)
                have HB := Lib.hid (Base.then_below HB.out hb2)
                clear hb2
                go_wp2_with (fail)
                go_at_call 32
                refine (HW.out _).mono ?_
                rintro e w3 ⟨rfl, hb3⟩
                have HO := Lib.hid (row_below HO.out hb3)
                have HOX := Lib.hid (Rec.row_below HOX.out hb3)
                have HB := Lib.hid (Base.then_below HB.out hb3)
                clear hb3
                have HAL : Hid (Below w3.heap.size w3 (w3.alloc (.cells #[.string ⟨la.toArray⟩, .string ⟨(c :: r).toArray⟩, .bool true] 29))) := Lib.hid ((Below.refl _ _).alloc (Nat.le_refl _) _)
                have HO3 := HO
                have HOX3 := HOX
                have HB3 := HB
                have HO := Lib.hid (row_below HO.out HAL.out)
                have HOX := Lib.hid (Rec.row_below HOX.out HAL.out)
                have HB := Lib.hid (Base.then_below HB.out HAL.out)
                go_wp2_with (fail)
                go_at_call 34
                refine (HB9.out _).mono ?_
                rintro e w9 ⟨rfl, rfl⟩
                go_wp2_with (fail)
                go_at_call 34
                refine (HT.out _).mono ?_
                rintro e w9 ⟨rfl, rfl⟩
                go_wp2
                go_roundw
                case rel => exact ⟨k + 1, by omega, by go_num, by rw [HM.out]; exact HO.out, HOX.out, HB.out⟩
                case measure => simp [intOf]; omega
    · have HE : Hid (dparts (xs.take k) = dparse l) := Lib.hid (by rw [HDP.out, List.take_of_length_le (by omega)])
      go_wp2
      go_ret
      exact ret_parsed_s HE.out HO.out HB.out
end Go.Proofs.YtobhdfkhfmpdlaaDoor.Dir

/-
  CONTRACT of the program's QuoteText: at every text it returns it as a quoted string; nothing that was there before is changed.
-/
namespace Go.Proofs.YtobhdfkhfmpdlaaDoor.Tx
open Go Go.RowKit Bys
set_option linter.unusedVariables false
set_option maxRecDepth 1000000

set_option maxHeartbeats 1000000 in
theorem impl_quote (s : ByteArray) (w : World) (hs : s.size ≤ 1048576) :
    Calls Tryd.prog 72 #[.string s] w fun e w' => e = .returned (.string ⟨(quo s.data.toList).toArray⟩) ∧ Below w.heap.size w w' := by
  obtain ⟨i0, hi, hz0, hz1, hz2⟩ := info_parts info_byte
  have HO := Lib.hid (own_lit_one w 34)
  go_enter Tryd.func72, Tryd.ntmps72
  go_wp2
  go_loopw [3, 4, 8] (fun v j i wr => ∃ k : Nat, k ≤ s.size ∧ i = .int .i64 k ∧ Own wr w.heap.size v (quk s.data.toList k) ∧ Below w.heap.size w wr) (fun _ _ i _ => s.size - (intOf i).toNat)
  case atStart => exact ⟨0, Nat.zero_le _, rfl, by rw [quk_zero]; exact HO.out, (Below.refl _ _).alloc (Nat.le_refl _) _⟩
  case round =>
    clear HO
    obtain ⟨k, hk, rfl, hown, hb⟩ := hrel
    have HL := Lib.hid (quk_len s.data.toList k)
    by_cases hlt : k < s.size
    · have HM := Lib.hid (quk_more s hlt)
      by_cases hc : s[k] = 34 ∨ s[k] = 92
      · have HQ := Lib.hid (qot_yes hc)
        have HS : ((s[k].toNat : Int) == 34) = true ∨ (((s[k].toNat : Int) == 34) = false ∧ ((s[k].toNat : Int) == 92) = true) := by
          rw [e34, e92]
          rcases hc with h | h
          · left; simp [h]
          · right; rw [h]; decide
        clear hc
        rcases HS with h34 | ⟨h34, h92⟩
        all_goals
          go_wp2_with (first
            | (at_builtin; refine wpList_append_own _ rfl (.tmp 21) (.tmp 22) 22 rfl w.heap.size 5 i0 (.int .u8 0) 1 1 Tryd.underlying22 hi hz0 hz1 hz2 rfl (by decide) _ _ _ rfl (hown.alloc _) ⟨wr.heap.size, 0, none⟩ 1 1 [.int .u8 92] rfl rfl (news_one _ _ _) (bvl_one 92) (by have := HL.out; unfold maxLen; omega) (by have := HL.out; omega) (by have := hb.size; simp; omega) ?_; intro v1 w1 hown1 hg1 _)
            | (at_builtin; refine wpList_append_own _ rfl (.tmp 24) (.tmp 28) 22 rfl w.heap.size 5 i0 (.int .u8 0) 1 1 Tryd.underlying22 hi hz0 hz1 hz2 rfl (by decide) _ _ _ rfl (hown1.alloc _) ⟨w1.heap.size, 0, none⟩ 1 1 [.int .u8 (s[k].toNat : Int)] rfl rfl (news_one _ _ _) (bvl_one _) (by have := HL.out; unfold maxLen; omega) (by have := HL.out; omega) (by have := hb.size; have := hg1.size; simp at *; omega) ?_; intro v2 w2 hown2 hg2 _))
          have R := Lib.hid (two_own (c := 92) (d := s[k]) hown hb (Nat.le_refl _) hown1 hg1 hown2 hg2)
          clear hown hown1 hg1 hown2 hg2 hb
          go_wp2
          go_roundw
          case rel => exact ⟨k + 1, by omega, by go_num, by rw [HM.out, HQ.out]; exact R.out.1, R.out.2⟩
          case measure => simp [intOf]; omega
      · have HQ := Lib.hid (qot_no hc)
        have h34 : ((s[k].toNat : Int) == 34) = false := by rw [e34]; simp; intro h; exact hc (Or.inl h)
        have h92 : ((s[k].toNat : Int) == 92) = false := by rw [e92]; simp; intro h; exact hc (Or.inr h)
        clear hc
        go_wp2_with (at_builtin; refine wpList_append_own _ rfl (.tmp 24) (.tmp 28) 22 rfl w.heap.size 5 i0 (.int .u8 0) 1 1 Tryd.underlying22 hi hz0 hz1 hz2 rfl (by decide) _ _ _ rfl (hown.alloc _) ⟨wr.heap.size, 0, none⟩ 1 1 [.int .u8 (s[k].toNat : Int)] rfl rfl (news_one _ _ _) (bvl_one _) (by have := HL.out; unfold maxLen; omega) (by have := HL.out; omega) (by have := hb.size; simp at *; omega) ?_; intro v1 w1 hown1 hg1 _)
        have R := Lib.hid (push_own (c := s[k]) hown hb (Nat.le_refl _) hown1 hg1)
        clear hown hown1 hg1 hb
        go_wp2
        go_roundw
        case rel => exact ⟨k + 1, by omega, by go_num, by rw [HM.out, HQ.out]; exact R.out.1, R.out.2⟩
        case measure => simp [intOf]; omega
    · have HE := Lib.hid (quk_all (l := s.data.toList) (k := k) (by rw [list_len]; omega))
      go_wp2_with (at_builtin; refine wpList_append_own _ rfl (.tmp 31) (.tmp 32) 22 rfl w.heap.size 5 i0 (.int .u8 0) 1 1 Tryd.underlying22 hi hz0 hz1 hz2 rfl (by decide) _ _ _ rfl (hown.alloc _) ⟨wr.heap.size, 0, none⟩ 1 1 [.int .u8 34] rfl rfl (news_one _ _ _) (bvl_one 34) (by have := HL.out; unfold maxLen; omega) (by have := HL.out; omega) (by have := hb.size; simp at *; omega) ?_; intro v1 w1 hown1 hg1 _; have R := Lib.hid (push_own (c := 34) hown hb (Nat.le_refl _) hown1 hg1); have hcv := own_str R.out.1)
      go_ret
      exact ⟨ret_str HE.out, R.out.2⟩
end Go.Proofs.YtobhdfkhfmpdlaaDoor.Tx
