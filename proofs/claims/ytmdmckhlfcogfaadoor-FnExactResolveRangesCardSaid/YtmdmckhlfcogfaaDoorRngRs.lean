/-
  CONTRACT of ResolveRanges, the model's: the spans that the asks mean, without those that have nothing, in memory of their own; nothing that was there before is changed.
-/
import Derived.Test.YtmdmckhlfcogfaaDoorRngRv
import Derived.Test.YtmdmckhlfcogfaaDoorMinS
namespace Go.Proofs.YtmdmckhlfcogfaaDoor.Rng
open Go Go.RowKit
set_option linter.unusedVariables false

theorem spec_max (a b : Int) (w : World) : Calls Tryd.prog 26 #[.int .i64 a, .int .i64 b] w fun e w' => e = .returned (.int .i64 (max a b)) ∧ w = w' := by
  by_cases h : a < b
  · have HE := Lib.hid (show b = max a b by omega)
    go_enter Tryd.func26, Tryd.ntmps26
    go_wp2
    all_goals go_ret
    all_goals exact ⟨Mm.ret_int2 (by omega), rfl⟩
  · go_enter Tryd.func26, Tryd.ntmps26
    go_wp2
    all_goals go_ret
    all_goals exact ⟨Mm.ret_int2 (by omega), rfl⟩
def mx3 (y n : Int) : Int := max 0 (RowKit.wrap64 (n - max 0 (min y n)))
theorem mx3_eq (y n : Int) (hn : -9223372036854775808 ≤ n ∧ n ≤ 9223372036854775807) : mx3 y n = max 0 (n - max 0 (min y n)) := by
  unfold mx3
  rw [show RowKit.wrap64 (n - max 0 (min y n)) = n - max 0 (min y n) by unfold RowKit.wrap64; omega]
theorem rs1_of {x y n p q : Int} (e : askd x y n = (p, q)) : rs1 n (x, y) = if p < q then [(p, q)] else [] := by unfold rs1; dsimp only; rw [e]
theorem rs1_neg {x y n : Int} (hx : x < 0) (hn : -9223372036854775808 ≤ n ∧ n ≤ 9223372036854775807) : rs1 n (x, y) = if mx3 y n < n then [(mx3 y n, n)] else [] := by
  rw [mx3_eq y n hn]
  by_cases h2 : y < 0
  · rw [rs1_of (p := 0) (q := 0) (by unfold askd; rw [if_pos ⟨hx, h2⟩]), if_neg (by omega), if_neg (by omega)]
  · by_cases h3 : n < y
    · rw [rs1_of (p := 0) (q := n) (by unfold askd; rw [if_neg (fun h => h2 h.2), if_pos ⟨hx, h3⟩])]
      by_cases h4 : 0 < n
      · rw [if_pos h4, if_pos (by omega), show max 0 (n - max 0 (min y n)) = 0 by omega]
      · rw [if_neg h4, if_neg (by omega)]
    · rw [rs1_of (p := n - y) (q := n) (by unfold askd; rw [if_neg (fun h => h2 h.2), if_neg (fun h => h3 h.2), if_pos hx, show RowKit.wrap64 (n - y) = n - y by unfold RowKit.wrap64; omega])]
      rw [show max 0 (n - max 0 (min y n)) = n - y by omega]
theorem rs1_mid {x y n : Int} (hx : ¬ x < 0) (h1 : 0 ≤ y) (h2 : y < n) (hn : -9223372036854775808 ≤ n ∧ n ≤ 9223372036854775807) : rs1 n (x, y) = if x < y + 1 then [(x, y + 1)] else [] :=
  rs1_of (by unfold askd; rw [if_neg (fun h => hx h.1), if_neg (fun h => hx h.1), if_neg hx, if_neg (by omega), show RowKit.wrap64 (y + 1) = y + 1 by unfold RowKit.wrap64; omega])
theorem rs1_end {x y n : Int} (hx : ¬ x < 0) (h1 : ¬ (0 ≤ y ∧ y < n)) : rs1 n (x, y) = if x < n then [(x, n)] else [] :=
  rs1_of (by unfold askd; rw [if_neg (fun h => hx h.1), if_neg (fun h => hx h.1), if_neg hx, if_pos (by omega)])

set_option maxRecDepth 100000 in
set_option maxHeartbeats 4000000 in
theorem spec_rsv (v : Value) (B : Nat) (l : List Asks.T) (n : Int) (w : World) (h : Asks.Holds w B v l) (hB : B ≤ w.heap.size) (hll : l.length ≤ 1048576) (hnn : -9223372036854775808 ≤ n ∧ n ≤ 9223372036854775807) :
    Calls Tryd.prog 11 #[v, .int .i64 n] w (RsvEnd l n w) := by
  obtain ⟨i0, hi, hz0, hz1, hz2⟩ := info_parts Spn.info_r
  obtain ⟨a, cap, rfl, ha⟩ := ashape h
  have HA := Lib.hid ha
  have HO1 := Lib.hid (Spn.own_lit_nil w)
  have HNN := Lib.hid hnn
  clear ha h hnn
  unfold RsvEnd
  go_enter Tryd.func11, Tryd.ntmps11
  go_wp2
  go_loopw [5, 6] (fun u i wr => ∃ k : Nat, k ≤ l.length ∧ i = .int .i64 (k : Int) ∧ wr.ownsRow w.heap.size 47 2 u (rsv (l.take k) n).length (Spn.fcs (rsv (l.take k) n)) ∧ Below w.heap.size w wr) (fun _ i _ => l.length - (intOf i).toNat)
  case atStart => exact ⟨0, Nat.zero_le _, rfl, HO1.out, (Below.refl _ _).alloc (Nat.le_refl _) _⟩
  case round =>
    clear HO1
    obtain ⟨k, hk, rfl, hown, hb⟩ := hrel
    have HB := Lib.hid hb
    have HML : Hid ((rsv (l.take k) n).length ≤ 1048576) := Lib.hid (by have h1 := rsv_len (l.take k) n; rw [List.length_take] at h1; omega)
    have hbs := hb.size
    by_cases hlt : k < l.length
    case neg =>
      have HE := Lib.hid (rsv_all (n := n) hlt)
      rw [HE.out] at hown
      have HO := Lib.hid hown
      clear hown hb
      go_wp2
      go_ret
      exact ⟨_, rfl, HO.out, HB.out⟩
    obtain ⟨b, off, rfl, hbw, hc⟩ := HA.out (by omega)
    have HM := Lib.hid (rsv_more (n := n) hlt)
    obtain ⟨c0, c1⟩ := Asks.at_cells (Asks.at_below hc hb (Nat.lt_of_lt_of_le hbw hB)) hlt
    clear hb hc
    generalize l.getD k Asks.nov = f at c0 c1 HM
    obtain ⟨x, y⟩ := f
    dsimp only at c0 c1
    generalize rsv (l.take k) n = m at hown HM HML
    have hL := Spn.fcs_len m
    have hki : (k : Int) < (l.length : Int) := by omega
    have HOA := Lib.hid (hown.alloc (.cells #[.int .i64 x, .int .i64 y] 40))
    have HBA := Lib.hid (HB.out.alloc HB.out.size (.cells #[.int .i64 x, .int .i64 y] 40))
    clear hown
    by_cases hx : x < 0
    · rw [rs1_neg hx HNN.out] at HM
      obtain ⟨p, hp⟩ : ∃ p, mx3 y n = p := ⟨_, rfl⟩
      have HPX := Lib.hid hp
      rw [hp] at HM
      clear hp
      have HO1 := Lib.hid (HOA.out.alloc (.cells #[.int .i64 (p), .int .i64 (n)] 47))
      have HB1 : Hid (Below w.heap.size w ((wr.alloc (.cells #[.int .i64 x, .int .i64 y] 40)).alloc (.cells #[.int .i64 (p), .int .i64 (n)] 47))) := Lib.hid (by have h9 := HBA.out; exact h9.alloc h9.size _)
      by_cases hpq : p < n
      · rw [if_pos hpq] at HM
        have HNW := Lib.hid (Rec.news ((wr.alloc (.cells #[.int .i64 x, .int .i64 y] 40)).alloc (.cells #[.int .i64 (p), .int .i64 (n)] 47)) [.int .i64 (p), .int .i64 (n)] 47)
        clear HOA HBA
        go_wp2_with (fail)
        go_at_call 27
        refine (Mm.spec_min _ _ _).mono ?_
        rintro e w1 ⟨rfl, rfl⟩
        go_wp2_with (fail)
        go_at_call 26
        refine (spec_max _ _ _).mono ?_
        rintro e w1 ⟨rfl, rfl⟩
        go_wp2_with (fail)
        go_at_call 26
        refine (spec_max _ _ _).mono ?_
        rintro e w1 ⟨he, rfl⟩
        rw [show max 0 (RowKit.wrap64 (n - max 0 (min y n))) = p from HPX.out] at he
        subst he
        go_wp2_with (at_builtin; go_loud (refine wpList_append_own _ rfl (.tmp 56) (.tmp 58) 29 rfl w.heap.size 47 i0 (.agg #[.int .i64 0, .int .i64 0]) 2 16 Tryd.underlying29 hi hz0 hz1 hz2 rfl (by decide) _ _ _ rfl (HO1.out.alloc _) ⟨wr.heap.size + 1 + 1, 0, none⟩ 1 1 [.int .i64 (p), .int .i64 (n)] rfl rfl (by have h := HNW.out; rw [World.size_alloc, World.size_alloc] at h; exact h) (Spn.cs_one (p, n)) (by have := HML.out; unfold maxLen; omega) (by have := HML.out; omega) (by have := HB1.out.size; simp at this ⊢; omega) ?_; intro v1 w2 hown1 hg1 _))
        have R := Lib.hid (Spn.push_own (f := (p, n)) HO1.out HB1.out (Nat.le_refl _) hown1 hg1)
        clear hown1 hg1
        go_wp2
        go_roundw
        case rel => exact ⟨k + 1, by omega, by go_num, by rw [HM.out]; exact R.out.1, R.out.2⟩
        case measure => simp [intOf]; omega
      · rw [if_neg hpq, List.append_nil] at HM
        clear HOA HBA
        go_wp2_with (fail)
        go_at_call 27
        refine (Mm.spec_min _ _ _).mono ?_
        rintro e w1 ⟨rfl, rfl⟩
        go_wp2_with (fail)
        go_at_call 26
        refine (spec_max _ _ _).mono ?_
        rintro e w1 ⟨rfl, rfl⟩
        go_wp2_with (fail)
        go_at_call 26
        refine (spec_max _ _ _).mono ?_
        rintro e w1 ⟨he, rfl⟩
        rw [show max 0 (RowKit.wrap64 (n - max 0 (min y n))) = p from HPX.out] at he
        subst he
        go_wp2
        go_roundw
        case rel => exact ⟨k + 1, by omega, by go_num, by rw [HM.out]; exact HO1.out, HB1.out⟩
        case measure => simp [intOf]; omega
    · by_cases hy : 0 ≤ y ∧ y < n
      · obtain ⟨hy1, hy2⟩ := hy
        rw [rs1_mid hx hy1 hy2 HNN.out] at HM
        have hy3 : y + 1 ≤ 9223372036854775807 := by have := HNN.out.2; omega
        have HO1 := Lib.hid (HOA.out.alloc (.cells #[.int .i64 (x), .int .i64 (y + 1)] 47))
        have HB1 : Hid (Below w.heap.size w ((wr.alloc (.cells #[.int .i64 x, .int .i64 y] 40)).alloc (.cells #[.int .i64 (x), .int .i64 (y + 1)] 47))) := Lib.hid (by have h9 := HBA.out; exact h9.alloc h9.size _)
        by_cases hpq : x < y + 1
        · rw [if_pos hpq] at HM
          have HNW := Lib.hid (Rec.news ((wr.alloc (.cells #[.int .i64 x, .int .i64 y] 40)).alloc (.cells #[.int .i64 (x), .int .i64 (y + 1)] 47)) [.int .i64 (x), .int .i64 (y + 1)] 47)
          clear HOA HBA
          go_wp2_with (at_builtin; go_loud (refine wpList_append_own _ rfl (.tmp 56) (.tmp 58) 29 rfl w.heap.size 47 i0 (.agg #[.int .i64 0, .int .i64 0]) 2 16 Tryd.underlying29 hi hz0 hz1 hz2 rfl (by decide) _ _ _ rfl (HO1.out.alloc _) ⟨wr.heap.size + 1 + 1, 0, none⟩ 1 1 [.int .i64 (x), .int .i64 (y + 1)] rfl rfl (by have h := HNW.out; rw [World.size_alloc, World.size_alloc] at h; exact h) (Spn.cs_one (x, y + 1)) (by have := HML.out; unfold maxLen; omega) (by have := HML.out; omega) (by have := HB1.out.size; simp at this ⊢; omega) ?_; intro v1 w2 hown1 hg1 _))
          have R := Lib.hid (Spn.push_own (f := (x, y + 1)) HO1.out HB1.out (Nat.le_refl _) hown1 hg1)
          clear hown1 hg1
          go_wp2
          go_roundw
          case rel => exact ⟨k + 1, by omega, by go_num, by rw [HM.out]; exact R.out.1, R.out.2⟩
          case measure => simp [intOf]; omega
        · rw [if_neg hpq, List.append_nil] at HM
          clear HOA HBA
          go_wp2
          go_roundw
          case rel => exact ⟨k + 1, by omega, by go_num, by rw [HM.out]; exact HO1.out, HB1.out⟩
          case measure => simp [intOf]; omega
      · rw [rs1_end hx hy] at HM
        by_cases hy0 : 0 ≤ y
        · have hy1 : ¬ y < n := by omega
          have HO1 := Lib.hid (HOA.out.alloc (.cells #[.int .i64 (x), .int .i64 (n)] 47))
          have HB1 : Hid (Below w.heap.size w ((wr.alloc (.cells #[.int .i64 x, .int .i64 y] 40)).alloc (.cells #[.int .i64 (x), .int .i64 (n)] 47))) := Lib.hid (by have h9 := HBA.out; exact h9.alloc h9.size _)
          by_cases hpq : x < n
          · rw [if_pos hpq] at HM
            have HNW := Lib.hid (Rec.news ((wr.alloc (.cells #[.int .i64 x, .int .i64 y] 40)).alloc (.cells #[.int .i64 (x), .int .i64 (n)] 47)) [.int .i64 (x), .int .i64 (n)] 47)
            clear HOA HBA
            go_wp2_with (at_builtin; go_loud (refine wpList_append_own _ rfl (.tmp 56) (.tmp 58) 29 rfl w.heap.size 47 i0 (.agg #[.int .i64 0, .int .i64 0]) 2 16 Tryd.underlying29 hi hz0 hz1 hz2 rfl (by decide) _ _ _ rfl (HO1.out.alloc _) ⟨wr.heap.size + 1 + 1, 0, none⟩ 1 1 [.int .i64 (x), .int .i64 (n)] rfl rfl (by have h := HNW.out; rw [World.size_alloc, World.size_alloc] at h; exact h) (Spn.cs_one (x, n)) (by have := HML.out; unfold maxLen; omega) (by have := HML.out; omega) (by have := HB1.out.size; simp at this ⊢; omega) ?_; intro v1 w2 hown1 hg1 _))
            have R := Lib.hid (Spn.push_own (f := (x, n)) HO1.out HB1.out (Nat.le_refl _) hown1 hg1)
            clear hown1 hg1
            go_wp2
            go_roundw
            case rel => exact ⟨k + 1, by omega, by go_num, by rw [HM.out]; exact R.out.1, R.out.2⟩
            case measure => simp [intOf]; omega
          · rw [if_neg hpq, List.append_nil] at HM
            clear HOA HBA
            go_wp2
            go_roundw
            case rel => exact ⟨k + 1, by omega, by go_num, by rw [HM.out]; exact HO1.out, HB1.out⟩
            case measure => simp [intOf]; omega
        · clear hy
          have HO1 := Lib.hid (HOA.out.alloc (.cells #[.int .i64 (x), .int .i64 (n)] 47))
          have HB1 : Hid (Below w.heap.size w ((wr.alloc (.cells #[.int .i64 x, .int .i64 y] 40)).alloc (.cells #[.int .i64 (x), .int .i64 (n)] 47))) := Lib.hid (by have h9 := HBA.out; exact h9.alloc h9.size _)
          by_cases hpq : x < n
          · rw [if_pos hpq] at HM
            have HNW := Lib.hid (Rec.news ((wr.alloc (.cells #[.int .i64 x, .int .i64 y] 40)).alloc (.cells #[.int .i64 (x), .int .i64 (n)] 47)) [.int .i64 (x), .int .i64 (n)] 47)
            clear HOA HBA
            go_wp2_with (at_builtin; go_loud (refine wpList_append_own _ rfl (.tmp 56) (.tmp 58) 29 rfl w.heap.size 47 i0 (.agg #[.int .i64 0, .int .i64 0]) 2 16 Tryd.underlying29 hi hz0 hz1 hz2 rfl (by decide) _ _ _ rfl (HO1.out.alloc _) ⟨wr.heap.size + 1 + 1, 0, none⟩ 1 1 [.int .i64 (x), .int .i64 (n)] rfl rfl (by have h := HNW.out; rw [World.size_alloc, World.size_alloc] at h; exact h) (Spn.cs_one (x, n)) (by have := HML.out; unfold maxLen; omega) (by have := HML.out; omega) (by have := HB1.out.size; simp at this ⊢; omega) ?_; intro v1 w2 hown1 hg1 _))
            have R := Lib.hid (Spn.push_own (f := (x, n)) HO1.out HB1.out (Nat.le_refl _) hown1 hg1)
            clear hown1 hg1
            go_wp2
            go_roundw
            case rel => exact ⟨k + 1, by omega, by go_num, by rw [HM.out]; exact R.out.1, R.out.2⟩
            case measure => simp [intOf]; omega
          · rw [if_neg hpq, List.append_nil] at HM
            clear HOA HBA
            go_wp2
            go_roundw
            case rel => exact ⟨k + 1, by omega, by go_num, by rw [HM.out]; exact HO1.out, HB1.out⟩
            case measure => simp [intOf]; omega
end Go.Proofs.YtmdmckhlfcogfaaDoor.Rng
