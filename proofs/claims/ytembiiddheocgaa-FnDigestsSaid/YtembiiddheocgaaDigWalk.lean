/-
  THE WALK of the law of chapter 2.
-/
import Derived.Test.YtembiiddheocgaaBase
import Derived.Test.YtembiiddheocgaaDrawHash
import Derived.Test.YtembiiddheocgaaHashImpl
import Derived.Test.YtembiiddheocgaaTextImpl
import Derived.Test.YtembiiddheocgaaHexImpl
namespace Go.Proofs.Ytembiiddheocgaa.fnDigests
open Go Go.RowKit
set_option linter.unusedVariables false

theorem at_of_own {w : World} {base : Nat} {e : TypeId} {g cap n : Nat} {l : List Int} (h : w.ownsRow base e 1 (.slice (some ⟨g, 0, none⟩) n cap) n (l.map (Value.int .i64))) : Nums.At w g 0 l := fun j hj => by
  have hn : l.length = n := by simpa using h.1
  rw [Nat.zero_add]; exact Nums.own_cell h (by omega)
theorem five_at (w : World) : Nums.At (w.alloc (.cells #[.int .i64 5] 3)) w.heap.size 0 [5] := by
  intro j hj
  have : j = 0 := by simpa using hj
  subst this
  rw [World.cell?_alloc_new]; rfl
theorem wf_five {l : List Int} (h : Nums.Wf l) : Nums.Wf (l ++ [5]) := by
  intro n hn
  rcases List.mem_append.1 hn with hn | hn
  · exact h n hn
  · simp at hn; subst hn; decide
theorem hash_five (l : List Int) : Dg.hash (l ++ [5]) = (Dg.hash l * 1000003 + 24) % 2147483647 := by
  rw [Dg.hash_more]; unfold Dg.stp; omega
def Eight (w : World) (e : Ending) (w' : World) : Prop := ∃ t : ByteArray, e = .returned (.string t) ∧ (t.size : Int) = 8 ∧ Below w.heap.size w w'
theorem hex_len (z : Int) (w : World) (h0 : 0 ≤ z) (h1 : z ≤ 2147483647) : Calls Try.prog 13 #[.int .i64 z] w (Eight w) := by
  obtain ⟨n, rfl⟩ : ∃ n : Nat, z = n := ⟨z.toNat, by omega⟩
  refine (Hex.impl_in n w h1).mono ?_
  rintro e w' ⟨rfl, hb⟩
  exact ⟨_, rfl, by simp [ByteArray.size, Hex.hx_len], hb⟩

set_option maxHeartbeats 4000000 in
theorem walk (b0 : Option Addr) (l0 c0 : Nat) (w0 : l0 ≤ maxLen) (w : World) (y0 : l0 ≤ 1048576 → Cur.Bytes w w.heap.size (.slice b0 l0 c0)) :
    Calls Try.prog 3 #[.slice b0 l0 c0] w fun e w' => e = .returned (.bool true) ∧ Below w.heap.size w w' := by
  clear w0
  by_cases hbig : 1048576 < (l0 : Int)
  · go_enter Try.func3, Try.ntmps3
    go_wp2_with (go_at_call 7; refine (Cur.big_yes _ _ _ _ hbig).mono ?_; rintro e w' ⟨rfl, rfl⟩)
    go_ret
    exact ⟨rfl, Below.refl _ _⟩
  have hby := y0 (by omega)
  clear y0
  obtain ⟨i0, hi, hz0, hz1, hz2⟩ := info_parts Nums.info_int
  go_enter Try.func3, Try.ntmps3
  go_wp2_with (fail)
  go_at_call 7
  refine (Cur.big_no _ _ _ _ (by omega)).mono ?_
  rintro e w' ⟨rfl, rfl⟩
  go_wp2_with (fail)
  go_at_call 8
  refine (Cur.draw_hash _ _ _ hby (Nat.le_refl _)).mono ?_
  rintro e w1 ⟨g, cap, l, rfl, hll, hfit, hown, hb1⟩
  have hat := at_of_own hown
  have hlt := (hown.lt g rfl).2
  have hwf := Cur.fit_wf hfit
  have hho := Nums.own_holds hown
  clear hfit hown
  have HW := Lib.hid hwf
  have HA := Lib.hid hat
  clear hwf hat
  go_wp2_with (fail)
  go_at_call 9
  refine (Dg.impl_hash _ l _ hho HW.out (by omega)).mono ?_
  rintro e w' ⟨rfl, rfl⟩
  clear hho
  go_wp2_with (fail)
  go_at_call 10
  refine (Cur.draw_text _ _ _ (Cur.bytes_below hby hb1) hb1.size).mono ?_
  rintro e w2 ⟨x, s, hx, hs, rfl, k2⟩
  have hb2 := Base.then_below hb1 k2
  have hat2 := Nums.at_below HA.out k2 hlt
  have hlt2 := Nat.lt_of_lt_of_le hlt k2.size
  have HA2 := Lib.hid hat2
  have hO : (w2.alloc (.cells #[.int .i64 x] 3)).ownsRow w2.heap.size 3 1 (.slice (some ⟨w2.heap.size, 0, none⟩) 1 1) 1 [.int .i64 x] := World.ownsRow_lit w2 #[.int .i64 x] 1 (Nat.le_refl _) (by decide) rfl
  have HO := Lib.hid hO
  clear hO hat2 k2 HA hb1 hlt
  go_wp2
  go_loopw [7, 8] (fun v i wr => ∃ k : Nat, k ≤ s.size ∧ i = .int .i64 k ∧ wr.ownsRow w2.heap.size 3 1 v (Nums.txt x s k).length ((Nums.txt x s k).map (Value.int .i64)) ∧ Below w2.heap.size w2 wr)
    (fun _ i _ => s.size - (intOf i).toNat)
  case atStart => exact ⟨0, Nat.zero_le _, rfl, by rw [Nums.txt_zero]; exact HO.out, (Below.refl _ _).alloc (Nat.le_refl _) _⟩
  case round =>
    clear HO
    obtain ⟨k, hk, rfl, hown, hb⟩ := hrel
    by_cases hlt : k < s.size
    · have hub : (s[k].toNat : Int) ≤ 255 := by have := s[k].toNat_lt; omega
      have hub0 : 0 ≤ (s[k].toNat : Int) := by omega
      have HL := Lib.hid (Nums.txt_len (z := x) hk)
      have HS := Lib.hid (Nums.txt_more (z := x) hlt)
      go_wp2_with (at_builtin; refine wpList_append_own _ rfl _ _ 24 rfl w2.heap.size 3 i0 (.int .i64 0) 1 8 Try.underlying24 hi hz0 hz1 hz2 rfl (by decide) _ _ _ rfl (hown.alloc _) ⟨wr.heap.size, 0, none⟩ 1 1 [.int .i64 (s[k].toNat : Int)] rfl rfl (Nums.news_one _ _ _) (Nums.one_cell _ _) (by have := HL.out; unfold maxLen; omega) (by have := HL.out; omega) (by have := hb.size; simp; omega) ?_; intro v' w1 hown' hgrow _)
      have R := Lib.hid (Nums.push_own hown hb (Nat.le_refl _) hown' hgrow)
      clear hown hown' hgrow hb
      go_wp2
      go_roundw
      case rel => exact ⟨k + 1, by omega, by go_num, by rw [HS.out]; exact R.out.1, R.out.2⟩
      case measure => simp [intOf]; omega
    · have HT := Nums.txt_all x s (show k = s.size by omega)
      rw [HT] at hown
      have HL := Lib.hid (Nums.text_len x s)
      obtain ⟨d0, d1⟩ := Dg.hash_bd l
      have hatr := Nums.at_below HA2.out hb hlt2
      have hho := Nums.own_holds hown
      have hbr := hb2.trans (hb.mono hb2.size)
      have hO1 : (wr.alloc (.cells #[] 3)).ownsRow wr.heap.size 3 1 (.slice (some ⟨wr.heap.size, 0, none⟩) 0 0) 0 (([] : List Int).map (Value.int .i64)) := World.ownsRow_lit wr #[] 0 (Nat.le_refl _) (by decide) rfl
      have hnw := Nums.at_below hatr ((Below.refl wr.heap.size wr).alloc (Nat.le_refl _) (.cells #[] 3)) (Nat.lt_of_lt_of_le hlt2 hb.size)
      have H1 := Lib.hid (And.intro hO1 hnw)
      have HB := Lib.hid (And.intro hho hbr)
      clear HT hown hho hbr hO1 hnw hatr
      go_wp2_with (first
        | (at_builtin; refine Nums.ints_on _ (p := .tmp 42) (q := .tmp 43) rfl rfl (B := wr.heap.size) (g := g) (m := l.length) (c := cap) (v := .slice (some ⟨wr.heap.size, 0, none⟩) 0 0) (xs := []) (ys := l) rfl H1.out.1 rfl rfl H1.out.2 (by simp; omega) (by simp) ?_; intro v1 W1 hown1 hg1)
        | (at_builtin; refine Nums.ints_on _ (p := .tmp 44) (q := .tmp 45) rfl rfl (B := wr.heap.size) (g := W1.heap.size) (m := 1) (c := 1) (v := v1) (xs := l) (ys := [5]) rfl ((by simpa using hown1 : W1.ownsRow wr.heap.size 3 1 v1 l.length (l.map (Value.int .i64))).alloc _) rfl rfl (five_at W1) (by omega) (by have := hg1.size; simp at *; omega) ?_; intro v2 W2 hown2 hg2))
      have hk1 : Below wr.heap.size wr W1 := ((Below.refl _ _).alloc (Nat.le_refl _) _).grown hg1 (by simp) (fun k e => by simp [Value.ownBlock] at e; omega)
      have hk2 := Nums.push_own (a := wr) (xs := l) (by simpa using hown1) hk1 (Nat.le_refl _) (by simpa using hown2) hg2
      have hh2 := Nums.own_holds hk2.1
      have hx2 := Lib.hid (Nums.holds_below HB.out.1 hk2.2)
      have hbr2 := HB.out.2.trans (hk2.2.mono HB.out.2.size)
      have c1 := Dg.impl_hash v2 (l ++ [5]) W2 hh2 (wf_five HW.out) (by simp; omega)
      rw [hash_five] at c1
      clear hown1 hg1 hown2 hg2 hk1 hk2 hh2 H1 HB
      refine c1.mono ?_
      rintro e w' ⟨rfl, rfl⟩
      clear c1
      have c2 := NumDiv.impl_mod (Dg.hash l * 1000003 + 24) 2147483647 W2 (Go.WalkArith.wf_i64 ⟨by omega, by omega⟩) (by decide)
      rw [NumDiv.md_in (by omega) (by omega)] at c2
      go_wp2_with (fail)
      go_at_call 11
      refine c2.mono ?_
      rintro e w' ⟨rfl, rfl⟩
      clear c2
      go_wp2_with (fail)
      go_at_call 12
      refine (Dg.impl_text x s _ (Go.WalkArith.wf_i64 hx) (by omega)).mono ?_
      rintro e w3 ⟨rfl, k3⟩
      have hx3 := Nums.holds_below hx2.out k3
      have hb3 := Base.then_below hbr2 k3
      go_wp2_with (fail)
      go_at_call 9
      refine (Dg.impl_hash _ (x :: Nums.bytes s) _ hx3 (Nums.text_wf s (Go.WalkArith.wf_i64 hx)) (by have := HL.out; omega)).mono ?_
      rintro e w' ⟨rfl, rfl⟩
      clear hx3 k3 hbr2
      go_wp2_with (fail)
      go_at_call 13
      refine (hex_len (Dg.hash l) _ d0 (by omega)).mono ?_
      rintro e w4 ⟨t, rfl, ht, k4⟩
      have HE := Lib.hid (Base.then_below hb3 k4)
      clear k4 hb3
      go_wp2
      go_ret
      exact ⟨rfl, HE.out⟩
end Go.Proofs.Ytembiiddheocgaa.fnDigests
