/-
  CONTRACTS of both sides' EstimateKey; nothing that was there before is changed.
-/
import Derived.Test.YtfgpphbfampjjaaSkCnt
import Derived.Test.YtfgpphbfampjjaaTextSpec
import Derived.Test.YtfgpphbfampjjaaMinI
import Derived.Test.YtfgpphbfampjjaaMinS
import Derived.Test.YtfgpphbfampjjaaRegS
namespace Go.Proofs.Ytfgpphbfampjjaa.Sk
open Go Go.RowKit
set_option linter.unusedVariables false

/-- The least of 64 and the counts of the first rows. -/
def ests (zs : List Int) (s : List UInt8) : Nat → Int
  | 0 => 64
  | k + 1 => min (ests zs s k) (zs.getD (ix k s).toNat 0)
def est (zs : List Int) (n : Int) (s : List UInt8) : Int := if skOk zs n = true ∧ zs.length ≠ 0 then ests zs s 4 else 0
def NumEnd (z : Int) (w : World) (e : Ending) (w' : World) : Prop := e = .returned (.int .i64 z) ∧ Below w.heap.size w w'
theorem ret_n {a b : Int} (h : a = b) : Ending.returned (.int .i64 a) = .returned (.int .i64 b) := by rw [h]
theorem est_bad {zs : List Int} {n : Int} {s : List UInt8} (h : skOk zs n = false) : est zs n s = 0 := by unfold est; rw [if_neg (by rw [h]; simp)]
theorem est_nil {zs : List Int} {n : Int} {s : List UInt8} (h : zs.length = 0) : est zs n s = 0 := by unfold est; rw [if_neg (by omega)]
theorem est_ok {zs : List Int} {n : Int} {s : List UInt8} (h : skOk zs n = true) (h0 : zs.length ≠ 0) : est zs n s = ests zs s 4 := by unfold est; rw [if_pos ⟨h, h0⟩]
theorem ok_len {zs : List Int} {n : Int} (h : skOk zs n = true) (h0 : zs.length ≠ 0) : zs.length = 64 := by
  unfold skOk at h; simp only [Bool.and_eq_true, Bool.or_eq_true, decide_eq_true_eq] at h
  omega
theorem kept2 {w w1 : World} {T : TypeId} {a b : Value} (hb : Below (w.alloc (.cells #[a, b] T)).heap.size (w.alloc (.cells #[a, b] T)) w1) :
    (w1.cell? ⟨w.heap.size, 0, none⟩ = some a ∧ w1.cell? ⟨w.heap.size, 1, none⟩ = some b) ∧ Below w.heap.size w w1 := by
  have h := Kept.one hb
  exact ⟨⟨h.1 0 _ rfl, h.1 1 _ rfl⟩, Kept.below_in hb⟩

theorem text_hash_s (i : Nat) (h : i < 4) (s : List UInt8) (W : World) (hl : s.length ≤ 1048576) : Calls Try.prog 55 #[.int .i64 (i : Int), .string ⟨s.toArray⟩] W (Dg.Text (i : Int) ⟨s.toArray⟩ W) :=
  Dg.spec_text (i : Int) ⟨s.toArray⟩ W (Go.WalkArith.wf_i64 ⟨by omega, by omega⟩) (by simpa [ByteArray.size] using hl)
/-- The class of worlds behind a box and what only makes memory. -/
def GrowE (w : World) (o : Obj) (w' : World) : Prop := Below (w.alloc o).heap.size (w.alloc o) w'
theorem grow_e {w w0 w1 : World} {o : Obj} (h : GrowE w o w0) (hb : Below w0.heap.size w0 w1) : GrowE w o w1 := h.trans (hb.mono h.size)
set_option maxRecDepth 1000000 in
set_option maxHeartbeats 4000000 in
theorem impl_est (u : Value) (zs : List Int) (n : Int) (s : List UInt8) (w : World) (h : Nums.Holds w u zs) (hl : zs.length ≤ 1048576) (hs : s.length ≤ 1048576) :
    Calls Try.prog 34 #[.agg #[u, .int .i64 n], .string ⟨s.toArray⟩] w (NumEnd (est zs n s) w) := by
  have HB0 := Lib.hid ((Below.refl w.heap.size w).alloc (Nat.le_refl _) (.cells #[u, .int .i64 n] 45))
  have HI := Lib.hid (impl_iss u zs n _ (Nums.holds_below h HB0.out) hl)
  have HK := Lib.hid (fun w1 => kept2 (w := w) (w1 := w1) (T := 45) (a := u) (b := .int .i64 n))
  have HC := Lib.hid (fun W => counts s W hs)
  obtain ⟨a, cap, rfl, ha⟩ := shape_n h
  have HA := Lib.hid ha
  unfold BoolEnd at HI
  clear ha h
  cases hok : skOk zs n with
  | false =>
    have HE := Lib.hid (est_bad (s := s) hok)
    rw [hok] at HI
    clear hok
    go_enter Try.func34, Try.ntmps34
    go_wp2_with (fail)
    go_at_call 27
    refine HI.out.mono ?_
    rintro e w1 ⟨rfl, hb1⟩
    obtain ⟨⟨x0, x1⟩, hbw⟩ := HK.out _ hb1
    have HBW := Lib.hid hbw
    clear hb1 hbw
    go_wp2
    go_ret
    exact ⟨ret_n HE.out.symm, HBW.out⟩
  | true =>
    rw [hok] at HI
    by_cases h0 : zs.length = 0
    · have HE := Lib.hid (est_nil (n := n) (s := s) h0)
      have q0 : ((zs.length : Int) == 0) = true := by rw [h0]; rfl
      clear hok h0
      go_enter Try.func34, Try.ntmps34
      go_wp2_with (fail)
      go_at_call 27
      refine HI.out.mono ?_
      rintro e w1 ⟨rfl, hb1⟩
      obtain ⟨⟨x0, x1⟩, hbw⟩ := HK.out _ hb1
      have HBW := Lib.hid hbw
      clear hb1 hbw
      go_wp2
      go_ret
      exact ⟨ret_n HE.out.symm, HBW.out⟩
    have HE := Lib.hid (est_ok (s := s) hok h0)
    have h64 := ok_len hok h0
    have q0 : ((zs.length : Int) == 0) = false := by rw [h64]; rfl
    have H64 := Lib.hid h64
    obtain ⟨b, off, rfl, hc⟩ := HA.out (by omega)
    have HC0 := Lib.hid hc
    have HBL := Lib.hid (Nums.at_lt hc (by omega))
    have hix : ∀ k : Nat, k < 4 → ∀ W : World, (Instr.index 88 (four fun j => ix j s) (.int .i64 (k : Int))).run Try.prog W = .ok (.int .i64 (ix k s)) W := fun k hk W => idx4 (fun j => ix j s) k hk W
    have HIX := Lib.hid hix
    clear hix hok HA hc h64 h0
    unfold four at HC HIX
    generalize hy0 : ix 0 s = y0 at HC HIX
    generalize hy1 : ix 1 s = y1 at HC HIX
    generalize hy2 : ix 2 s = y2 at HC HIX
    generalize hy3 : ix 3 s = y3 at HC HIX
    clear hy0 hy1 hy2 hy3
    go_enter Try.func34, Try.ntmps34
    go_wp2_with (fail)
    go_at_call 27
    refine HI.out.mono ?_
    rintro e w1 ⟨rfl, hb1⟩
    have HB1 := Lib.hid hb1
    obtain ⟨⟨x0, x1⟩, _⟩ := HK.out _ hb1
    clear hb1
    go_wp2_with (fail)
    go_at_call 57
    refine (HC.out _).mono ?_
    rintro e w2 ⟨rfl, hb2⟩
    have HB2 := Lib.hid (Base.then_below HB1.out hb2)
    clear hb2 x0 x1 HB1
    obtain ⟨⟨x0, x1⟩, hbw⟩ := HK.out _ HB2.out
    have HBW := Lib.hid hbw
    have HAT := Lib.hid (Nums.at_below HC0.out HBW.out HBL.out)
    clear hbw
    go_wp2
    go_loop [5, 19] (fun m i => ∃ k : Nat, k ≤ 4 ∧ i = .int .i64 (k : Int) ∧ m = .int .i64 (ests zs s k)) (fun _ i => 4 - (intOf i).toNat)
    case atStart => exact ⟨0, by omega, rfl, rfl⟩
    case round =>
      obtain ⟨k, hk, rfl, rfl⟩ := hrel
      by_cases hlt : k < 4
      · have hii := HIX.out k hlt
        have hki : (k : Int) < 4 := by omega
        have hb := ix_bd k s
        have c0 := HAT.out (ix k s).toNat (by have := H64.out; omega)
        have HM : Hid (ests zs s (k + 1) = min (ests zs s k) (zs.getD (ix k s).toNat 0)) := Lib.hid rfl
        obtain ⟨z, hz⟩ : ∃ z, z = ix k s := ⟨_, rfl⟩
        rw [← hz] at hii hb c0 HM
        clear hz
        obtain ⟨j, rfl⟩ : ∃ j : Nat, z = (j : Int) := ⟨z.toNat, by omega⟩
        rw [Int.toNat_natCast] at c0 HM
        generalize zs.getD j 0 = y at c0 HM
        have hj0 : (0 : Int) ≤ (j : Int) := by omega
        have hj1 : (j : Int) < (zs.length : Int) := by have := H64.out; omega
        generalize ests zs s k = m at HM ⊢
        clear HIX
        go_wp2_with (fail)
        go_at_call 62
        refine (Mm.impl_min _ _ _).mono ?_
        rintro e w3 ⟨rfl, rfl⟩
        go_wp2
        go_round
        case rel => exact ⟨k + 1, by omega, by go_num, by rw [HM.out]⟩
        case measure => simp [intOf]; omega
      · have hk4 : k = 4 := by omega
        subst hk4
        go_wp2
        go_ret
        exact ⟨ret_n HE.out.symm, HBW.out⟩

end Go.Proofs.Ytfgpphbfampjjaa.Sk
