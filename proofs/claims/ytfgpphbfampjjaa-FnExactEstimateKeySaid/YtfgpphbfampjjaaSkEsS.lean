/-
  CONTRACT of the model's EstimateKey; nothing that was there before is changed.
-/
import Derived.Test.YtfgpphbfampjjaaSkEst
namespace Go.Proofs.Ytfgpphbfampjjaa.Sk
open Go Go.RowKit
set_option linter.unusedVariables false

set_option maxRecDepth 1000000 in
set_option maxHeartbeats 4000000 in
theorem spec_est (u : Value) (zs : List Int) (n : Int) (s : List UInt8) (w : World) (h : Nums.Holds w u zs) (hl : zs.length ≤ 1048576) (hs : s.length ≤ 1048576) :
    Calls Try.prog 33 #[.agg #[u, .int .i64 n], .string ⟨s.toArray⟩] w (NumEnd (est zs n s) w) := by
  have HB0 := Lib.hid ((Below.refl w.heap.size w).alloc (Nat.le_refl _) (.cells #[u, .int .i64 n] 45))
  have HI := Lib.hid (spec_iss u zs n _ (Nums.holds_below h HB0.out) hl)
  have HK := Lib.hid (fun w1 => kept2 (w := w) (w1 := w1) (T := 45) (a := u) (b := .int .i64 n))
  have HC := Lib.hid (fun i hi W => text_hash_s i hi s W hs)
  obtain ⟨a, cap, rfl, ha⟩ := shape_n h
  have HA := Lib.hid ha
  unfold BoolEnd at HI
  clear ha h
  cases hok : skOk zs n with
  | false =>
    have HE := Lib.hid (est_bad (s := s) hok)
    rw [hok] at HI
    clear hok
    go_enter Try.func33, Try.ntmps33
    go_wp2_with (fail)
    go_at_call 25
    refine HI.out.mono ?_
    rintro e w1 ⟨rfl, hb1⟩
    obtain ⟨⟨x0, x1⟩, hbw⟩ := HK.out _ hb1
    have HBW := Lib.hid hbw
    clear hb1 hbw
    go_wp2
    go_ret
    exact ⟨ret_n HE.out.symm, HBW.out⟩
  | true =>
    rw [hok] at HI
    by_cases h0 : zs.length = 0
    · have HE := Lib.hid (est_nil (n := n) (s := s) h0)
      have q0 : ((zs.length : Int) == 0) = true := by rw [h0]; rfl
      clear hok h0
      go_enter Try.func33, Try.ntmps33
      go_wp2_with (fail)
      go_at_call 25
      refine HI.out.mono ?_
      rintro e w1 ⟨rfl, hb1⟩
      obtain ⟨⟨x0, x1⟩, hbw⟩ := HK.out _ hb1
      have HBW := Lib.hid hbw
      clear hb1 hbw
      go_wp2
      go_ret
      exact ⟨ret_n HE.out.symm, HBW.out⟩
    have HE := Lib.hid (est_ok (s := s) hok h0)
    have h64 := ok_len hok h0
    have q0 : ((zs.length : Int) == 0) = false := by rw [h64]; rfl
    have H64 := Lib.hid h64
    obtain ⟨b, off, rfl, hc⟩ := HA.out (by omega)
    have HC0 := Lib.hid hc
    have HBL := Lib.hid (Nums.at_lt hc (by omega))
    clear hok HA hc h64 h0
    go_enter Try.func33, Try.ntmps33
    go_wp2_with (fail)
    go_at_call 25
    refine HI.out.mono ?_
    rintro e w1 ⟨rfl, hb1⟩
    have HB1 := Lib.hid hb1
    obtain ⟨⟨x0, x1⟩, _⟩ := HK.out _ hb1
    clear hb1
    go_wp2
    go_loopw [5, 6] (fun m i wr => ∃ k : Nat, k ≤ 4 ∧ i = .int .i64 (k : Int) ∧ m = .int .i64 (ests zs s k) ∧ Hid (Below (w.alloc (.cells #[.slice (some ⟨b, off, none⟩) zs.length cap, .int .i64 n] 45)).heap.size (w.alloc (.cells #[.slice (some ⟨b, off, none⟩) zs.length cap, .int .i64 n] 45)) wr)) (fun _ i _ => 4 - (intOf i).toNat)
    case atStart => exact ⟨0, by omega, rfl, rfl, HB1⟩
    case round =>
      obtain ⟨k, hk, rfl, rfl, HBR⟩ := hrel
      clear x0 x1
      obtain ⟨⟨x0, x1⟩, hbw⟩ := HK.out _ HBR.out
      have HBW := Lib.hid hbw
      clear hbw
      by_cases hlt : k < 4
      · have hki : (k : Int) < 4 := by omega
        have hb := ix_bd k s
        have hh := Dg.hash_bd ((k : Int) :: Nums.bytes ⟨s.toArray⟩)
        have hxe : (k : Int) * 16 + Dg.hash ((k : Int) :: Nums.bytes ⟨s.toArray⟩) % 16 = ix k s := rfl
        have c0 := Nums.at_below HC0.out HBW.out HBL.out (ix k s).toNat (by have := H64.out; omega)
        have HM : Hid (ests zs s (k + 1) = min (ests zs s k) (zs.getD (ix k s).toNat 0)) := Lib.hid rfl
        have HCK := Lib.hid (HC.out k hlt)
        unfold Dg.Text at HCK
        generalize Dg.hash ((k : Int) :: Nums.bytes ⟨s.toArray⟩) = hv at hh hxe HCK
        obtain ⟨hh0, hh1⟩ := hh
        obtain ⟨z, hz⟩ : ∃ z, z = ix k s := ⟨_, rfl⟩
        rw [← hz] at hb c0 HM hxe
        clear hz
        obtain ⟨j, rfl⟩ : ∃ j : Nat, z = (j : Int) := ⟨z.toNat, by omega⟩
        rw [Int.toNat_natCast] at c0 HM
        generalize zs.getD j 0 = y at c0 HM
        have hj0 : (0 : Int) ≤ (j : Int) := by omega
        have hj1 : (j : Int) < (zs.length : Int) := by have := H64.out; omega
        generalize ests zs s k = m at HM ⊢
        have htm : hv.tmod 16 = hv % 16 := Int.tmod_eq_emod_of_nonneg hh0
        have hw0 : IntKind.i64.wrap ((k : Int) * 16) = (k : Int) * 16 := IntWalk.i64_in _ (by omega)
        have hw1 : IntKind.i64.wrap ((k : Int) * 16 + hv % 16) = (j : Int) := by rw [hxe]; exact IntWalk.i64_in _ (by omega)
        have hdz : wr.drew.heap.size = wr.heap.size := rfl
        have HS0 : Hid (GrowE w (.cells #[.slice (some ⟨b, off, none⟩) zs.length cap, .int .i64 n] 45) wr.drew) := Lib.hid (Rec.below_drew HBR.out)
        have SK : Hid (∀ w0 w1 : World, GrowE w (.cells #[.slice (some ⟨b, off, none⟩) zs.length cap, .int .i64 n] 45) w0 → Below w0.heap.size w0 w1 → GrowE w (.cells #[.slice (some ⟨b, off, none⟩) zs.length cap, .int .i64 n] 45) w1) := Lib.hid (fun _ _ h hb => grow_e h hb)
        have f0 : ∀ u : RegS.In (GrowE w (.cells #[.slice (some ⟨b, off, none⟩) zs.length cap, .int .i64 n] 45)), u.w.cell? ⟨w.heap.size, 0, none⟩ = some (.slice (some ⟨b, off, none⟩) zs.length cap) := fun u => (HK.out _ u.h).1.1
        have f1 : ∀ u : RegS.In (GrowE w (.cells #[.slice (some ⟨b, off, none⟩) zs.length cap, .int .i64 n] 45)), u.w.cell? ⟨b, off + j, none⟩ = some (.int .i64 y) := fun u => by
          have h1 := (HK.out _ u.h).2
          have h2 := HBW.out
          rw [h1.cell (p := ⟨b, off + j, none⟩) HBL.out, ← h2.cell (p := ⟨b, off + j, none⟩) HBL.out]
          exact c0
        have HMN := Lib.hid (fun W => Mm.spec_min m y W)
        clear HC x0 x1 c0
        go_wp2
        refine RegS.region (GrowE w (.cells #[.slice (some ⟨b, off, none⟩) zs.length cap, .int .i64 n] 45)) (by kernel_rfl) (by kernel_rfl) HS0.out ?_
        haveI : Nonempty (RegS.In (GrowE w (.cells #[.slice (some ⟨b, off, none⟩) zs.length cap, .int .i64 n] 45))) := ⟨⟨_, HS0.out⟩⟩
        repeat (first | go_big_quiet_step ((first | (go_at_call 55; with_reducible exact RegS.call (HCK.out _) (fun e w' he => ⟨he.1, SK.out _ _ (RegS.In.h _) he.2⟩)) | (go_at_call 61; with_reducible exact RegS.call (HMN.out _) (fun e w' he => ⟨he.1, he.2 ▸ RegS.In.h _⟩)))) | quiet_step ((first | (go_at_call 55; with_reducible exact RegS.call (HCK.out _) (fun e w' he => ⟨he.1, SK.out _ _ (RegS.In.h _) he.2⟩)) | (go_at_call 61; with_reducible exact RegS.call (HMN.out _) (fun e w' he => ⟨he.1, he.2 ▸ RegS.In.h _⟩)))))
        refine wpQuiet_nil ?_
        intro _ hw'
        obtain ⟨⟨wz, hS⟩, hw''⟩ := hw'
        subst hw''
        have HBB := Lib.hid hS
        clear hS
        go_wp2
        go_roundw
        case rel => exact ⟨k + 1, by omega, by go_num, by rw [HM.out], HBB⟩
        case measure => simp [intOf]; omega
      · have hk4 : k = 4 := by omega
        subst hk4
        go_wp2
        go_ret
        exact ⟨ret_n HE.out.symm, HBW.out⟩
end Go.Proofs.Ytfgpphbfampjjaa.Sk
