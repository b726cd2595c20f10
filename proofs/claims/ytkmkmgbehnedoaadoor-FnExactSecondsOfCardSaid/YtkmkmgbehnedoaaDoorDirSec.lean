/-
  CONTRACTS of SecondsOf, the model's and the program's: the seconds that the first directive with a name has as its value; nothing that was there before is changed.
-/
import Derived.Test.YtkmkmgbehnedoaaDoorDirSecM
import Derived.Test.YtkmkmgbehnedoaaDoorMinI
import Derived.Test.YtkmkmgbehnedoaaDoorMinS
import Derived.Test.YtkmkmgbehnedoaaDoorTok
import Derived.Test.YtkmkmgbehnedoaaDoorShelf
import Derived.LoopTactic
import Derived.Outline
namespace Go.Proofs.YtkmkmgbehnedoaaDoor.Dir
open Go Go.RowKit
set_option linter.unusedVariables false

theorem str_empty {z : ByteArray} (h : z.data.toList = []) : z = ⟨#[]⟩ := by
  have : z.data = #[] := by simpa using h
  exact ByteArray.ext this
theorem dg_range {c : UInt8} (h : dg c = true) : (48 : Int) ≤ (c.toNat : Int) ∧ (c.toNat : Int) ≤ 57 := by
  have : 48 ≤ c.toNat ∧ c.toNat ≤ 57 := by simpa [dg] using h
  omega
theorem dg_out {c : UInt8} (h : dg c = false) : decide ((48 : Int) ≤ (c.toNat : Int) ∧ (c.toNat : Int) ≤ 57) = false := by
  have : ¬ (48 ≤ c.toNat ∧ c.toNat ≤ 57) := by simpa [dg] using h
  simp; omega
theorem dg_in {c : UInt8} (h : dg c = true) : decide ((48 : Int) ≤ (c.toNat : Int) ∧ (c.toNat : Int) ≤ 57) = true := by
  have := dg_range h; simp; omega

set_option maxHeartbeats 1000000 in
theorem read_seconds (s : ByteArray) (w : World) (hs : s.size ≤ 1048576) :
    Calls Tryd.prog 108 #[.string s] w fun e w' => e = .returned (.int .i64 (secs s.data.toList)) ∧ Below w.heap.size w w' := by
  have hcon := Tryd.strings_Trim_laid s ⟨#[48, 49, 50, 51, 52, 53, 54, 55, 56, 57]⟩ w (Nat.le_trans hs (by decide)) (by decide) (ascii_of_all (by decide))
  change Calls Tryd.prog 137 _ _ (fun e w' => e = .returned (.string ⟨(Lib.trimS s.data.toList digs).toArray⟩) ∧ Below w.heap.size w w') at hcon
  rcases ha : s.data.toList.all dg with _ | _
  · have hne : Lib.trimS s.data.toList digs ≠ [] := by
      intro e; rw [(trim_digs _).1 e] at ha; cases ha
    have HE := Lib.hid (secs_no ha)
    generalize Lib.trimS s.data.toList digs = t at hcon hne
    obtain ⟨c, r, rfl⟩ := List.exists_cons_of_ne_nil hne
    clear hne ha
    go_enter Tryd.func108, Tryd.ntmps108
    go_wp2_with (fail)
    go_at_call 137
    refine hcon.mono ?_
    rintro e w1 ⟨rfl, hb1⟩
    have HB := Lib.hid hb1
    clear hb1
    go_wp2
    go_ret
    exact ⟨ret_int HE.out.symm, HB.out⟩
  · rw [(trim_digs _).2 ha] at hcon
    have HE := Lib.hid (secs_all ha)
    have HA := Lib.hid ha
    clear ha
    go_enter Tryd.func108, Tryd.ntmps108
    go_wp2_with (fail)
    go_at_call 137
    refine hcon.mono ?_
    rintro e w1 ⟨rfl, hb1⟩
    have HB := Lib.hid hb1
    clear hb1 hcon
    go_wp2
    go_loop [3, 10] (fun n i => ∃ k : Nat, k ≤ s.size ∧ i = .int .i64 (k : Int) ∧ n = .int .i64 (srun (s.data.toList.take k))) (fun _ i => s.size - (intOf i).toNat)
    case atStart => exact ⟨0, Nat.zero_le _, rfl, rfl⟩
    case round =>
      obtain ⟨k, hk, rfl, rfl⟩ := hrel
      by_cases hlt : k < s.size
      · have hpre : (s.data.toList.take k).all dg = true := by
          rw [List.all_eq_true]; intro x hx; exact List.all_eq_true.1 HA.out x (List.mem_of_mem_take hx)
        have hbd := srun_bd _ hpre
        have hc : dg s[k] = true := by
          have hm : s[k] ∈ s.data.toList := by
            have : s[k] = s.data.toList[k]'(by rw [Array.length_toList]; exact hlt) := rfl
            rw [this]; exact List.getElem_mem _
          exact List.all_eq_true.1 HA.out _ hm
        have hcr := dg_range hc
        have HM : Hid (srun (s.data.toList.take (k + 1)) = sst (srun (s.data.toList.take k)) s[k]) := Lib.hid (by rw [Tx.take_snoc s k hlt, srun_more])
        clear hpre hc
        generalize srun (s.data.toList.take k) = n at hbd HM
        obtain ⟨n1, n2⟩ := hbd
        obtain ⟨r1, r2⟩ := hcr
        go_wp2_with (fail)
        go_at_call 117
        refine (Mm.impl_min _ _ _).mono ?_
        rintro e w2 ⟨rfl, rfl⟩
        go_wp2
        go_round
        case rel => exact ⟨k + 1, by omega, by go_num, by rw [HM.out]; rfl⟩
        case measure => simp [intOf]; omega
      · go_wp2
        go_ret
        exact ⟨ret_int (by rw [HE.out, List.take_of_length_le (by rw [Tx.list_len]; omega)]), HB.out⟩

theorem holds_shape {w : World} {B : Nat} {v : Value} {l : List T} (h : Holds w B v l) : ∃ a cap, v = .slice a l.length cap ∧ (0 < l.length → ∃ b off, a = some ⟨b, off, none⟩ ∧ b < B ∧ l.length ≤ cap ∧ At w b off l) := by
  rcases h with ⟨rfl, a, cap, rfl⟩ | ⟨h0, b, off, cap, rfl, hb, hcap, hc⟩
  · exact ⟨a, cap, rfl, fun h => by simp at h⟩
  · exact ⟨_, cap, rfl, fun _ => ⟨b, off, rfl, hb, hcap, hc⟩⟩

set_option maxHeartbeats 1000000 in
theorem impl_sec (v : Value) (B : Nat) (l : List T) (n : List UInt8) (w : World) (h : Holds w B v l) (hB : B ≤ w.heap.size) (hl : l.length ≤ 4194304) (hx : ∀ d ∈ l, d.2.1.length ≤ 1048576) :
    Calls Tryd.prog 46 #[v, .string ⟨n.toArray⟩] w (SecEnd n l w) := by
  have HH := Lib.hid (impl_find _ B l n w h hl)
  unfold FindEnd at HH
  unfold SecEnd
  obtain ⟨a, cap, rfl, ha⟩ := holds_shape h
  have HA := Lib.hid ha
  clear ha h
  rcases at1_cases n l with h1 | ⟨k, hk, h1⟩
  · have HS := Lib.hid (sof_no h1)
    rw [h1] at HH
    rw [HS.out]
    clear h1
    go_enter Tryd.func46, Tryd.ntmps46
    go_wp2_with (fail)
    go_at_call 106
    refine HH.out.mono ?_
    rintro e w1 ⟨rfl, hb⟩
    have HB := Lib.hid hb
    clear hb
    go_wp2
    go_ret2
    exact ⟨rfl, HB.out⟩
  · have HS := Lib.hid (sof_at h1)
    rw [h1] at HH
    rw [HS.out]
    obtain ⟨b, off, rfl, hbw, hcap, hc⟩ := HA.out (by omega)
    have HX : Hid ((l.getD k nov).2.1.length ≤ 1048576) := Lib.hid (hx _ (Rec.getD_mem hk))
    have HC := Lib.hid (And.intro hc (Nat.lt_of_lt_of_le hbw hB))
    obtain ⟨y, hy⟩ : ∃ y, y = (l.getD k nov).2.1 := ⟨_, rfl⟩
    rw [← hy] at HX ⊢
    have HY := Lib.hid hy
    clear h1 hx hc hbw hy
    go_enter Tryd.func46, Tryd.ntmps46
    go_wp2_with (fail)
    go_at_call 106
    refine HH.out.mono ?_
    rintro e w1 ⟨rfl, hb⟩
    obtain ⟨c0, c1, c2⟩ := at_cells (at_below HC.out.1 hb HC.out.2) hk
    have HB := Lib.hid hb
    rw [← HY.out] at c1
    clear hb c0 c2
    have HR := Lib.hid (read_seconds ⟨y.toArray⟩ w1 (by simp [ByteArray.size]; exact HX.out))
    simp only at HR
    go_wp2_with (fail)
    go_at_call 108
    refine HR.out.mono ?_
    rintro e w2 ⟨rfl, hb⟩
    have HB2 := Lib.hid (Base.then_below HB.out hb)
    clear hb
    go_wp2
    go_ret2
    exact ⟨rfl, HB2.out⟩

theorem ret_sec {a b : Int} (h : a = b) : Ending.returned (.tuple #[.int .i64 a, .bool true]) = .returned (.tuple #[.int .i64 b, .bool true]) := by rw [h]

set_option maxHeartbeats 1000000 in
theorem spec_sec (v : Value) (B : Nat) (l : List T) (n : List UInt8) (w : World) (h : Holds w B v l) (hB : B ≤ w.heap.size) (hl : l.length ≤ 4194304) (hx : ∀ d ∈ l, d.2.1.length ≤ 1048576) :
    Calls Tryd.prog 51 #[v, .string ⟨n.toArray⟩] w (SecEnd n l w) := by
  have HH := Lib.hid (spec_find _ B l n w h hl)
  unfold FindEnd at HH
  unfold SecEnd
  obtain ⟨a, cap, rfl, ha⟩ := holds_shape h
  have HA := Lib.hid ha
  clear ha h
  rcases at1_cases n l with h1 | ⟨k, hk, h1⟩
  · have HS := Lib.hid (sof_no h1)
    rw [h1] at HH
    rw [HS.out]
    clear h1
    go_enter Tryd.func51, Tryd.ntmps51
    go_wp2_with (fail)
    go_at_call 111
    refine HH.out.mono ?_
    rintro e w1 ⟨rfl, hb⟩
    have HB := Lib.hid hb
    clear hb
    go_wp2
    go_ret2
    exact ⟨rfl, HB.out⟩
  · have HS := Lib.hid (sof_at h1)
    rw [h1] at HH
    rw [HS.out]
    obtain ⟨b, off, rfl, hbw, hcap, hc⟩ := HA.out (by omega)
    have HX : Hid ((l.getD k nov).2.1.length ≤ 1048576) := Lib.hid (hx _ (Rec.getD_mem hk))
    have HC := Lib.hid (And.intro hc (Nat.lt_of_lt_of_le hbw hB))
    obtain ⟨s, hsy⟩ : ∃ s : ByteArray, s = ⟨((l.getD k nov).2.1).toArray⟩ := ⟨_, rfl⟩
    have hsl : (l.getD k nov).2.1 = s.data.toList := by rw [hsy]
    have hs : s.size ≤ 1048576 := by rw [hsy]; simp [ByteArray.size]; exact HX.out
    rw [hsl]
    have HY := Lib.hid hsy
    clear h1 hx hc hbw hsl hsy
    go_enter Tryd.func51, Tryd.ntmps51
    go_wp2_with (fail)
    go_at_call 111
    refine HH.out.mono ?_
    rintro e w1 ⟨rfl, hb⟩
    obtain ⟨c0, c1, c2⟩ := at_cells (at_below HC.out.1 hb HC.out.2) hk
    have HB := Lib.hid hb
    clear hb c0 c2
    rw [← HY.out] at c1
    have HZ0 : Hid ((s.data.toList.take 0).all dg = true) := Lib.hid (by rw [List.take_zero]; rfl)
    go_wp2
    go_loop [7, 9] (fun m i => ∃ q : Nat, q ≤ s.size ∧ i = .int .i64 (q : Int) ∧ m = .int .i64 (srun (s.data.toList.take q)) ∧ Hid ((s.data.toList.take q).all dg = true)) (fun _ i => s.size - (intOf i).toNat)
    case atStart => exact ⟨0, Nat.zero_le _, rfl, rfl, HZ0⟩
    case round =>
      obtain ⟨q, hq, rfl, rfl, HP⟩ := hrel
      by_cases hlt : q < s.size
      · have hbd := srun_bd _ HP.out
        have HI := Lib.hid (fun W => Tx.in_byte s[q] 48 57 W)
        have h255 : (s[q].toNat : Int) ≤ 255 := by have := s[q].toNat_lt; omega
        rcases hcd : dg s[q] with _ | _
        · have HD := Lib.hid (dg_out hcd)
          have HN := Lib.hid (secs_no (not_dg hlt hcd))
          clear hcd hbd
          go_wp2_with (fail)
          go_at_call 64
          refine (HI.out _).mono ?_
          rintro e w2 ⟨he, rfl⟩
          rw [HD.out] at he
          subst he
          go_wp2
          go_ret2
          exact ⟨ret_sec HN.out.symm, HB.out⟩
        · have HD := Lib.hid (dg_in hcd)
          have hcr := dg_range hcd
          have HP2 := Lib.hid (take_dg hlt HP.out hcd)
          have HM : Hid (srun (s.data.toList.take (q + 1)) = sst (srun (s.data.toList.take q)) s[q]) := Lib.hid (by rw [Tx.take_snoc s q hlt, srun_more])
          clear hcd
          generalize srun (s.data.toList.take q) = m at hbd HM
          obtain ⟨n1, n2⟩ := hbd
          obtain ⟨r1, r2⟩ := hcr
          go_wp2_with (fail)
          go_at_call 64
          refine (HI.out _).mono ?_
          rintro e w2 ⟨he, rfl⟩
          rw [HD.out] at he
          subst he
          go_wp2_with (fail)
          go_at_call 112
          refine (Mm.spec_min _ _ _).mono ?_
          rintro e w2 ⟨rfl, rfl⟩
          go_wp2
          go_round
          case rel => exact ⟨q + 1, by omega, by go_num, by rw [HM.out]; unfold sst; rw [Int.min_comm], HP2⟩
          case measure => simp [intOf]; omega
      · have hpa : s.data.toList.all dg = true := by
          have := HP.out; rwa [List.take_of_length_le (by rw [Tx.list_len]; omega)] at this
        have HE := Lib.hid (secs_all hpa)
        clear hpa
        go_wp2
        go_ret2
        exact ⟨ret_sec (by rw [HE.out, List.take_of_length_le (by rw [Tx.list_len]; omega)]), HB.out⟩
end Go.Proofs.YtkmkmgbehnedoaaDoor.Dir
