/-
  CONTRACTS of both sides' VersionAt; nothing that was there before is changed.
-/
import Derived.Test.YtoledhjjbneggaaVer
import Derived.Test.YtoledhjjbneggaaKept
import Derived.LoopTactic
import Derived.Outline
namespace Go.Proofs.Ytoledhjjbneggaa.Ver
open Go Go.RowKit
set_option linter.unusedVariables false

/-- The last version of the first k whose time has come; -1 if there is none. -/
def vatk (t : Int) (l : List T) : Nat → Int
  | 0 => -1
  | k + 1 => if (l.getD k nov).1 ≤ t then (k : Int) else vatk t l k
def vat (t : Int) (l : List T) : Int := vatk t l l.length
theorem vatk_bd (t : Int) (l : List T) : ∀ k : Nat, -1 ≤ vatk t l k ∧ vatk t l k < (k : Int) + 1
  | 0 => by simp [vatk]
  | k + 1 => by have := vatk_bd t l k; unfold vatk; split <;> omega
def IntEnd (z : Int) (w : World) (e : Ending) (w' : World) : Prop := e = .returned (.int .i64 z) ∧ Below w.heap.size w w'
theorem ret_z {a b : Int} (h : a = b) : Ending.returned (.int .i64 a) = .returned (.int .i64 b) := by rw [h]
theorem ver_shape {w : World} {B : Nat} {v : Value} {l : List T} (h : Holds w B v l) : ∃ a cap, v = .slice a l.length cap ∧ (0 < l.length → ∃ b off, a = some ⟨b, off, none⟩ ∧ b < B ∧ At w b off l) := by
  rcases holds_iff h with ⟨rfl, a, cap, rfl⟩ | ⟨h0, b, off, cap, rfl, hb, _, hc⟩
  · exact ⟨a, cap, rfl, fun h => by simp at h⟩
  · exact ⟨_, cap, rfl, fun _ => ⟨b, off, rfl, hb, hc⟩⟩

set_option maxHeartbeats 2000000 in
theorem spec_vat (x c k : List UInt8) (p : Bool) (u v : Value) (l : List T) (t : Int) (B : Nat) (w : World) (h : Holds w B v l) (hB : B ≤ w.heap.size) (hl : l.length ≤ 1048576) :
    Calls Try.prog 24 #[.agg #[.string ⟨x.toArray⟩, .string ⟨c.toArray⟩, .string ⟨k.toArray⟩, .bool p, u, v], .int .i64 t] w (IntEnd (vat t l) w) := by
  have HB0 : Hid (Below w.heap.size w (w.alloc (.cells #[.string ⟨x.toArray⟩, .string ⟨c.toArray⟩, .string ⟨k.toArray⟩, .bool p, u, v] 39))) := Lib.hid ((Below.refl _ _).alloc (Nat.le_refl _) _)
  have hk1 := Kept.one (Below.refl _ (w.alloc (.cells #[.string ⟨x.toArray⟩, .string ⟨c.toArray⟩, .string ⟨k.toArray⟩, .bool p, u, v] 39)))
  have c5 := hk1.1 5 _ rfl
  obtain ⟨a, cap, rfl, hat⟩ := ver_shape h
  have HAT := Lib.hid hat
  clear hat h hk1
  unfold IntEnd
  go_enter Try.func24, Try.ntmps24
  go_wp2
  go_loop [5, 6] (fun n i => ∃ j : Nat, j ≤ l.length ∧ i = .int .i64 j ∧ n = .int .i64 (vatk t l j)) (fun _ i => l.length - (intOf i).toNat)
  case atStart => exact ⟨0, Nat.zero_le _, rfl, rfl⟩
  case round =>
    obtain ⟨j, hj, rfl, rfl⟩ := hrel
    by_cases hlt : j < l.length
    · obtain ⟨b, off, rfl, hbB, hc⟩ := HAT.out (by omega)
      obtain ⟨d0, d1, d2⟩ := at_cells (at_below hc HB0.out (Nat.lt_of_lt_of_le hbB hB)) hlt
      have HM : Hid (vatk t l (j + 1) = if (l.getD j nov).1 ≤ t then (j : Int) else vatk t l j) := Lib.hid rfl
      generalize l.getD j nov = f at d0 d1 d2 HM
      obtain ⟨f0, f1, f2⟩ := f
      dsimp only at d0 d1 d2 HM
      have hji : (j : Int) < (l.length : Int) := by omega
      have hbd := vatk_bd t l j
      clear hc
      by_cases hle : f0 ≤ t
      · rw [if_pos hle] at HM
        go_wp2
        go_round
        case rel => exact ⟨j + 1, by omega, by go_num, by rw [HM.out]⟩
        case measure => simp [intOf]; omega
      · rw [if_neg hle] at HM
        go_wp2
        go_round
        case rel => exact ⟨j + 1, by omega, by go_num, by rw [HM.out]⟩
        case measure => simp [intOf]; omega
    · have HE : Hid (vatk t l j = vat t l) := Lib.hid (by unfold vat; congr 1; omega)
      have hji : ¬ (j : Int) < (l.length : Int) := by omega
      go_wp2
      go_ret
      exact ⟨ret_z HE.out, HB0.out⟩

set_option maxHeartbeats 2000000 in
theorem impl_vat (x c k : List UInt8) (p : Bool) (u v : Value) (l : List T) (t : Int) (B : Nat) (w : World) (h : Holds w B v l) (hB : B ≤ w.heap.size) (hl : l.length ≤ 1048576) :
    Calls Try.prog 25 #[.agg #[.string ⟨x.toArray⟩, .string ⟨c.toArray⟩, .string ⟨k.toArray⟩, .bool p, u, v], .int .i64 t] w (IntEnd (vat t l) w) := by
  have HB0 : Hid (Below w.heap.size w (w.alloc (.cells #[.string ⟨x.toArray⟩, .string ⟨c.toArray⟩, .string ⟨k.toArray⟩, .bool p, u, v] 39))) := Lib.hid ((Below.refl _ _).alloc (Nat.le_refl _) _)
  have hk1 := Kept.one (Below.refl _ (w.alloc (.cells #[.string ⟨x.toArray⟩, .string ⟨c.toArray⟩, .string ⟨k.toArray⟩, .bool p, u, v] 39)))
  have c5 := hk1.1 5 _ rfl
  obtain ⟨a, cap, rfl, hat⟩ := ver_shape h
  have HAT := Lib.hid hat
  clear hat h hk1
  unfold IntEnd
  go_enter Try.func25, Try.ntmps25
  go_wp2
  go_loopw [5, 6, 11] (fun n _ i wr => ∃ j : Nat, j ≤ l.length ∧ i = .int .i64 j ∧ n = .int .i64 (vatk t l j) ∧ Hid (Below w.heap.size w wr)) (fun _ _ i _ => l.length - (intOf i).toNat)
  case atStart => exact ⟨0, Nat.zero_le _, rfl, rfl, HB0⟩
  case round =>
    clear HB0
    obtain ⟨j, hj, rfl, rfl, HB⟩ := hrel
    by_cases hlt : j < l.length
    · obtain ⟨b, off, rfl, hbB, hc⟩ := HAT.out (by omega)
      obtain ⟨d0, d1, d2⟩ := at_cells (at_below hc HB.out (Nat.lt_of_lt_of_le hbB hB)) hlt
      have HM : Hid (vatk t l (j + 1) = if (l.getD j nov).1 ≤ t then (j : Int) else vatk t l j) := Lib.hid rfl
      generalize l.getD j nov = f at d0 d1 d2 HM
      obtain ⟨f0, f1, f2⟩ := f
      dsimp only at d0 d1 d2 HM
      have hji : (j : Int) < (l.length : Int) := by omega
      have hbd := vatk_bd t l j
      have HB2 := Lib.hid (HB.out.alloc HB.out.size (.cells #[.int .i64 f0, .string ⟨f1.toArray⟩, .bool f2] 28))
      clear hc
      by_cases hle : f0 ≤ t
      · rw [if_pos hle] at HM
        go_wp2
        go_roundw
        case rel => exact ⟨j + 1, by omega, by go_num, by rw [HM.out], HB2⟩
        case measure => simp [intOf]; omega
      · rw [if_neg hle] at HM
        go_wp2
        go_roundw
        case rel => exact ⟨j + 1, by omega, by go_num, by rw [HM.out], HB2⟩
        case measure => simp [intOf]; omega
    · have HE : Hid (vatk t l j = vat t l) := Lib.hid (by unfold vat; congr 1; omega)
      have hji : ¬ (j : Int) < (l.length : Int) := by omega
      go_wp2
      go_ret
      exact ⟨ret_z HE.out, HB.out⟩
end Go.Proofs.Ytoledhjjbneggaa.Ver
