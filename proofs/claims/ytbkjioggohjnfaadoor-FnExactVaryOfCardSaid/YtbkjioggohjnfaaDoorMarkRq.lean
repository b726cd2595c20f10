/-
  CONTRACTS of the laws' markStringS and markRequest, told by what they leave alone: every block but the marked list's own. Nothing else that was there before is changed.
-/
import Derived.Test.YtbkjioggohjnfaaDoorMarkStr
import Derived.Test.YtbkjioggohjnfaaDoorFldMark
import Derived.Test.YtbkjioggohjnfaaDoorMsgRq
namespace Go.Proofs.YtbkjioggohjnfaaDoor.Mark
open Go Go.RowKit
set_option linter.unusedVariables false
set_option maxRecDepth 1000000

def MarkedG (B : Nat) (v : Value) (k n : Nat) (w : World) (e : Ending) (w' : World) : Prop := e = .returned (.int .i64 ((k + n : Nat) : Int)) ∧ Strs.Own w' B v (mkl k n) ∧ w.grownBy w' v.ownBlock

set_option maxHeartbeats 1000000 in
theorem mark_strs_g (B : Nat) (v : Value) (xs : List (List UInt8)) (k : Nat) (w : World) (hown : Strs.Own w B v xs) (hB : B ≤ w.heap.size) (hk : 1 ≤ k) (hn : k + xs.length ≤ 100000000) :
    Calls Tryd.prog 11 #[v, .int .i64 (k : Int)] w (MarkedG B v k xs.length w) := by
  have hshape : ∃ a cap, v = .slice a xs.length cap ∧ (0 < xs.length → ∃ g, a = some ⟨g, 0, none⟩) := by
    rcases hown.2 with ⟨rfl, h⟩ | ⟨g, cap, cur, rfl, _⟩
    · exact ⟨none, 0, by rw [h], fun h' => by omega⟩
    · exact ⟨_, cap, rfl, fun _ => ⟨g, rfl⟩⟩
  obtain ⟨a, cap, rfl, ha⟩ := hshape
  have HA := Lib.hid ha
  have HO := Lib.hid hown
  clear ha hown
  go_enter Tryd.func11, Tryd.ntmps11
  go_wp2
  go_loopw [1, 5] (fun q i wr => ∃ j : Nat, j ≤ xs.length ∧ i = .int .i64 (j : Int) ∧ q = .int .i64 ((k + j : Nat) : Int) ∧ wr.ownsRow B 9 1 (.slice a xs.length cap) xs.length (Strs.svs (mks xs k j)) ∧ w.grownBy wr (Value.ownBlock (.slice a xs.length cap))) (fun _ i _ => xs.length - (intOf i).toNat)
  case atStart => exact ⟨0, Nat.zero_le _, rfl, rfl, by rw [mks_zero]; exact HO.out, Flds.grown_of_below (Below.refl _ _)⟩
  case round =>
    clear HO
    obtain ⟨j, hj, rfl, rfl, hown, hb⟩ := hrel
    by_cases hlt : j < xs.length
    · obtain ⟨g, rfl⟩ := HA.out (by omega)
      have HB := Lib.hid hb
      have HO := Lib.hid hown
      have HM := Lib.hid (mks_more (k := k) hlt)
      have HL := Lib.hid (mks_len (k := k) (Nat.le_of_lt hlt))
      clear hb hown
      go_wp2_with (fail)
      go_at_call 23
      refine (mark_text (k + j) _ (by omega) (by omega)).mono ?_
      rintro e w1 ⟨rfl, hb1⟩
      have hown1 : w1.ownsRow B 9 1 (.slice (some ⟨g, 0, none⟩) xs.length cap) xs.length (Strs.svs (mks xs k j)) := Flds.row_below HO.out hb1
      have hcell := Strs.own_cell hown1 hlt
      have hfz := hown1.frozenAt j
      have hst := hown1.stored j (Strs.sv (mt (k + j)))
      have hset : (Strs.svs (mks xs k j)).set j (Strs.sv (mt (k + j))) = Strs.svs (mks xs k (j + 1)) := by rw [← HM.out]; unfold Strs.svs; rw [List.map_set]
      rw [hset] at hst
      have HS := Lib.hid (And.intro hst.1 (Flds.grown_trans (Flds.grown_trans HB.out (Flds.grown_of_below hb1)) hst.2))
      clear hst hset hown1 hb1 HO
      unfold Strs.sv at hcell HS
      generalize ((mks xs k j).getD j []) = y at hcell
      generalize mt (k + j) = z at *
      go_wp2
      go_roundw
      case rel => exact ⟨j + 1, by omega, by go_num, by go_num, HS.out.1, HS.out.2⟩
      case measure => simp [intOf]; omega
    · have HE := Lib.hid (mks_all (xs := xs) (k := k) (show j = xs.length by omega))
      have HR := Lib.hid (show k + j = k + xs.length by omega)
      have HO := Lib.hid (And.intro hown hb)
      clear hown hb
      go_wp2
      go_ret
      exact ⟨ret_nat HR.out, by show World.ownsRow _ _ _ _ _ _ _; rw [mkl_len]; rw [← HE.out]; exact HO.out.1, HO.out.2⟩

end Go.Proofs.YtbkjioggohjnfaaDoor.Mark
