/-
  CONTRACTS AND PLAIN FACTS, several texts in one; each says in its own words what it proves.
-/
import Derived.Test.YtjeihicjfgimdaaGreatDoorPartAD
import Derived.Test.YtjeihicjfgimdaaGreatDoorPartAE
import Derived.Test.YtjeihicjfgimdaaGreatDoorPartAF
import Derived.Outline
import Derived.RegionTactic
set_option linter.unusedSimpArgs false
set_option linter.unusedVariables false

/-
  CONTRACTS of the program's parseDirective and directiveValue: an element that is a directive, or an error; nothing that was there before is changed.
-/
namespace Go.Proofs.YtjeihicjfgimdaaGreatDoor.Dir
open Go Go.RowKit
set_option linter.unusedVariables false
set_option maxRecDepth 1000000

def Got (t : List UInt8) (w : World) (e : Ending) (w' : World) : Prop := e = .returned (.tuple #[.string ⟨t.toArray⟩, .nilIface]) ∧ Below w.heap.size w w'
def Bad (w : World) (e : Ending) (w' : World) : Prop := (∃ tp p, e = .returned (.tuple #[.string ⟨#[]⟩, .iface tp p])) ∧ Below w.heap.size w w'

set_option maxHeartbeats 1000000 in
theorem dv_tok (y : List UInt8) (w : World) (hl : y.length ≤ 1048576) (h : Tx.token y = true) : Calls Tryz.prog 146 #[.string ⟨y.toArray⟩] w (Got y w) := by
  have hsy : (⟨y.toArray⟩ : ByteArray).size = y.length := by simp [ByteArray.size]
  have HT := Lib.hid (fun W => Tx.impl_token ⟨y.toArray⟩ W (by rw [hsy]; omega))
  have HZ : Hid (Tx.token (⟨y.toArray⟩ : ByteArray).data.toList = true) := Lib.hid h
  clear h hsy
  go_enter Tryz.func146, Tryz.ntmps146
  go_wp2_with (fail)
  go_at_call 121
  refine (HT.out _).mono ?_
  rintro e w1 ⟨he, rfl⟩
  rw [HZ.out] at he
  subst he
  go_wp2
  go_ret2
  exact ⟨rfl, Below.refl _ _⟩
set_option maxHeartbeats 1000000 in
theorem dv_unq (y : List UInt8) (w : World) (hl : y.length ≤ 1048576) (h : Tx.token y = false) (hu : Tx.unqOk y = true) : Calls Tryz.prog 146 #[.string ⟨y.toArray⟩] w (Got (Tx.unqText y) w) := by
  have hsy : (⟨y.toArray⟩ : ByteArray).size = y.length := by simp [ByteArray.size]
  have HT := Lib.hid (fun W => Tx.impl_token ⟨y.toArray⟩ W (by rw [hsy]; omega))
  have HU := Lib.hid (fun W => Tx.impl_unquote ⟨y.toArray⟩ W (by rw [hsy]; omega))
  have HZ : Hid (Tx.token (⟨y.toArray⟩ : ByteArray).data.toList = false) := Lib.hid h
  have HQ : Hid (Tx.unqOk (⟨y.toArray⟩ : ByteArray).data.toList = true) := Lib.hid hu
  clear h hsy hu
  go_enter Tryz.func146, Tryz.ntmps146
  go_wp2_with (fail)
  go_at_call 121
  refine (HT.out _).mono ?_
  rintro e w1 ⟨he, rfl⟩
  rw [HZ.out] at he
  subst he
  go_wp2_with (fail)
  go_at_call 188
  refine (HU.out _).mono ?_
  rintro e w2 ⟨he, hb⟩
  rw [HQ.out] at he
  have he : e = .returned (.tuple #[.string ⟨(Tx.unqText y).toArray⟩, .bool true]) := he
  subst he
  have HB := Lib.hid hb
  clear hb
  go_wp2
  go_ret2
  exact ⟨rfl, HB.out⟩
set_option maxHeartbeats 1000000 in
theorem dv_bad (y : List UInt8) (w : World) (hl : y.length ≤ 1048576) (h : Tx.token y = false) (hu : Tx.unqOk y = false) (hv : Errs w) : Calls Tryz.prog 146 #[.string ⟨y.toArray⟩] w (Bad w) := by
  have hsy : (⟨y.toArray⟩ : ByteArray).size = y.length := by simp [ByteArray.size]
  have HT := Lib.hid (fun W => Tx.impl_token ⟨y.toArray⟩ W (by rw [hsy]; omega))
  have HU := Lib.hid (fun W => Tx.impl_unquote ⟨y.toArray⟩ W (by rw [hsy]; omega))
  have HZ : Hid (Tx.token (⟨y.toArray⟩ : ByteArray).data.toList = false) := Lib.hid h
  have HQ : Hid (Tx.unqOk (⟨y.toArray⟩ : ByteArray).data.toList = false) := Lib.hid hu
  have HV := Lib.hid hv
  clear h hsy hu hv
  go_enter Tryz.func146, Tryz.ntmps146
  go_wp2_with (fail)
  go_at_call 121
  refine (HT.out _).mono ?_
  rintro e w1 ⟨he, rfl⟩
  rw [HZ.out] at he
  subst he
  go_wp2_with (fail)
  go_at_call 188
  refine (HU.out _).mono ?_
  rintro e w2 ⟨he, hb⟩
  rw [HQ.out] at he
  subst he
  obtain ⟨hg, tp, p, hc⟩ := (errs_below HV.out hb).2
  have HB := Lib.hid hb
  clear hb
  generalize Tx.unqText _ = t
  have hcd : w2.drew.cell? ⟨2, 0, none⟩ = some (.iface tp p) := hc
  go_wp2
  go_region
  all_goals go_wp2
  all_goals go_ret2
  all_goals exact ⟨⟨_, _, rfl⟩, Rec.below_drew HB.out⟩

/-- The result's own cells are there behind what a call did. -/
theorem res_kept {w w1 : World} {T : TypeId} {x y z : Value} (hb : Below (w.alloc (.cells #[x, y, z] T)).heap.size (w.alloc (.cells #[x, y, z] T)) w1) :
    w1.cell? ⟨w.heap.size, 0, none⟩ = some x ∧ w1.cell? ⟨w.heap.size, 1, none⟩ = some y ∧ w1.cell? ⟨w.heap.size, 2, none⟩ = some z ∧ w1.frozen? ⟨w.heap.size, 0, none⟩ = false ∧ w1.frozen? ⟨w.heap.size, 1, none⟩ = false ∧ w1.frozen? ⟨w.heap.size, 2, none⟩ = false := by
  refine ⟨?_, ?_, ?_, ?_, ?_, ?_⟩
  · rw [hb.cell (p := ⟨w.heap.size, 0, none⟩) (by simp), World.cell?_alloc_new]; rfl
  · rw [hb.cell (p := ⟨w.heap.size, 1, none⟩) (by simp), World.cell?_alloc_new]; rfl
  · rw [hb.cell (p := ⟨w.heap.size, 2, none⟩) (by simp), World.cell?_alloc_new]; rfl
  · rw [hb.frozen (p := ⟨w.heap.size, 0, none⟩) (by simp)]; simp [go_sem]
  · rw [hb.frozen (p := ⟨w.heap.size, 1, none⟩) (by simp)]; simp [go_sem]
  · rw [hb.frozen (p := ⟨w.heap.size, 2, none⟩) (by simp)]; simp [go_sem]

def PdYes (d : T) (w : World) (e : Ending) (w' : World) : Prop := e = .returned (.tuple #[fv d, .nilIface]) ∧ Below w.heap.size w w'
def PdNo (w : World) (e : Ending) (w' : World) : Prop := (∃ tp p, e = .returned (.tuple #[fv ([], [], false), .iface tp p])) ∧ Below w.heap.size w w'
theorem pair_i {x a b : List UInt8} {q : Bool} (hp : Tx.pairs x = (a, b, q)) (hl : x.length ≤ 1048576) (W : World) : Calls Tryz.prog 145 #[.string ⟨x.toArray⟩] W fun e w' => e = .returned (.tuple #[.string ⟨a.toArray⟩, .string ⟨b.toArray⟩, .bool q]) ∧ Below W.heap.size W w' := by
  have h := Tx.impl_pair ⟨x.toArray⟩ W (by simp [ByteArray.size]; omega)
  unfold Tx.PairEnd at h
  rw [show (⟨x.toArray⟩ : ByteArray).data.toList = x from rfl, hp] at h
  exact h
theorem tok_i (a : List UInt8) (hl : a.length ≤ 1048576) (W : World) : Calls Tryz.prog 121 #[.string ⟨a.toArray⟩] W fun e w' => e = .returned (.bool (Tx.token a)) ∧ W = w' := Tx.impl_token ⟨a.toArray⟩ W (by simp [ByteArray.size]; omega)
theorem low_i (a : List UInt8) (hl : a.length ≤ 1048576) (W : World) : Calls Tryz.prog 116 #[.string ⟨a.toArray⟩] W fun e w' => e = .returned (.string ⟨(Tx.lower a).toArray⟩) ∧ Below W.heap.size W w' := Tx.impl_lower ⟨a.toArray⟩ W (by simp [ByteArray.size]; omega)

set_option maxHeartbeats 2000000 in
theorem pd_no1 (x a b : List UInt8) (w : World) {q : Bool} (hp : Tx.pairs x = (a, b, q)) (ha : Tx.token a = false) (hl : x.length ≤ 1048576) (hla : a.length ≤ 1048576) (hlb : b.length ≤ 1048576) (hv : Errs w) : Calls Tryz.prog 109 #[.string ⟨x.toArray⟩] w (PdNo w) := by
  have hv0 := hv.1.1
  have HP := Lib.hid (pair_i hp hl)
  have HT := Lib.hid (tok_i a hla)
  have HW := Lib.hid (low_i a hla)
  have HV := Lib.hid (errs_below hv ((Below.refl _ _).alloc (Nat.le_refl _) (.cells #[.string ⟨#[]⟩, .string ⟨#[]⟩, .bool false] 94)))
  have HA := Lib.hid ha
  clear hp ha hv
  go_enter Tryz.func109, Tryz.ntmps109
  go_wp2_with (fail)
  go_at_call 145
  refine (HP.out _).mono ?_
  rintro e w1 ⟨rfl, hb1⟩
  have HB := Lib.hid hb1
  have HV := Lib.hid (errs_below HV.out hb1)
  clear hb1
  go_wp2_with (fail)
  go_at_call 121
  refine (HT.out _).mono ?_
  rintro e w2 ⟨he, rfl⟩
  rw [HA.out] at he
  subst he
  obtain ⟨q1, q2, q3, q4, q5, q6⟩ := res_kept HB.out
  have HBF := Lib.hid (((Below.refl w.heap.size w).alloc (Nat.le_refl _) (.cells #[.string ⟨#[]⟩, .string ⟨#[]⟩, .bool false] 94)).trans (HB.out.mono (by simp)))
  obtain ⟨hg, tp, p, hc⟩ := HV.out.1
  have hcd : w1.drew.cell? ⟨0, 0, none⟩ = some (.iface tp p) := hc
  have hne : 0 < w.heap.size := hv0
  go_wp2
  go_region
  all_goals go_wp2
  all_goals refine bodyPost_ret (v := .tuple #[.agg #[.string ⟨#[]⟩, .string ⟨#[]⟩, .bool false], .iface tp p]) (by simp [results, Tryz.results109, go_sem, q1, q2, q3, q4, q5, q6]) rfl ⟨⟨_, _, rfl⟩, ?_⟩
  all_goals exact Rec.below_drew (((HBF.out.setCell (Nat.le_refl _) _).setCell (Nat.le_refl _) _).setCell (Nat.le_refl _) _)

set_option maxHeartbeats 2000000 in
theorem pd_yes1 (x a b : List UInt8) (w : World) (hp : Tx.pairs x = (a, b, false)) (ha : Tx.token a = true) (hl : x.length ≤ 1048576) (hla : a.length ≤ 1048576) (hlb : b.length ≤ 1048576) (hv : Errs w) : Calls Tryz.prog 109 #[.string ⟨x.toArray⟩] w (PdYes (Tx.lower a, [], false) w) := by
  have HP := Lib.hid (pair_i hp hl)
  have HT := Lib.hid (tok_i a hla)
  have HW := Lib.hid (low_i a hla)
  have HV := Lib.hid (errs_below hv ((Below.refl _ _).alloc (Nat.le_refl _) (.cells #[.string ⟨#[]⟩, .string ⟨#[]⟩, .bool false] 94)))
  have HA := Lib.hid ha
  clear hp ha hv
  unfold PdYes fv
  generalize Tx.lower a = r at HW ⊢
  dsimp only
  go_enter Tryz.func109, Tryz.ntmps109
  go_wp2_with (fail)
  go_at_call 145
  refine (HP.out _).mono ?_
  rintro e w1 ⟨rfl, hb1⟩
  have HB := Lib.hid hb1
  have HV := Lib.hid (errs_below HV.out hb1)
  clear hb1
  go_wp2_with (fail)
  go_at_call 121
  refine (HT.out _).mono ?_
  rintro e w2 ⟨he, rfl⟩
  rw [HA.out] at he
  subst he
  go_wp2_with (fail)
  go_at_call 116
  refine (HW.out _).mono ?_
  rintro e x3 ⟨rfl, hb3⟩
  have HB := Lib.hid (HB.out.trans (hb3.mono HB.out.size))
  have HV := Lib.hid (errs_below HV.out hb3)
  clear hb3
  obtain ⟨q1, q2, q3, q4, q5, q6⟩ := res_kept HB.out
  have HBF := Lib.hid (((Below.refl w.heap.size w).alloc (Nat.le_refl _) (.cells #[.string ⟨#[]⟩, .string ⟨#[]⟩, .bool false] 94)).trans (HB.out.mono (by simp)))
  go_wp2
  refine bodyPost_ret (v := .tuple #[.agg #[.string ⟨r.toArray⟩, .string ⟨#[]⟩, .bool false], .nilIface]) (by simp [results, Tryz.results109, go_sem, q1, q2, q3, q4, q5, q6]) rfl ⟨rfl, ?_⟩
  exact ((HBF.out.setCell (Nat.le_refl _) _).setCell (Nat.le_refl _) _).setCell (Nat.le_refl _) _

set_option maxHeartbeats 2000000 in
theorem pd_yes2 (x a b : List UInt8) (w : World) (hp : Tx.pairs x = (a, b, true)) (ha : Tx.token a = true) (hb : Tx.token b = true) (hl : x.length ≤ 1048576) (hla : a.length ≤ 1048576) (hlb : b.length ≤ 1048576) (hv : Errs w) : Calls Tryz.prog 109 #[.string ⟨x.toArray⟩] w (PdYes (Tx.lower a, b, true) w) := by
  have HP := Lib.hid (pair_i hp hl)
  have HT := Lib.hid (tok_i a hla)
  have HW := Lib.hid (low_i a hla)
  have HV := Lib.hid (errs_below hv ((Below.refl _ _).alloc (Nat.le_refl _) (.cells #[.string ⟨#[]⟩, .string ⟨#[]⟩, .bool false] 94)))
  have HA := Lib.hid ha
  have HD := Lib.hid (fun W => dv_tok b W hlb hb)
  clear hp ha hv hb
  unfold PdYes fv
  generalize Tx.lower a = r at HW ⊢
  dsimp only
  go_enter Tryz.func109, Tryz.ntmps109
  go_wp2_with (fail)
  go_at_call 145
  refine (HP.out _).mono ?_
  rintro e w1 ⟨rfl, hb1⟩
  have HB := Lib.hid hb1
  have HV := Lib.hid (errs_below HV.out hb1)
  clear hb1
  go_wp2_with (fail)
  go_at_call 121
  refine (HT.out _).mono ?_
  rintro e w2 ⟨he, rfl⟩
  rw [HA.out] at he
  subst he
  go_wp2_with (fail)
  go_at_call 146
  refine (HD.out _).mono ?_
  rintro e x3 ⟨rfl, hb3⟩
  have HB := Lib.hid (HB.out.trans (hb3.mono HB.out.size))
  have HV := Lib.hid (errs_below HV.out hb3)
  clear hb3
  go_wp2_with (fail)
  go_at_call 116
  refine (HW.out _).mono ?_
  rintro e x4 ⟨rfl, hb4⟩
  have HB := Lib.hid (HB.out.trans (hb4.mono HB.out.size))
  have HV := Lib.hid (errs_below HV.out hb4)
  clear hb4
  obtain ⟨q1, q2, q3, q4, q5, q6⟩ := res_kept HB.out
  have HBF := Lib.hid (((Below.refl w.heap.size w).alloc (Nat.le_refl _) (.cells #[.string ⟨#[]⟩, .string ⟨#[]⟩, .bool false] 94)).trans (HB.out.mono (by simp)))
  go_wp2
  refine bodyPost_ret (v := .tuple #[.agg #[.string ⟨r.toArray⟩, .string ⟨b.toArray⟩, .bool true], .nilIface]) (by simp [results, Tryz.results109, go_sem, q1, q2, q3, q4, q5, q6]) rfl ⟨rfl, ?_⟩
  exact ((HBF.out.setCell (Nat.le_refl _) _).setCell (Nat.le_refl _) _).setCell (Nat.le_refl _) _

set_option maxHeartbeats 2000000 in
theorem pd_yes3 (x a b : List UInt8) (w : World) (hp : Tx.pairs x = (a, b, true)) (ha : Tx.token a = true) (hb : Tx.token b = false) (hu : Tx.unqOk b = true) (hl : x.length ≤ 1048576) (hla : a.length ≤ 1048576) (hlb : b.length ≤ 1048576) (hv : Errs w) : Calls Tryz.prog 109 #[.string ⟨x.toArray⟩] w (PdYes (Tx.lower a, Tx.unqText b, true) w) := by
  have HP := Lib.hid (pair_i hp hl)
  have HT := Lib.hid (tok_i a hla)
  have HW := Lib.hid (low_i a hla)
  have HV := Lib.hid (errs_below hv ((Below.refl _ _).alloc (Nat.le_refl _) (.cells #[.string ⟨#[]⟩, .string ⟨#[]⟩, .bool false] 94)))
  have HA := Lib.hid ha
  have HD := Lib.hid (fun W => dv_unq b W hlb hb hu)
  clear hp ha hv hb hu
  unfold PdYes fv
  generalize Tx.lower a = r at HW ⊢
  generalize Tx.unqText b = b2 at HD ⊢
  dsimp only
  go_enter Tryz.func109, Tryz.ntmps109
  go_wp2_with (fail)
  go_at_call 145
  refine (HP.out _).mono ?_
  rintro e w1 ⟨rfl, hb1⟩
  have HB := Lib.hid hb1
  have HV := Lib.hid (errs_below HV.out hb1)
  clear hb1
  go_wp2_with (fail)
  go_at_call 121
  refine (HT.out _).mono ?_
  rintro e w2 ⟨he, rfl⟩
  rw [HA.out] at he
  subst he
  go_wp2_with (fail)
  go_at_call 146
  refine (HD.out _).mono ?_
  rintro e x3 ⟨rfl, hb3⟩
  have HB := Lib.hid (HB.out.trans (hb3.mono HB.out.size))
  have HV := Lib.hid (errs_below HV.out hb3)
  clear hb3
  go_wp2_with (fail)
  go_at_call 116
  refine (HW.out _).mono ?_
  rintro e x4 ⟨rfl, hb4⟩
  have HB := Lib.hid (HB.out.trans (hb4.mono HB.out.size))
  have HV := Lib.hid (errs_below HV.out hb4)
  clear hb4
  obtain ⟨q1, q2, q3, q4, q5, q6⟩ := res_kept HB.out
  have HBF := Lib.hid (((Below.refl w.heap.size w).alloc (Nat.le_refl _) (.cells #[.string ⟨#[]⟩, .string ⟨#[]⟩, .bool false] 94)).trans (HB.out.mono (by simp)))
  go_wp2
  refine bodyPost_ret (v := .tuple #[.agg #[.string ⟨r.toArray⟩, .string ⟨b2.toArray⟩, .bool true], .nilIface]) (by simp [results, Tryz.results109, go_sem, q1, q2, q3, q4, q5, q6]) rfl ⟨rfl, ?_⟩
  exact ((HBF.out.setCell (Nat.le_refl _) _).setCell (Nat.le_refl _) _).setCell (Nat.le_refl _) _

set_option maxHeartbeats 2000000 in
theorem pd_no2 (x a b : List UInt8) (w : World) (hp : Tx.pairs x = (a, b, true)) (ha : Tx.token a = true) (hb : Tx.token b = false) (hu : Tx.unqOk b = false) (hl : x.length ≤ 1048576) (hla : a.length ≤ 1048576) (hlb : b.length ≤ 1048576) (hv : Errs w) : Calls Tryz.prog 109 #[.string ⟨x.toArray⟩] w (PdNo w) := by
  have HP := Lib.hid (pair_i hp hl)
  have HT := Lib.hid (tok_i a hla)
  have HW := Lib.hid (low_i a hla)
  have HV := Lib.hid (errs_below hv ((Below.refl _ _).alloc (Nat.le_refl _) (.cells #[.string ⟨#[]⟩, .string ⟨#[]⟩, .bool false] 94)))
  have HA := Lib.hid ha
  have HD := Lib.hid (fun W => dv_bad b W hlb hb hu)
  clear hp ha hv hb hu
  go_enter Tryz.func109, Tryz.ntmps109
  go_wp2_with (fail)
  go_at_call 145
  refine (HP.out _).mono ?_
  rintro e w1 ⟨rfl, hb1⟩
  have HB := Lib.hid hb1
  have HV := Lib.hid (errs_below HV.out hb1)
  clear hb1
  go_wp2_with (fail)
  go_at_call 121
  refine (HT.out _).mono ?_
  rintro e w2 ⟨he, rfl⟩
  rw [HA.out] at he
  subst he
  go_wp2_with (fail)
  go_at_call 146
  refine (HD.out _ HV.out).mono ?_
  rintro e x3 ⟨⟨tp, p, rfl⟩, hb3⟩
  have HB := Lib.hid (HB.out.trans (hb3.mono HB.out.size))
  clear hb3
  obtain ⟨q1, q2, q3, q4, q5, q6⟩ := res_kept HB.out
  have HBF := Lib.hid (((Below.refl w.heap.size w).alloc (Nat.le_refl _) (.cells #[.string ⟨#[]⟩, .string ⟨#[]⟩, .bool false] 94)).trans (HB.out.mono (by simp)))
  go_wp2
  refine bodyPost_ret (v := .tuple #[.agg #[.string ⟨#[]⟩, .string ⟨#[]⟩, .bool false], .iface tp p]) (by simp [results, Tryz.results109, go_sem, q1, q2, q3, q4, q5, q6]) rfl ⟨⟨_, _, rfl⟩, ?_⟩
  exact ((HBF.out.setCell (Nat.le_refl _) _).setCell (Nat.le_refl _) _).setCell (Nat.le_refl _) _

theorem pd_yes {x : List UInt8} {d : T} (w : World) (h : dread x = some d) (hl : x.length ≤ 1048576) (hv : Errs w) : Calls Tryz.prog 109 #[.string ⟨x.toArray⟩] w (PdYes d w) := by
  have hpl := pairs_len x
  obtain ⟨a, b, q, hp⟩ : ∃ a b q, Tx.pairs x = (a, b, q) := ⟨_, _, _, rfl⟩
  rw [dread_eq hp] at h
  rw [hp] at hpl
  simp only at hpl
  cases ha : Tx.token a <;> rw [ha] at h
  · simp at h
  · cases q
    · simp at h; subst h
      exact pd_yes1 x a b w hp ha hl (by omega) (by omega) hv
    · cases hb : Tx.token b <;> rw [hb] at h
      · cases hu : Tx.unqOk b <;> rw [hu] at h
        · simp at h
        · simp at h; subst h
          exact pd_yes3 x a b w hp ha hb hu hl (by omega) (by omega) hv
      · simp at h; subst h
        exact pd_yes2 x a b w hp ha hb hl (by omega) (by omega) hv
theorem pd_no {x : List UInt8} (w : World) (h : dread x = none) (hl : x.length ≤ 1048576) (hv : Errs w) : Calls Tryz.prog 109 #[.string ⟨x.toArray⟩] w (PdNo w) := by
  have hpl := pairs_len x
  obtain ⟨a, b, q, hp⟩ : ∃ a b q, Tx.pairs x = (a, b, q) := ⟨_, _, _, rfl⟩
  rw [dread_eq hp] at h
  rw [hp] at hpl
  simp only at hpl
  cases ha : Tx.token a <;> rw [ha] at h
  · exact pd_no1 x a b w hp ha hl (by omega) (by omega) hv
  · cases q
    · simp at h
    · cases hb : Tx.token b <;> rw [hb] at h
      · cases hu : Tx.unqOk b <;> rw [hu] at h
        · exact pd_no2 x a b w hp ha hb hu hl (by omega) (by omega) hv
        · simp at h
      · simp at h
end Go.Proofs.YtjeihicjfgimdaaGreatDoor.Dir
