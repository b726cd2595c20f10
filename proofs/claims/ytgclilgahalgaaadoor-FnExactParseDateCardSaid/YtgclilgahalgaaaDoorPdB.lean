/-
  CONTRACTS of the program's timeOf, longDate and plainDate; nothing that was there before is changed.
-/
import Derived.Test.YtgclilgahalgaaaDoorPdA
import Derived.Test.YtgclilgahalgaaaDoorNumImplMod
namespace Go.Proofs.YtgclilgahalgaaaDoor.Dt
open Go Go.RowKit
set_option linter.unusedVariables false

/-- What timeOf answers. -/
def tof (y : Int) (mo : List UInt8) (d : Int) (ck : List UInt8) : Int × Bool := if dof y (monOf mo) d < 0 then (0, false) else (dof y (monOf mo) d * 86400 + clo ck, decide (dof y (monOf mo) d * 86400 + clo ck ≤ 4102444799))
def TofEnd (p : Int × Bool) (w : World) (e : Ending) (w' : World) : Prop := e = .returned (.tuple #[.int .i64 p.1, .bool p.2]) ∧ Below w.heap.size w w'
theorem ret_p {a b : Int} {x y : Bool} (h : a = b) (h2 : x = y) : Ending.returned (.tuple #[.int .i64 a, .bool x]) = .returned (.tuple #[.int .i64 b, .bool y]) := by rw [h, h2]
def BelS (w w' : World) : Prop := Below w.heap.size w w'
theorem bels_call {w w0 w1 : World} (h : BelS w w0) (hb : Below w0.heap.size w0 w1) : BelS w w1 := Base.then_below h hb
theorem loose_l (l : List UInt8) (w : World) (hl : l.length ≤ 8) : Calls Tryd.prog 24 #[.string ⟨l.toArray⟩] w fun e w' => e = .returned (.int .i64 (loose l)) ∧ w = w' := by
  have := impl_loose ⟨l.toArray⟩ w (by simpa [ByteArray.size] using hl)
  simpa using this
theorem ext_l (l : List UInt8) (a b : Nat) : (⟨l.toArray⟩ : ByteArray).extract a b = ⟨((l.drop a).take (b - a)).toArray⟩ := by rw [Tx.ext_eq]

set_option maxRecDepth 100000 in
set_option maxHeartbeats 4000000 in
theorem impl_tof (y : Int) (mo : List UInt8) (d : Int) (ck : List UInt8) (w : World) (wy : (Lit.int .i64 y).wf = true) (hck : ck.length = 8) (ht : Mds w) (hn : Names w) :
    Calls Tryd.prog 23 #[.int .i64 y, .string ⟨mo.toArray⟩, .int .i64 d, .string ⟨ck.toArray⟩] w (TofEnd (tof y mo d ck) w) := by
  have HM := Lib.hid (impl_mon mo w hn)
  have HD := Lib.hid (impl_days y (monOf mo) d w wy ht)
  have hdb := dof_bd y (monOf mo) d
  have hcb := clo_bd hck
  have HE1 : Hid (dof y (monOf mo) d < 0 → tof y mo d ck = (0, false)) := Lib.hid (fun h => by unfold tof; rw [if_pos h])
  have HE2 : Hid (¬ dof y (monOf mo) d < 0 → tof y mo d ck = (dof y (monOf mo) d * 86400 + clo ck, decide (dof y (monOf mo) d * 86400 + clo ck ≤ 4102444799))) := Lib.hid (fun h => by unfold tof; rw [if_neg h])
  have hcl : clo ck = loose (ck.take 2) * 3600 + loose ((ck.drop 3).take 2) * 60 + loose (ck.drop 6) := rfl
  have b1 := loose_bd (ck.take 2)
  have b2 := loose_bd ((ck.drop 3).take 2)
  have b3 := loose_bd (ck.drop 6)
  rw [show (ck.take 2).length = 2 by simp; omega] at b1
  rw [show ((ck.drop 3).take 2).length = 2 by simp; omega] at b2
  rw [show (ck.drop 6).length = 2 by simp; omega] at b3
  have HL1 := Lib.hid (fun W => loose_l (ck.take 2) W (by simp; omega))
  have HL2 := Lib.hid (fun W => loose_l ((ck.drop 3).take 2) W (by simp; omega))
  have HL3 := Lib.hid (fun W => loose_l (ck.drop 6) W (by simp; omega))
  have e1 : (⟨ck.toArray⟩ : ByteArray).extract 0 2 = ⟨(ck.take 2).toArray⟩ := by rw [ext_l]; rfl
  have e2 : (⟨ck.toArray⟩ : ByteArray).extract 3 5 = ⟨((ck.drop 3).take 2).toArray⟩ := by rw [ext_l]
  have e3 : (⟨ck.toArray⟩ : ByteArray).extract 6 8 = ⟨(ck.drop 6).toArray⟩ := by rw [ext_l, List.take_of_length_le (by simp; omega)]
  have hsz : (⟨ck.toArray⟩ : ByteArray).size = 8 := by simpa [ByteArray.size] using hck
  unfold Num at HD
  generalize tof y mo d ck = p at HE1 HE2 ⊢
  generalize dof y (monOf mo) d = day at HD hdb HE1 HE2
  generalize clo ck = cl at hcb HE2 hcl
  generalize ck.take 2 = x1 at HL1 e1 hcl b1
  generalize (ck.drop 3).take 2 = x2 at HL2 e2 hcl b2
  generalize ck.drop 6 = x3 at HL3 e3 hcl b3
  generalize loose x1 = n1 at HL1 hcl b1
  generalize loose x2 = n2 at HL2 hcl b2
  generalize loose x3 = n3 at HL3 hcl b3
  generalize monOf mo = mm at HM HD
  clear ht hn wy
  obtain ⟨db1, db2⟩ := hdb
  obtain ⟨cb1, cb2⟩ := hcb
  obtain ⟨b11, b12⟩ := b1
  obtain ⟨b21, b22⟩ := b2
  obtain ⟨b31, b32⟩ := b3
  have b13 : n1 ≤ 99 := by omega
  have b23 : n2 ≤ 99 := by omega
  have b33 : n3 ≤ 99 := by omega
  clear b12 b22 b32
  have HCL := Lib.hid hcl
  clear hcl
  unfold TofEnd
  go_enter Tryd.func23, Tryd.ntmps23
  go_wp2_with (fail)
  go_at_call 32
  refine HM.out.mono ?_
  rintro e w0 ⟨rfl, rfl⟩
  go_wp2_with (fail)
  go_at_call 31
  refine HD.out.mono ?_
  rintro e w1 ⟨rfl, hb1⟩
  have HB := Lib.hid hb1
  clear hb1
  by_cases hneg : day < 0
  · have HE := Lib.hid (HE1.out hneg)
    go_wp2
    go_ret2
    exact ⟨by rw [HE.out]; rfl, HB.out⟩
  · have HE := Lib.hid (HE2.out (by omega))
    clear HE1 HE2
    have HSD : Hid (BelS w w1.drew) := Lib.hid (Rec.below_drew HB.out)
    have G1 : Hid (∀ u : RegS.In (BelS w), Calls Tryd.prog 24 #[.string ⟨x1.toArray⟩] u.w fun e w' => e = .returned (.int .i64 n1) ∧ u.w = w') := Lib.hid (fun u => HL1.out u.w)
    have G2 : Hid (∀ u : RegS.In (BelS w), Calls Tryd.prog 24 #[.string ⟨x2.toArray⟩] u.w fun e w' => e = .returned (.int .i64 n2) ∧ u.w = w') := Lib.hid (fun u => HL2.out u.w)
    have G3 : Hid (∀ u : RegS.In (BelS w), Calls Tryd.prog 24 #[.string ⟨x3.toArray⟩] u.w fun e w' => e = .returned (.int .i64 n3) ∧ u.w = w') := Lib.hid (fun u => HL3.out u.w)
    clear HL1 HL2 HL3 HM HD
    go_wp2
    refine RegS.region (BelS w) (by kernel_rfl) (by kernel_rfl) HSD.out ?_
    haveI : Nonempty (RegS.In (BelS w)) := ⟨⟨_, HSD.out⟩⟩
    repeat (first | go_big_quiet_step ((first | (go_at_call 24; with_reducible exact RegS.call (G1.out _) (fun e w' he => ⟨he.1, he.2 ▸ RegS.In.h _⟩)) | (go_at_call 24; with_reducible exact RegS.call (G2.out _) (fun e w' he => ⟨he.1, he.2 ▸ RegS.In.h _⟩)) | (go_at_call 24; with_reducible exact RegS.call (G3.out _) (fun e w' he => ⟨he.1, he.2 ▸ RegS.In.h _⟩)))) | quiet_step (fail))
    refine wpQuiet_nil ?_
    intro _ hw'
    obtain ⟨⟨wz, hS⟩, hw''⟩ := hw'
    subst hw''
    have HBB := Lib.hid hS
    clear hS
    go_wp2
    go_ret2
    refine ⟨?_, HBB.out⟩
    rw [HE.out]
    exact ret_p (by have := HCL.out; omega) (by have := HCL.out; rw [this]; congr 1; simp only [eq_iff_iff]; omega)
end Go.Proofs.YtgclilgahalgaaaDoor.Dt
