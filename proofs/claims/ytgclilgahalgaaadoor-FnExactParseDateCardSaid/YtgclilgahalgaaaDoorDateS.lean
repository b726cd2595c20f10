/-
  CONTRACTS of the model's FormatDate and of what it calls; nothing that was there before is changed.
-/
import Derived.Test.YtgclilgahalgaaaDoorDateM
import Derived.Test.YtgclilgahalgaaaDoorDayS
import Derived.Test.YtgclilgahalgaaaDoorWeekS
import Derived.Test.YtgclilgahalgaaaDoorDigSpec
import Derived.Test.YtgclilgahalgaaaDoorFmtSpec
import Derived.Test.YtgclilgahalgaaaDoorNumIn
import Derived.Test.YtgclilgahalgaaaDoorJoinM
import Derived.Test.YtgclilgahalgaaaDoorCutOne
import Derived.Test.YtgclilgahalgaaaDoorRec
import Derived.Test.YtgclilgahalgaaaDoorRegS
import Derived.IntWalk
namespace Go.Proofs.YtgclilgahalgaaaDoor.Dt
open Go Go.RowKit
set_option linter.unusedVariables false

def form2 (t y m d : Int) : List UInt8 := dnm (wkd (t / 86400)) ++ [44, 32] ++ Dig.digs d 2 ++ [45] ++ mnm (m - 1).toNat ++ [45] ++ Dig.digs (y % 100) 2 ++ [32] ++ clk (t % 86400) ++ [32, 71, 77, 84]
def dtx (d : Int) : List UInt8 := if d < 10 then [32] ++ Lib.itoa d else Dig.digs d 2
def form3 (t y m d : Int) : List UInt8 := (dnm (wkd (t / 86400))).take 3 ++ [32] ++ mnm (m - 1).toNat ++ [32] ++ dtx d ++ [32] ++ clk (t % 86400) ++ [32] ++ Dig.digs y 4
theorem cut3s (l : List UInt8) : (⟨l.toArray⟩ : ByteArray).extract 0 3 = ⟨(l.take 3).toArray⟩ := by rw [Tx.ext_eq]; simp
def Table (f : Nat → List UInt8) (n : Nat) (w : World) (e : Ending) (w' : World) : Prop := ∃ g, e = .returned (.slice (some ⟨g, 0, none⟩) n n) ∧ (∀ k, k < n → w'.cell? ⟨g, k, none⟩ = some (.string ⟨(f k).toArray⟩)) ∧ Below w.heap.size w w'
theorem days_tab (w : World) : Calls Tryd.prog 18 #[] w (Table dnm 7 w) := by
  go_enter Tryd.func18, Tryd.ntmps18
  go_wp2
  go_ret
  refine ⟨w.heap.size, rfl, fun k hk => ?_, (Below.refl _ _).alloc (Nat.le_refl _) _⟩
  rw [World.cell?_alloc_new]
  match k, hk with
  | 0, _ => rfl | 1, _ => rfl | 2, _ => rfl | 3, _ => rfl | 4, _ => rfl | 5, _ => rfl | 6, _ => rfl
  | k + 7, h => omega
theorem mons_tab (w : World) : Calls Tryd.prog 14 #[] w (Table mnm 12 w) := by
  go_enter Tryd.func14, Tryd.ntmps14
  go_wp2
  go_ret
  refine ⟨w.heap.size, rfl, fun k hk => ?_, (Below.refl _ _).alloc (Nat.le_refl _) _⟩
  rw [World.cell?_alloc_new]
  match k, hk with
  | 0, _ => rfl | 1, _ => rfl | 2, _ => rfl | 3, _ => rfl | 4, _ => rfl | 5, _ => rfl | 6, _ => rfl | 7, _ => rfl | 8, _ => rfl | 9, _ => rfl | 10, _ => rfl | 11, _ => rfl
  | k + 12, h => omega

set_option maxRecDepth 100000 in
set_option maxHeartbeats 2000000 in
theorem spec_clock (t : Int) (w : World) (h0 : 0 ≤ t) (h1 : t ≤ 4102444799) : Calls Tryd.prog 21 #[.int .i64 t] w fun e w' => e = .returned (.string ⟨(clk (t % 86400)).toArray⟩) ∧ Below w.heap.size w w' := by
  have hs0 : 0 ≤ t % 86400 := by omega
  have hs1 : t % 86400 ≤ 86399 := by omega
  have hs2 : 0 ≤ t % 86400 / 60 := by omega
  have hs3 : t % 86400 / 60 ≤ 1439 := by omega
  have HCK : Hid (clk (t % 86400) = Dig.digs (t % 86400 / 3600) 2 ++ [58] ++ Dig.digs (t % 86400 / 60 % 60) 2 ++ [58] ++ Dig.digs (t % 60) 2) := Lib.hid (by unfold clk; rw [show t % 86400 % 3600 / 60 = t % 86400 / 60 % 60 by omega, show t % 86400 % 60 = t % 60 by omega])
  have HG1 := Lib.hid (fun W => Dig.spec_digits (t % 86400 / 3600) 2 W (by omega))
  have HG2 := Lib.hid (fun W => Dig.spec_digits (t % 86400 / 60 % 60) 2 W (by omega))
  have HG3 := Lib.hid (fun W => Dig.spec_digits (t % 60) 2 W (by omega))
  have l1 := dg2 (n := t % 86400 / 3600) (by omega) 2
  have l2 := dg2 (n := t % 86400 / 60 % 60) (by omega) 2
  have l3 := dg2 (n := t % 60) (by omega) 2
  rw [HCK.out]
  generalize Dig.digs (t % 86400 / 3600) 2 = x1 at HG1 l1 ⊢
  generalize Dig.digs (t % 86400 / 60 % 60) 2 = x2 at HG2 l2 ⊢
  generalize Dig.digs (t % 60) 2 = x3 at HG3 l3 ⊢
  have a1 := Tx.addtwo x1 [58] (by simp only [List.length_cons, List.length_nil]; omega)
  have a2 := Tx.addtwo (x1 ++ [58]) x2 (by simp only [List.length_append, List.length_cons, List.length_nil]; omega)
  have a3 := Tx.addtwo (x1 ++ [58] ++ x2) [58] (by simp only [List.length_append, List.length_cons, List.length_nil]; omega)
  have a4 := Tx.addtwo (x1 ++ [58] ++ x2 ++ [58]) x3 (by simp only [List.length_append, List.length_cons, List.length_nil]; omega)
  generalize x1 ++ [58] = y1 at a1 a2 a3 a4 ⊢
  generalize y1 ++ x2 = y2 at a2 a3 a4 ⊢
  generalize y2 ++ [58] = y3 at a3 a4 ⊢
  generalize y3 ++ x3 = y4 at a4 ⊢
  clear l1 l2 l3 HCK
  go_enter Tryd.func21, Tryd.ntmps21
  go_wp2_with (fail)
  go_at_call 20
  with_reducible refine (HG1.out _).mono ?_
  rintro e w1 ⟨rfl, hb1⟩
  have HB := Lib.hid hb1
  clear hb1
  go_wp2_with (fail)
  go_at_call 20
  with_reducible refine (HG2.out _).mono ?_
  rintro e w2 ⟨rfl, hb2⟩
  have HB := Lib.hid (Base.then_below HB.out hb2)
  clear hb2
  go_wp2_with (fail)
  go_at_call 20
  with_reducible refine (HG3.out _).mono ?_
  rintro e w3 ⟨rfl, hb3⟩
  have HB := Lib.hid (Base.then_below HB.out hb3)
  clear hb3
  go_wp2
  go_ret
  exact ⟨rfl, HB.out⟩
end Go.Proofs.YtgclilgahalgaaaDoor.Dt
